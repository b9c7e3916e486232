/- The normal form of any filter: FilterNorms's statement holds. -/
import Derived.Test.YtjnpgfndbdddnaaGreatCom21
import Derived.Test.YtjnpgfndbdddnaaGreatCom22
import Derived.Test.YtjnpgfndbdddnaaGreatCom17
import Derived.Test.YtjnpgfndbdddnaaGreatCom5
import Derived.Test.YtjnpgfndbdddnaaGreatCom20
/- FilterNorms out of the contracts. -/
set_option linter.unusedSimpArgs false
set_option linter.unusedVariables false
namespace Go.Proofs.YtjnpgfndbdddnaaGreat
open Go.RowKit

set_option maxRecDepth 100000 in
set_option maxHeartbeats 6400000 in
theorem fnorms_walk (H : FilterOk) {w : World} {u : Value} {f : List Flt.Cl} {p : List UInt8} {s : Int} {d : Bool} (hf : Cls w (fun i => i < w.heap.size) u f) (lf : f.length ≤ 9223372036854775807)
    (bf : ∀ c ∈ f, c.pre.length ≤ 9223372036854775807 ∧ Bd (Flt.rg c)) (lp : p.length ≤ 9223372036854775807) (s0 : -9223372036854775808 ≤ s) (s1 : s ≤ 9223372036854775807) :
    Calls Tryz.prog 5 #[u, fileV p s d] w fun e w' => e = .returned (.bool true) ∧ Below w.heap.size w w' := by
  have AW := Lib.hid (fun W => flt_awake H W)
  have hb0 : Below w.heap.size w (w.alloc (.cells #[.string (mk p), .int .i64 s, .bool d] 34)) := (Below.refl _ _).alloc (Nat.le_refl _) _
  have HB0 := Lib.hid hb0
  have LI := Lib.hid (light_any (hf.below hb0) lf (fun c hc => (bf c hc).1))
  have XA := Lib.hid (Row.made w 34 #[.string (mk p), .int .i64 s, .bool d])
  have hx0 := XA.out.at 0
  have hg : w.heap.size < (w.alloc (.cells #[.string (mk p), .int .i64 s, .bool d] 34)).heap.size := by simp
  have Hg := Lib.hid hg
  have lps := mk_len p
  by_cases hlf : Flt.light f
  · have LI : Hid (Calls Tryz.prog 7 #[u] (w.alloc (.cells #[.string (mk p), .int .i64 s, .bool d] 34)) fun e w' => e = .returned (.bool true) ∧ Below (w.alloc (.cells #[.string (mk p), .int .i64 s, .bool d] 34)).heap.size (w.alloc (.cells #[.string (mk p), .int .i64 s, .bool d] 34)) w') := Lib.hid (by have := LI.out; rwa [decide_eq_true hlf] at this)
    obtain ⟨hf1, hf2⟩ := hlf
    by_cases hp2 : p.length ≤ 200
    · have g1 : ¬ (200 : Int) < ((mk p).size : Int) := by omega
      have g2 : ((mk p).size : Int) ≤ 9223372036854775807 := by omega
      have SF := Lib.hid (fun (W : World) (hW : Below w.heap.size w W) => sane_any (hf.below hW) (by omega) (fun c hc => by have := hf1 c hc; omega))
      have BF : ∀ c ∈ Flt.sane f, Flt.Bd c := fun c hc => ⟨by have := hf1 c (Flt.sane_mem hc); omega, (bf c (Flt.sane_mem hc)).2⟩
      have RF := Flt.sane_right f
      have lF : (Flt.sane f).length ≤ 24 := Nat.le_trans (Flt.sane_len f) hf2
      generalize Flt.sane f = F at *
      have RN := Flt.norm_right RF
      have BN : ∀ c ∈ Flt.norm F, Flt.Bd c := fun c hc => ⟨by obtain ⟨e, he, h⟩ := Flt.norm_pre hc; rw [← h]; exact (BF e he).1, Flt.right_bd (RN c hc)⟩
      have lN := Flt.norm_len F
      have MN := Flt.hits_same (Flt.norm_match RF p s d)
      have NO : Hid (∀ (P : Nat → Prop) (W : World) (x : Value), Cls W P x F → Calls Tryz.prog 20 #[x] W fun e w' => ∃ v', e = .returned v' ∧ Cls w' (NewIn W w') v' (Flt.norm F) ∧ Below W.heap.size W w') := Lib.hid (fun P W x hx => H.norm hx (by omega) RF BF)
      have RNo : Hid (∀ (P : Nat → Prop) (W : World) (x : Value), Cls W P x F → Calls Tryz.prog 22 #[x] W fun e w' => ∃ v', e = .returned v' ∧ RowsOwn 29 3 clV W (Flt.norm F) v' w') := Lib.hid (fun P W x hx => ref_fnorm hx (by omega) (fun c hc => (BF c hc).1))
      have EQ : Hid (∀ (P Q : Nat → Prop) (W : World) (x y : Value), Cls W P x (Flt.norm F) → Cls W Q y (Flt.norm F) → Calls Tryz.prog 21 #[x, y] W fun e w' => e = .returned (.bool true) ∧ Below W.heap.size W w') := Lib.hid (fun P Q W x y hx hy => by
        have := ref_fequal hx hy (by omega) (by omega)
        rwa [decide_eq_true (rfl : Flt.norm F = Flt.norm F)] at this)
      have MH : Hid (∀ (P : Nat → Prop) (W : World) (x : Value), Cls W P x (Flt.norm F) → Calls Tryz.prog 12 #[x, fileV p s d] W fun e w' => e = .returned (.bool (Flt.hits F p s d)) ∧ Below W.heap.size W w') := Lib.hid (fun P W x hx => by
        have := H.hits p s d hx (by omega) BN (by omega) s0 s1
        rwa [MN] at this)
      have RM : Hid (∀ (P : Nat → Prop) (W : World) (x : Value), Cls W P x F → Calls Tryz.prog 13 #[x, fileV p s d] W fun e w' => e = .returned (.bool (Flt.hits F p s d)) ∧ Below W.heap.size W w') := Lib.hid (fun P W x hx => ref_fmatch p s d hx (by omega) (by omega) (fun c hc => (BF c hc).1))
      have NN : Hid (∀ (P : Nat → Prop) (W : World) (x : Value), Cls W P x (Flt.norm F) → Calls Tryz.prog 20 #[x] W fun e w' => ∃ v', e = .returned v' ∧ Cls w' (NewIn W w') v' (Flt.norm F) ∧ Below W.heap.size W w') := Lib.hid (fun P W x hx => by
        have := H.norm hx (by omega) RN BN
        rwa [Flt.norm_norm] at this)
      have SA : Hid (∀ (P Q : Nat → Prop) (W : World) (x y : Value), Cls W P x F → Cls W Q y (Flt.norm F) → Calls Tryz.prog 23 #[x, y] W fun e w' => e = .returned (.bool true) ∧ Below W.heap.size W w') := Lib.hid (fun P Q W x y hx hy => by
        have := H.same hx hy (by omega) (by omega) RF RN BF BN
        rwa [decide_eq_true (Flt.norm_norm F).symm] at this)
      have XC : Hid (∀ (W : World), Below (w.heap.size + 1) (w.alloc (.cells #[.string (mk p), .int .i64 s, .bool d] 34)) W → W.cell? ⟨w.heap.size, 0, none⟩ = some (.string (mk p)) ∧ W.cell? ⟨w.heap.size, 1, none⟩ = some (.int .i64 s) ∧ W.cell? ⟨w.heap.size, 2, none⟩ = some (.bool d)) := Lib.hid (fun W hW => ⟨(hW.cell (p := ⟨w.heap.size, 0, none⟩) (Nat.lt_succ_self _)).trans (XA.out.at 0), (hW.cell (p := ⟨w.heap.size, 1, none⟩) (Nat.lt_succ_self _)).trans (XA.out.at 1), (hW.cell (p := ⟨w.heap.size, 2, none⟩) (Nat.lt_succ_self _)).trans (XA.out.at 2)⟩)
      unfold fileV at MH RM ⊢
      clear hf bf lf hf1 hf2 BF RF lF RN BN lN MN hp2 lp lps s0 s1 hb0
      generalize Flt.hits F p s d = b at *
      generalize Flt.norm F = NF at *
      generalize mk p = ps at *
      cases b
      all_goals
        go_enter Tryz.func5, Tryz.ntmps5
        go_wp2_with fail
        refine (LI.out).mono ?_
        rintro e w1 ⟨rfl, hb1⟩
        have hx0 : w1.cell? ⟨w.heap.size, 0, none⟩ = some (.string ps) := (hb1.cell (p := ⟨w.heap.size, 0, none⟩) Hg.out).trans (XA.out.at 0)
        have K1 := Lib.hid hb1
        have HB1 : Hid (Below w.heap.size w w1) := Lib.hid (HB0.out.trans (hb1.mono HB0.out.size))
        have XC1 : Hid (∀ (W : World), Below w1.heap.size w1 W → W.cell? ⟨w.heap.size, 0, none⟩ = some (.string ps) ∧ W.cell? ⟨w.heap.size, 1, none⟩ = some (.int .i64 s) ∧ W.cell? ⟨w.heap.size, 2, none⟩ = some (.bool d)) := Lib.hid (fun W hW => XC.out W ((hb1.mono (by simp)).trans (hW.mono (by have := hb1.size; simp at this; omega))))
        clear hb1 XC hg
        go_wp2_with fail
        refine (SF.out _ HB1.out).mono ?_
        rintro e w2 ⟨x, rfl, hx⟩
        have HX := Lib.hid hx
        clear hx
        go_wp2_with fail
        refine (NO.out _ _ _ (HX.out.rows (fun _ _ => rfl))).mono ?_
        rintro e w3 ⟨y, rfl, hy, hb3⟩
        have HF3 : Hid (∀ W, Below w3.heap.size w3 W → Cls W (NewIn w1 w2) x F) := Lib.hid (fun W hW => ((HX.out.rows (fun _ _ => rfl)).below hb3).below hW)
        have HN3 : Hid (∀ W, Below w3.heap.size w3 W → Cls W (NewIn w2 w3) y NF) := Lib.hid (fun W hW => hy.below hW)
        have K3 : Hid (Below w1.heap.size w1 w3) := Lib.hid (below_step HX.out.2 hb3)
        have XC3 : Hid (∀ (W : World), Below w3.heap.size w3 W → W.cell? ⟨w.heap.size, 0, none⟩ = some (.string ps) ∧ W.cell? ⟨w.heap.size, 1, none⟩ = some (.int .i64 s) ∧ W.cell? ⟨w.heap.size, 2, none⟩ = some (.bool d)) := Lib.hid (fun W hW => XC1.out W (below_step K3.out hW))
        clear hy hb3 HX NO SF
        go_wp2_with fail
        refine wp_region_held_drew (S := (fun w' : World => Below w3.heap.size w3 w')) (by kernel_rfl) ((Below.refl _ _).drew) (fun hHeld => ?_)
        refine wpAnyH_ready (rs := [0]) (by kernel_rfl) (by simp) ?_
        refine AllReadyH.cons rfl (fun K hK => ?_) AllReadyH.nil
        go_simp
        go_at_call 8
        refine (AW.out _).mono ?_
        rintro e wa ⟨rfl, hbN⟩
        have hhN := hHeld.trans (hbN.mono hHeld.size)
        clear hbN
        refine hK.out _ _ hhN (fun hHeld => ?_)
        clear hhN
        clear hK K
        refine wpAnyH_take (i := 1) (v := ?_) rfl (by kernel_rfl) (by kernel_rfl) (by kernel_rfl) (fun _ _ _ h => h) (Or.inl ⟨by rfl, (by intro w hSw; go_simp; try with_reducible rfl)⟩) (by assumption) ?_
        simp only [Act.put, List.getElem_toArray, List.getElem_cons_zero, List.getElem_cons_succ, List.setIfInBounds_toArray, List.set_cons_zero, List.set_cons_succ]
        refine wpAnyH_take (i := 2) (v := ?_) rfl (by kernel_rfl) (by kernel_rfl) (by kernel_rfl) (fun _ _ _ h => h) (Or.inl ⟨by rfl, (by intro w hSw; go_simp; try with_reducible rfl)⟩) (by assumption) ?_
        simp only [Act.put, List.getElem_toArray, List.getElem_cons_zero, List.getElem_cons_succ, List.setIfInBounds_toArray, List.set_cons_zero, List.set_cons_succ]
        refine wpAnyH_take (i := 3) (v := ?_) rfl (by kernel_rfl) (by kernel_rfl) (by kernel_rfl) (fun _ _ _ h => h) (Or.inl ⟨by rfl, (by intro w hSw; go_simp; try with_reducible rfl)⟩) (by assumption) ?_
        simp only [Act.put, List.getElem_toArray, List.getElem_cons_zero, List.getElem_cons_succ, List.setIfInBounds_toArray, List.set_cons_zero, List.set_cons_succ]
        refine wpAnyH_ready (rs := [4]) (by kernel_rfl) (by simp) ?_
        refine AllReadyH.cons rfl (fun K hK => ?_) AllReadyH.nil
        go_simp
        go_at_call 22
        refine (RNo.out _ _ _ (HF3.out _ hHeld)).mono ?_
        rintro e wb ⟨v1, rfl, hv1⟩
        have hhN := hHeld.trans (hv1.2.mono hHeld.size)
        have HV1 := Lib.hid hv1
        clear hv1
        refine hK.out _ _ hhN (fun hHeld => ?_)
        clear hhN
        clear hK K
        refine wpAnyH_ready (rs := [5]) (by kernel_rfl) (by simp) ?_
        refine AllReadyH.cons rfl (fun K hK => ?_) AllReadyH.nil
        go_simp
        go_at_call 21
        refine (EQ.out _ _ _ _ _ (HN3.out _ hHeld) (HV1.out.rows (fun _ _ => rfl))).mono ?_
        rintro e wc ⟨rfl, hbN⟩
        have hhN := hHeld.trans (hbN.mono hHeld.size)
        clear hbN
        refine hK.out _ _ hhN (fun hHeld => ?_)
        clear hhN
        clear hK K
        refine wpAnyH_take (i := 6) (v := ?_) rfl (by kernel_rfl) (by kernel_rfl) (by kernel_rfl) (fun _ _ _ h => h) (Or.inl ⟨by rfl, (by intro w hSw; go_simp; try with_reducible rfl)⟩) (by assumption) ?_
        simp only [Act.put, List.getElem_toArray, List.getElem_cons_zero, List.getElem_cons_succ, List.setIfInBounds_toArray, List.set_cons_zero, List.set_cons_succ]
        refine wpAnyH_take (i := 7) (v := ?_) rfl (by kernel_rfl) (by kernel_rfl) (by kernel_rfl) (fun _ _ _ h => h) (Or.inl ⟨by rfl, (by intro w hSw; go_simp; try with_reducible rfl)⟩) (by assumption) ?_
        simp only [Act.put, List.getElem_toArray, List.getElem_cons_zero, List.getElem_cons_succ, List.setIfInBounds_toArray, List.set_cons_zero, List.set_cons_succ]
        refine wpAnyH_take (i := 8) (v := ?_) rfl (by kernel_rfl) (by kernel_rfl) (by kernel_rfl) (fun _ _ _ h => h) (Or.inl ⟨by rfl, (by intro w hSw; go_simp; try with_reducible rfl)⟩) (by assumption) ?_
        simp only [Act.put, List.getElem_toArray, List.getElem_cons_zero, List.getElem_cons_succ, List.setIfInBounds_toArray, List.set_cons_zero, List.set_cons_succ]
        refine wpAnyH_take (i := 9) (v := ?_) rfl (by kernel_rfl) (by kernel_rfl) (by kernel_rfl) (fun _ _ _ h => h) (Or.inl ⟨by rfl, (by intro w hSw; have d0 := (XC3.out _ hSw).1; have d1 := (XC3.out _ hSw).2.1; have d2 := (XC3.out _ hSw).2.2; go_simp; try with_reducible rfl)⟩) (by assumption) ?_
        simp only [Act.put, List.getElem_toArray, List.getElem_cons_zero, List.getElem_cons_succ, List.setIfInBounds_toArray, List.set_cons_zero, List.set_cons_succ]
        refine wpAnyH_take (i := 11) (v := ?_) rfl (by kernel_rfl) (by kernel_rfl) (by kernel_rfl) (fun _ _ _ h => h) (Or.inl ⟨by rfl, (by intro w hSw; go_simp; try with_reducible rfl)⟩) (by assumption) ?_
        simp only [Act.put, List.getElem_toArray, List.getElem_cons_zero, List.getElem_cons_succ, List.setIfInBounds_toArray, List.set_cons_zero, List.set_cons_succ]
        refine wpAnyH_take (i := 12) (v := ?_) rfl (by kernel_rfl) (by kernel_rfl) (by kernel_rfl) (fun _ _ _ h => h) (Or.inl ⟨by rfl, (by intro w hSw; have d0 := (XC3.out _ hSw).1; have d1 := (XC3.out _ hSw).2.1; have d2 := (XC3.out _ hSw).2.2; go_simp; try with_reducible rfl)⟩) (by assumption) ?_
        simp only [Act.put, List.getElem_toArray, List.getElem_cons_zero, List.getElem_cons_succ, List.setIfInBounds_toArray, List.set_cons_zero, List.set_cons_succ]
        refine wpAnyH_ready (rs := [10]) (by kernel_rfl) (by simp) ?_
        refine AllReadyH.cons rfl (fun K hK => ?_) AllReadyH.nil
        go_simp
        go_at_call 12
        refine (MH.out _ _ _ (HN3.out _ hHeld)).mono ?_
        rintro e wd ⟨rfl, hbN⟩
        have hhN := hHeld.trans (hbN.mono hHeld.size)
        clear hbN
        refine hK.out _ _ hhN (fun hHeld => ?_)
        clear hhN
        clear hK K
        refine wpAnyH_ready (rs := [13]) (by kernel_rfl) (by simp) ?_
        refine AllReadyH.cons rfl (fun K hK => ?_) AllReadyH.nil
        go_simp
        go_at_call 13
        refine (RM.out _ _ _ (HF3.out _ hHeld)).mono ?_
        rintro e we ⟨rfl, hbN⟩
        have hhN := hHeld.trans (hbN.mono hHeld.size)
        clear hbN
        refine hK.out _ _ hhN (fun hHeld => ?_)
        clear hhN
        clear hK K
        refine wpAnyH_take (i := 14) (v := ?_) rfl (by kernel_rfl) (by kernel_rfl) (by kernel_rfl) (fun _ _ _ h => h) (Or.inl ⟨by rfl, (by intro w hSw; go_simp; try with_reducible rfl)⟩) (by assumption) ?_
        simp only [Act.put, List.getElem_toArray, List.getElem_cons_zero, List.getElem_cons_succ, List.setIfInBounds_toArray, List.set_cons_zero, List.set_cons_succ]
        refine wpAnyH_take (i := 15) (v := ?_) rfl (by kernel_rfl) (by kernel_rfl) (by kernel_rfl) (fun _ _ _ h => h) (Or.inl ⟨by rfl, (by intro w hSw; go_simp; try with_reducible rfl)⟩) (by assumption) ?_
        simp only [Act.put, List.getElem_toArray, List.getElem_cons_zero, List.getElem_cons_succ, List.setIfInBounds_toArray, List.set_cons_zero, List.set_cons_succ]
        refine wpAnyH_take (i := 16) (v := ?_) rfl (by kernel_rfl) (by kernel_rfl) (by kernel_rfl) (fun _ _ _ h => h) (Or.inl ⟨by rfl, (by intro w hSw; go_simp; try with_reducible rfl)⟩) (by assumption) ?_
        simp only [Act.put, List.getElem_toArray, List.getElem_cons_zero, List.getElem_cons_succ, List.setIfInBounds_toArray, List.set_cons_zero, List.set_cons_succ]
        refine wpAnyH_take (i := 17) (v := ?_) rfl (by kernel_rfl) (by kernel_rfl) (by kernel_rfl) (fun _ _ _ h => h) (Or.inl ⟨by rfl, (by intro w hSw; go_simp; try with_reducible rfl)⟩) (by assumption) ?_
        simp only [Act.put, List.getElem_toArray, List.getElem_cons_zero, List.getElem_cons_succ, List.setIfInBounds_toArray, List.set_cons_zero, List.set_cons_succ]
        refine wpAnyH_take (i := 19) (v := ?_) rfl (by kernel_rfl) (by kernel_rfl) (by kernel_rfl) (fun _ _ _ h => h) (Or.inl ⟨by rfl, (by intro w hSw; go_simp; try with_reducible rfl)⟩) (by assumption) ?_
        simp only [Act.put, List.getElem_toArray, List.getElem_cons_zero, List.getElem_cons_succ, List.setIfInBounds_toArray, List.set_cons_zero, List.set_cons_succ]
        refine wpAnyH_ready (rs := [18]) (by kernel_rfl) (by simp) ?_
        refine AllReadyH.cons rfl (fun K hK => ?_) AllReadyH.nil
        go_simp
        go_at_call 20
        refine (NN.out _ _ _ (HN3.out _ hHeld)).mono ?_
        rintro e wf ⟨v2, rfl, hv2, hbN⟩
        have hhN := hHeld.trans (hbN.mono hHeld.size)
        have HV2 := Lib.hid hv2
        clear hv2
        clear hbN
        refine hK.out _ _ hhN (fun hHeld => ?_)
        clear hhN
        clear hK K
        refine wpAnyH_ready (rs := [20]) (by kernel_rfl) (by simp) ?_
        refine AllReadyH.cons rfl (fun K hK => ?_) AllReadyH.nil
        go_simp
        go_at_call 21
        refine (EQ.out _ _ _ _ _ HV2.out (HN3.out _ hHeld)).mono ?_
        rintro e wg ⟨rfl, hbN⟩
        have hhN := hHeld.trans (hbN.mono hHeld.size)
        clear hbN
        refine hK.out _ _ hhN (fun hHeld => ?_)
        clear hhN
        clear hK K
        refine wpAnyH_take (i := 21) (v := ?_) rfl (by kernel_rfl) (by kernel_rfl) (by kernel_rfl) (fun _ _ _ h => h) (Or.inl ⟨by rfl, (by intro w hSw; go_simp; try with_reducible rfl)⟩) (by assumption) ?_
        simp only [Act.put, List.getElem_toArray, List.getElem_cons_zero, List.getElem_cons_succ, List.setIfInBounds_toArray, List.set_cons_zero, List.set_cons_succ]
        refine wpAnyH_take (i := 22) (v := ?_) rfl (by kernel_rfl) (by kernel_rfl) (by kernel_rfl) (fun _ _ _ h => h) (Or.inl ⟨by rfl, (by intro w hSw; go_simp; try with_reducible rfl)⟩) (by assumption) ?_
        simp only [Act.put, List.getElem_toArray, List.getElem_cons_zero, List.getElem_cons_succ, List.setIfInBounds_toArray, List.set_cons_zero, List.set_cons_succ]
        refine wpAnyH_take (i := 23) (v := ?_) rfl (by kernel_rfl) (by kernel_rfl) (by kernel_rfl) (fun _ _ _ h => h) (Or.inl ⟨by rfl, (by intro w hSw; go_simp; try with_reducible rfl)⟩) (by assumption) ?_
        simp only [Act.put, List.getElem_toArray, List.getElem_cons_zero, List.getElem_cons_succ, List.setIfInBounds_toArray, List.set_cons_zero, List.set_cons_succ]
        refine wpAnyH_take (i := 24) (v := ?_) rfl (by kernel_rfl) (by kernel_rfl) (by kernel_rfl) (fun _ _ _ h => h) (Or.inl ⟨by rfl, (by intro w hSw; go_simp; try with_reducible rfl)⟩) (by assumption) ?_
        simp only [Act.put, List.getElem_toArray, List.getElem_cons_zero, List.getElem_cons_succ, List.setIfInBounds_toArray, List.set_cons_zero, List.set_cons_succ]
        refine wpAnyH_ready (rs := [25]) (by kernel_rfl) (by simp) ?_
        refine AllReadyH.cons rfl (fun K hK => ?_) AllReadyH.nil
        go_simp
        go_at_call 23
        refine (SA.out _ _ _ _ _ (HF3.out _ hHeld) (HN3.out _ hHeld)).mono ?_
        rintro e wh ⟨rfl, hbN⟩
        have hhN := hHeld.trans (hbN.mono hHeld.size)
        clear hbN
        refine hK.out _ _ hhN (fun hHeld => ?_)
        clear hhN
        clear hK K
        refine wpAnyH_take (i := 26) (v := ?_) rfl (by kernel_rfl) (by kernel_rfl) (by kernel_rfl) (fun _ _ _ h => h) (Or.inl ⟨by rfl, (by intro w hSw; go_simp; try with_reducible rfl)⟩) (by assumption) ?_
        simp only [Act.put, List.getElem_toArray, List.getElem_cons_zero, List.getElem_cons_succ, List.setIfInBounds_toArray, List.set_cons_zero, List.set_cons_succ]
        refine wpAnyH_take (i := 27) (v := ?_) rfl (by kernel_rfl) (by kernel_rfl) (by kernel_rfl) (fun _ _ _ h => h) (Or.inl ⟨by rfl, (by intro w hSw; go_simp; try with_reducible rfl)⟩) (by assumption) ?_
        simp only [Act.put, List.getElem_toArray, List.getElem_cons_zero, List.getElem_cons_succ, List.setIfInBounds_toArray, List.set_cons_zero, List.set_cons_succ]
        refine wpAnyH_done (by kernel_rfl) ?_ _
        have Hend := Lib.hid (HB1.out.trans ((below_step K3.out hHeld).mono HB1.out.size))
        clear hHeld
        go_wp2_with fail
        go_ret
        exact ⟨rfl, Hend.out⟩
    · have g1 : (200 : Int) < ((mk p).size : Int) := by omega
      have g2 : ((mk p).size : Int) ≤ 9223372036854775807 := by omega
      unfold fileV
      clear hf bf lf hf1 hf2 hp2 lp lps s0 s1 hb0
      generalize mk p = ps at *
      go_enter Tryz.func5, Tryz.ntmps5
      go_wp2_with fail
      refine (LI.out).mono ?_
      rintro e w1 ⟨rfl, hb1⟩
      have hx0 : w1.cell? ⟨w.heap.size, 0, none⟩ = some (.string ps) := (hb1.cell (p := ⟨w.heap.size, 0, none⟩) Hg.out).trans (XA.out.at 0)
      have HB1 : Hid (Below w.heap.size w w1) := Lib.hid (HB0.out.trans (hb1.mono HB0.out.size))
      clear hb1 hg
      go_wp2_with fail
      refine (AW.out _).mono ?_
      rintro e w2 ⟨rfl, hb2⟩
      have HB2 := Lib.hid (below_step HB1.out hb2)
      clear hb2
      go_wp2_with fail
      go_ret
      exact ⟨rfl, HB2.out⟩
  · have LI : Hid (Calls Tryz.prog 7 #[u] (w.alloc (.cells #[.string (mk p), .int .i64 s, .bool d] 34)) fun e w' => e = .returned (.bool false) ∧ Below (w.alloc (.cells #[.string (mk p), .int .i64 s, .bool d] 34)).heap.size (w.alloc (.cells #[.string (mk p), .int .i64 s, .bool d] 34)) w') := Lib.hid (by have := LI.out; rwa [decide_eq_false hlf] at this)
    unfold fileV
    clear hf bf lf hlf lp lps s0 s1 hb0
    generalize mk p = ps at *
    go_enter Tryz.func5, Tryz.ntmps5
    go_wp2_with fail
    refine (LI.out).mono ?_
    rintro e w1 ⟨rfl, hb1⟩
    have HB1 : Hid (Below w.heap.size w w1) := Lib.hid (HB0.out.trans (hb1.mono HB0.out.size))
    clear hb1 hg
    go_wp2_with fail
    refine (AW.out _).mono ?_
    rintro e w2 ⟨rfl, hb2⟩
    have HB2 := Lib.hid (below_step HB1.out hb2)
    clear hb2
    go_wp2_with fail
    go_ret
    exact ⟨rfl, HB2.out⟩
end Go.Proofs.YtjnpgfndbdddnaaGreat
namespace Go.Proofs.YtjnpgfndbdddnaaGreat
open Go.RowKit

open Go.ChangeShapes Go.WideShapes Go.ChangeAt
open Go.ChangeMaps (open_string shut_string)

set_option maxRecDepth 100000 in
theorem filterNorms_lifted (os : Os) (started : os.Started) (H : Type) (enc : TypeId × Value → H) :
    ReturnsInHanded {} Tryz.checked os 5 .any (Rows.filterNormsSpec.pre6 enc Tryz.prog Tryz.f5 Rows.filterNormsRow.domain false) (Rows.filterNormsSpec.post enc Tryz.prog Tryz.f5 false true false false) := by
  refine returnsInHanded_of_change_sized (C := Tryz.checked) own started (by kernel_rfl) Tryz.func5
    (ChangeSpec.witness6 (enc := enc) (C := Tryz.checked) false ⟨#[], #[.slice none 0 0, .agg #[.string ⟨#[]⟩, .int .i64 0, .bool false]], []⟩ 8 (by kernel_rfl) (by kernel_rfl) (by kernel_rfl) (by kernel_rfl)) ?_
  intro W base args ds gs before hval0 hW _ hsz _
  have hval : ∀ (j : Nat) t v, Tryz.f5.params[j]? = some t → args[j]? = some v → Value.okWide Tryz.prog W .any base t v := hval0
  have hW0 := hW
  obtain ⟨p, q, hA0, hV, _, _, _⟩ := hW
  have hA : DataW.TrodAll enc Tryz.prog W 0 (fun _ => true) true Tryz.f5.params.toList args.toList ds p := hA0
  rw [Tryz.params5] at hA hval hsz
  obtain ⟨v0, vs0, d0, ds0, p0, q0, hargs, rfl, rfl, h0, r0⟩ := trodAll_cons hA
  obtain ⟨v1, vs1, d1, ds1, p1, q1, rfl, rfl, rfl, h1, r1⟩ := trodAll_cons r0
  obtain ⟨rfl, rfl, rfl⟩ := trodAll_nil r1
  obtain rfl : args = #[v0, v1] := by cases args; simp_all
  obtain ⟨fl, fin, f63, fbd⟩ := open_cll (okWide_slice Tryz.underlying22 (hval 0 22 v0 rfl rfl)) h0
  obtain ⟨xs, xn, xd, rfl, xlen, xn0, xn1⟩ := open_file (okWide_struct Tryz.underlying34 (hval 1 34 v1 rfl rfl)) h1
  obtain ⟨rfl, rfl⟩ := trodVars_none hV
  refine (fnorms_walk filter_ok fin f63 fbd xlen xn0 xn1).mono fun e W' ⟨he, hg⟩ => ?_
  subst he
  exact ⟨_, rfl, law_done (by kernel_rfl) rfl hW0 rfl (by rw [Tryz.params5]; decide +kernel) hg⟩

set_option maxRecDepth 100000 in
theorem filterNorms_over : Rows.filterNormsRow.holds Tryz.pinned (OpenSpec.ofChange Rows.filterNormsSpec) :=
  OpenClaim.holds_of_wide 5 Tryz.f5 rfl rfl rfl rfl rfl rfl rfl ⟨rfl, rfl, rfl, rfl, rfl⟩ rfl rfl rfl rfl rfl (by kernel_rfl) Tryz.func5 (by kernel_rfl)
    (of_decide_eq_true (by kernel_rfl)) (by unfold Func.isWrapper; first | (rw [if_pos (by decide +kernel)]; kernel_rfl) | (rw [if_neg (by decide +kernel)]; exact ⟨rfl, rfl⟩))
    (fun os started H enc _ => filterNorms_lifted os started H enc)

set_option maxRecDepth 100000 in
/-- The statement. -/
theorem filterNorms_holds : Rows.FilterNormsSaid := filterNorms_over
#print axioms filterNorms_holds
end Go.Proofs.YtjnpgfndbdddnaaGreat
