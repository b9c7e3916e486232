/- Which files any filter matches, and the sizes at any path: FilterMatches's statement holds. -/
import Derived.Test.YtjnpgfndbdddnaaGreatCom21
import Derived.Test.YtjnpgfndbdddnaaGreatCom22
import Derived.Test.YtjnpgfndbdddnaaGreatCom5
import Derived.Test.YtjnpgfndbdddnaaGreatCom20
/- FilterMatches out of the contracts. -/
set_option linter.unusedSimpArgs false
set_option linter.unusedVariables false
namespace Go.Proofs.YtjnpgfndbdddnaaGreat
open Go.RowKit

set_option maxRecDepth 100000 in
set_option maxHeartbeats 6400000 in
theorem fmatches_walk (H : FilterOk) {w : World} {u : Value} {f : List Flt.Cl} {p : List UInt8} {s : Int} {d : Bool} (hf : Cls w (fun i => i < w.heap.size) u f) (lf : f.length ≤ 9223372036854775807)
    (bf : ∀ c ∈ f, c.pre.length ≤ 9223372036854775807 ∧ Bd (Flt.rg c)) (lp : p.length ≤ 9223372036854775807) (s0 : -9223372036854775808 ≤ s) (s1 : s ≤ 9223372036854775807) :
    Calls Tryz.prog 4 #[u, fileV p s d] w fun e w' => e = .returned (.bool true) ∧ Below w.heap.size w w' := by
  have AW := Lib.hid (fun W => flt_awake H W)
  have hb0 : Below w.heap.size w (w.alloc (.cells #[.string (mk p), .int .i64 s, .bool d] 34)) := (Below.refl _ _).alloc (Nat.le_refl _) _
  have HB0 := Lib.hid hb0
  have LI := Lib.hid (light_any (hf.below hb0) lf (fun c hc => (bf c hc).1))
  have XA := Lib.hid (Row.made w 34 #[.string (mk p), .int .i64 s, .bool d])
  have hx0 := XA.out.at 0
  have hg : w.heap.size < (w.alloc (.cells #[.string (mk p), .int .i64 s, .bool d] 34)).heap.size := by simp
  have Hg := Lib.hid hg
  have lps := mk_len p
  by_cases hlf : Flt.light f
  · have LI : Hid (Calls Tryz.prog 7 #[u] (w.alloc (.cells #[.string (mk p), .int .i64 s, .bool d] 34)) fun e w' => e = .returned (.bool true) ∧ Below (w.alloc (.cells #[.string (mk p), .int .i64 s, .bool d] 34)).heap.size (w.alloc (.cells #[.string (mk p), .int .i64 s, .bool d] 34)) w') := Lib.hid (by have := LI.out; rwa [decide_eq_true hlf] at this)
    obtain ⟨hf1, hf2⟩ := hlf
    by_cases hp2 : p.length ≤ 200
    · have g1 : ¬ (200 : Int) < ((mk p).size : Int) := by omega
      have g2 : ((mk p).size : Int) ≤ 9223372036854775807 := by omega
      have BF : ∀ c ∈ f, Flt.Bd c := fun c hc => ⟨by have := hf1 c hc; omega, (bf c hc).2⟩
      have sl := Flt.sizes_len f p
      have MH := Lib.hid (fun (W : World) (hW : Below w.heap.size w W) => H.hits p s d (hf.below hW) (by omega) BF (by omega) s0 s1)
      have RM := Lib.hid (fun (W : World) (hW : Below w.heap.size w W) => ref_fmatch p s d (hf.below hW) (by omega) (by omega) (fun c hc => (BF c hc).1))
      have SZ := Lib.hid (fun (W : World) (hW : Below w.heap.size w W) => H.sizes p (hf.below hW) (by omega) BF (by omega))
      have RS := Lib.hid (fun (W : World) (hW : Below w.heap.size w W) => ref_fsizes (p := p) (hf.below hW) (by omega) (by omega) (fun c hc => (BF c hc).1))
      have OF : Hid (∀ (W A : World) (x : Value), RowsOwn 27 2 rgV W (Flt.sizes f p) x A → Calls Tryz.prog 17 #[x] A fun e w' => ∃ v', e = .returned v' ∧ RowsOwn 4 1 boolV A (Sz.of (Flt.sizes f p)) v' w') := Lib.hid (fun W A x hx => ref_of (hx.rows (fun _ _ => rfl)) (by omega))
      have FO : Hid (∀ (W A : World) (x : Value), RowsOwn 4 1 boolV W (Sz.of (Flt.sizes f p)) x A → Calls Tryz.prog 16 #[x] A fun e w' => ∃ v', e = .returned v' ∧ RowsOwn 27 2 rgV A (Sz.norm (Flt.sizes f p)) v' w') := Lib.hid (fun W A x hx => ref_form (hx.rows (fun _ _ => rfl)) (by rw [Sz.of_len]; omega))
      have SM : Hid (∀ (A B C D : World) (x y : Value), Rgs B (NewIn A B) x (Sz.norm (Flt.sizes f p)) → Below B.heap.size B C → RowsOwn 27 2 rgV C (Sz.norm (Flt.sizes f p)) y D → Calls Tryz.prog 14 #[x, y] D fun e w' => e = .returned (.bool true) ∧ Below D.heap.size D w') := Lib.hid (fun A B C D x y hx hb hy => by
        have hl := (norm_bd (Flt.sizes f p)).2
        have := ref_same ((hx.below hb).below hy.2) (hy.rows (fun r _ => rg_len r)) (by omega) (by omega)
        rw [decide_eq_true (rfl : Sz.norm (Flt.sizes f p) = Sz.norm (Flt.sizes f p))] at this
        exact this)
      have XC : Hid (∀ (W : World), Below (w.heap.size + 1) (w.alloc (.cells #[.string (mk p), .int .i64 s, .bool d] 34)) W → W.cell? ⟨w.heap.size, 0, none⟩ = some (.string (mk p)) ∧ W.cell? ⟨w.heap.size, 1, none⟩ = some (.int .i64 s) ∧ W.cell? ⟨w.heap.size, 2, none⟩ = some (.bool d)) := Lib.hid (fun W hW => ⟨(hW.cell (p := ⟨w.heap.size, 0, none⟩) (Nat.lt_succ_self _)).trans (XA.out.at 0), (hW.cell (p := ⟨w.heap.size, 1, none⟩) (Nat.lt_succ_self _)).trans (XA.out.at 1), (hW.cell (p := ⟨w.heap.size, 2, none⟩) (Nat.lt_succ_self _)).trans (XA.out.at 2)⟩)
      unfold fileV at MH RM ⊢
      clear hf bf lf hf1 hf2 BF sl hp2 lp lps s0 s1 hb0
      generalize Flt.hits f p s d = b at *
      generalize hL : Flt.sizes f p = L at *
      clear hL
      generalize mk p = ps at *
      cases b
      all_goals
        go_enter Tryz.func4, Tryz.ntmps4
        go_wp2_with fail
        refine (LI.out).mono ?_
        rintro e w1 ⟨rfl, hb1⟩
        have hx0 : w1.cell? ⟨w.heap.size, 0, none⟩ = some (.string ps) := (hb1.cell (p := ⟨w.heap.size, 0, none⟩) Hg.out).trans (XA.out.at 0)
        have K1 := Lib.hid hb1
        have HB1 : Hid (Below w.heap.size w w1) := Lib.hid (HB0.out.trans (hb1.mono HB0.out.size))
        have XC1 : Hid (∀ (W : World), Below w1.heap.size w1 W → W.cell? ⟨w.heap.size, 0, none⟩ = some (.string ps) ∧ W.cell? ⟨w.heap.size, 1, none⟩ = some (.int .i64 s) ∧ W.cell? ⟨w.heap.size, 2, none⟩ = some (.bool d)) := Lib.hid (fun W hW => XC.out W ((hb1.mono (by simp)).trans (hW.mono (by have := hb1.size; simp at this; omega))))
        clear hb1 XC hg
        go_wp2_with fail
        refine wp_region_held_drew (S := (fun w' : World => Below w1.heap.size w1 w')) (by kernel_rfl) ((Below.refl _ _).drew) (fun hHeld => ?_)
        refine wpAnyH_ready (rs := [0]) (by kernel_rfl) (by simp) ?_
        refine AllReadyH.cons rfl (fun K hK => ?_) AllReadyH.nil
        go_simp
        go_at_call 8
        refine (AW.out _).mono ?_
        rintro e wa ⟨rfl, hbN⟩
        have hhN := hHeld.trans (hbN.mono hHeld.size)
        clear hbN
        refine hK.out _ _ hhN (fun hHeld => ?_)
        clear hhN
        clear hK K
        refine wpAnyH_take (i := 1) (v := ?_) rfl (by kernel_rfl) (by kernel_rfl) (by kernel_rfl) (fun _ _ _ h => h) (Or.inl ⟨by rfl, (by intro w hSw; go_simp; try with_reducible rfl)⟩) (by assumption) ?_
        simp only [Act.put, List.getElem_toArray, List.getElem_cons_zero, List.getElem_cons_succ, List.setIfInBounds_toArray, List.set_cons_zero, List.set_cons_succ]
        refine wpAnyH_take (i := 2) (v := ?_) rfl (by kernel_rfl) (by kernel_rfl) (by kernel_rfl) (fun _ _ _ h => h) (Or.inl ⟨by rfl, (by intro w hSw; go_simp; try with_reducible rfl)⟩) (by assumption) ?_
        simp only [Act.put, List.getElem_toArray, List.getElem_cons_zero, List.getElem_cons_succ, List.setIfInBounds_toArray, List.set_cons_zero, List.set_cons_succ]
        refine wpAnyH_take (i := 3) (v := ?_) rfl (by kernel_rfl) (by kernel_rfl) (by kernel_rfl) (fun _ _ _ h => h) (Or.inl ⟨by rfl, (by intro w hSw; have d0 := (XC1.out _ hSw).1; have d1 := (XC1.out _ hSw).2.1; have d2 := (XC1.out _ hSw).2.2; go_simp; try with_reducible rfl)⟩) (by assumption) ?_
        simp only [Act.put, List.getElem_toArray, List.getElem_cons_zero, List.getElem_cons_succ, List.setIfInBounds_toArray, List.set_cons_zero, List.set_cons_succ]
        refine wpAnyH_take (i := 5) (v := ?_) rfl (by kernel_rfl) (by kernel_rfl) (by kernel_rfl) (fun _ _ _ h => h) (Or.inl ⟨by rfl, (by intro w hSw; go_simp; try with_reducible rfl)⟩) (by assumption) ?_
        simp only [Act.put, List.getElem_toArray, List.getElem_cons_zero, List.getElem_cons_succ, List.setIfInBounds_toArray, List.set_cons_zero, List.set_cons_succ]
        refine wpAnyH_take (i := 6) (v := ?_) rfl (by kernel_rfl) (by kernel_rfl) (by kernel_rfl) (fun _ _ _ h => h) (Or.inl ⟨by rfl, (by intro w hSw; have d0 := (XC1.out _ hSw).1; have d1 := (XC1.out _ hSw).2.1; have d2 := (XC1.out _ hSw).2.2; go_simp; try with_reducible rfl)⟩) (by assumption) ?_
        simp only [Act.put, List.getElem_toArray, List.getElem_cons_zero, List.getElem_cons_succ, List.setIfInBounds_toArray, List.set_cons_zero, List.set_cons_succ]
        refine wpAnyH_ready (rs := [4]) (by kernel_rfl) (by simp) ?_
        refine AllReadyH.cons rfl (fun K hK => ?_) AllReadyH.nil
        go_simp
        go_at_call 12
        refine (MH.out _ (HB1.out.trans (hHeld.mono HB1.out.size))).mono ?_
        rintro e wb ⟨rfl, hbN⟩
        have hhN := hHeld.trans (hbN.mono hHeld.size)
        clear hbN
        refine hK.out _ _ hhN (fun hHeld => ?_)
        clear hhN
        clear hK K
        refine wpAnyH_ready (rs := [7]) (by kernel_rfl) (by simp) ?_
        refine AllReadyH.cons rfl (fun K hK => ?_) AllReadyH.nil
        go_simp
        go_at_call 13
        refine (RM.out _ (HB1.out.trans (hHeld.mono HB1.out.size))).mono ?_
        rintro e wc ⟨rfl, hbN⟩
        have hhN := hHeld.trans (hbN.mono hHeld.size)
        clear hbN
        refine hK.out _ _ hhN (fun hHeld => ?_)
        clear hhN
        clear hK K
        refine wpAnyH_take (i := 8) (v := ?_) rfl (by kernel_rfl) (by kernel_rfl) (by kernel_rfl) (fun _ _ _ h => h) (Or.inl ⟨by rfl, (by intro w hSw; go_simp; try with_reducible rfl)⟩) (by assumption) ?_
        simp only [Act.put, List.getElem_toArray, List.getElem_cons_zero, List.getElem_cons_succ, List.setIfInBounds_toArray, List.set_cons_zero, List.set_cons_succ]
        refine wpAnyH_take (i := 9) (v := ?_) rfl (by kernel_rfl) (by kernel_rfl) (by kernel_rfl) (fun _ _ _ h => h) (Or.inl ⟨by rfl, (by intro w hSw; go_simp; try with_reducible rfl)⟩) (by assumption) ?_
        simp only [Act.put, List.getElem_toArray, List.getElem_cons_zero, List.getElem_cons_succ, List.setIfInBounds_toArray, List.set_cons_zero, List.set_cons_succ]
        refine wpAnyH_take (i := 10) (v := ?_) rfl (by kernel_rfl) (by kernel_rfl) (by kernel_rfl) (fun _ _ _ h => h) (Or.inl ⟨by rfl, (by intro w hSw; go_simp; try with_reducible rfl)⟩) (by assumption) ?_
        simp only [Act.put, List.getElem_toArray, List.getElem_cons_zero, List.getElem_cons_succ, List.setIfInBounds_toArray, List.set_cons_zero, List.set_cons_succ]
        refine wpAnyH_take (i := 11) (v := ?_) rfl (by kernel_rfl) (by kernel_rfl) (by kernel_rfl) (fun _ _ _ h => h) (Or.inl ⟨by rfl, (by intro w hSw; go_simp; try with_reducible rfl)⟩) (by assumption) ?_
        simp only [Act.put, List.getElem_toArray, List.getElem_cons_zero, List.getElem_cons_succ, List.setIfInBounds_toArray, List.set_cons_zero, List.set_cons_succ]
        refine wpAnyH_take (i := 12) (v := ?_) rfl (by kernel_rfl) (by kernel_rfl) (by kernel_rfl) (fun _ _ _ h => h) (Or.inl ⟨by rfl, (by intro w hSw; go_simp; try with_reducible rfl)⟩) (by assumption) ?_
        simp only [Act.put, List.getElem_toArray, List.getElem_cons_zero, List.getElem_cons_succ, List.setIfInBounds_toArray, List.set_cons_zero, List.set_cons_succ]
        refine wpAnyH_take (i := 13) (v := ?_) rfl (by kernel_rfl) (by kernel_rfl) (by kernel_rfl) (fun _ _ _ h => h) (Or.inl ⟨by rfl, (by intro w hSw; have d0 := (XC1.out _ hSw).1; have d1 := (XC1.out _ hSw).2.1; have d2 := (XC1.out _ hSw).2.2; go_simp; try with_reducible rfl)⟩) (by assumption) ?_
        simp only [Act.put, List.getElem_toArray, List.getElem_cons_zero, List.getElem_cons_succ, List.setIfInBounds_toArray, List.set_cons_zero, List.set_cons_succ]
        refine wpAnyH_take (i := 15) (v := ?_) rfl (by kernel_rfl) (by kernel_rfl) (by kernel_rfl) (fun _ _ _ h => h) (Or.inl ⟨by rfl, (by intro w hSw; go_simp; try with_reducible rfl)⟩) (by assumption) ?_
        simp only [Act.put, List.getElem_toArray, List.getElem_cons_zero, List.getElem_cons_succ, List.setIfInBounds_toArray, List.set_cons_zero, List.set_cons_succ]
        refine wpAnyH_take (i := 16) (v := ?_) rfl (by kernel_rfl) (by kernel_rfl) (by kernel_rfl) (fun _ _ _ h => h) (Or.inl ⟨by rfl, (by intro w hSw; go_simp; try with_reducible rfl)⟩) (by assumption) ?_
        simp only [Act.put, List.getElem_toArray, List.getElem_cons_zero, List.getElem_cons_succ, List.setIfInBounds_toArray, List.set_cons_zero, List.set_cons_succ]
        refine wpAnyH_take (i := 17) (v := ?_) rfl (by kernel_rfl) (by kernel_rfl) (by kernel_rfl) (fun _ _ _ h => h) (Or.inl ⟨by rfl, (by intro w hSw; have d0 := (XC1.out _ hSw).1; have d1 := (XC1.out _ hSw).2.1; have d2 := (XC1.out _ hSw).2.2; go_simp; try with_reducible rfl)⟩) (by assumption) ?_
        simp only [Act.put, List.getElem_toArray, List.getElem_cons_zero, List.getElem_cons_succ, List.setIfInBounds_toArray, List.set_cons_zero, List.set_cons_succ]
        refine wpAnyH_ready (rs := [14]) (by kernel_rfl) (by simp) ?_
        refine AllReadyH.cons rfl (fun K hK => ?_) AllReadyH.nil
        go_simp
        go_at_call 15
        refine (SZ.out _ (HB1.out.trans (hHeld.mono HB1.out.size))).mono ?_
        rintro e wd ⟨v1, rfl, hv1, hbN⟩
        have hhN := hHeld.trans (hbN.mono hHeld.size)
        have HV1 := Lib.hid hv1
        clear hv1
        clear hbN
        refine hK.out _ _ hhN (fun hHeld => ?_)
        clear hhN
        clear hK K
        refine wpAnyH_ready (rs := [18]) (by kernel_rfl) (by simp) ?_
        refine AllReadyH.cons rfl (fun K hK => ?_) AllReadyH.nil
        go_simp
        go_at_call 18
        refine (RS.out _ (HB1.out.trans (hHeld.mono HB1.out.size))).mono ?_
        rintro e we ⟨v2, rfl, hv2⟩
        have hhN := hHeld.trans (hv2.2.mono hHeld.size)
        have HV2 := Lib.hid hv2
        clear hv2
        refine hK.out _ _ hhN (fun hHeld => ?_)
        clear hhN
        clear hK K
        refine wpAnyH_ready (rs := [19]) (by kernel_rfl) (by simp) ?_
        refine AllReadyH.cons rfl (fun K hK => ?_) AllReadyH.nil
        go_simp
        go_at_call 17
        refine (OF.out _ _ _ HV2.out).mono ?_
        rintro e wf ⟨v3, rfl, hv3⟩
        have hhN := hHeld.trans (hv3.2.mono hHeld.size)
        have HV3 := Lib.hid hv3
        clear hv3
        refine hK.out _ _ hhN (fun hHeld => ?_)
        clear hhN
        clear hK K
        refine wpAnyH_ready (rs := [20]) (by kernel_rfl) (by simp) ?_
        refine AllReadyH.cons rfl (fun K hK => ?_) AllReadyH.nil
        go_simp
        go_at_call 16
        refine (FO.out _ _ _ HV3.out).mono ?_
        rintro e wg ⟨v4, rfl, hv4⟩
        have hhN := hHeld.trans (hv4.2.mono hHeld.size)
        have HV4 := Lib.hid hv4
        clear hv4
        refine hK.out _ _ hhN (fun hHeld => ?_)
        clear hhN
        clear hK K
        refine wpAnyH_ready (rs := [21]) (by kernel_rfl) (by simp) ?_
        refine AllReadyH.cons rfl (fun K hK => ?_) AllReadyH.nil
        go_simp
        go_at_call 14
        refine (SM.out _ _ _ _ _ _ HV1.out (below_step HV2.out.2 HV3.out.2) HV4.out).mono ?_
        rintro e wh ⟨rfl, hbN⟩
        have hhN := hHeld.trans (hbN.mono hHeld.size)
        clear hbN
        refine hK.out _ _ hhN (fun hHeld => ?_)
        clear hhN
        clear hK K
        refine wpAnyH_take (i := 22) (v := ?_) rfl (by kernel_rfl) (by kernel_rfl) (by kernel_rfl) (fun _ _ _ h => h) (Or.inl ⟨by rfl, (by intro w hSw; go_simp; try with_reducible rfl)⟩) (by assumption) ?_
        simp only [Act.put, List.getElem_toArray, List.getElem_cons_zero, List.getElem_cons_succ, List.setIfInBounds_toArray, List.set_cons_zero, List.set_cons_succ]
        refine wpAnyH_take (i := 23) (v := ?_) rfl (by kernel_rfl) (by kernel_rfl) (by kernel_rfl) (fun _ _ _ h => h) (Or.inl ⟨by rfl, (by intro w hSw; go_simp; try with_reducible rfl)⟩) (by assumption) ?_
        simp only [Act.put, List.getElem_toArray, List.getElem_cons_zero, List.getElem_cons_succ, List.setIfInBounds_toArray, List.set_cons_zero, List.set_cons_succ]
        refine wpAnyH_done (by kernel_rfl) ?_ _
        have Hend := Lib.hid (HB1.out.trans (hHeld.mono HB1.out.size))
        clear hHeld
        go_wp2_with fail
        go_ret
        exact ⟨rfl, Hend.out⟩
    · have g1 : (200 : Int) < ((mk p).size : Int) := by omega
      have g2 : ((mk p).size : Int) ≤ 9223372036854775807 := by omega
      unfold fileV
      clear hf bf lf hf1 hf2 hp2 lp lps s0 s1 hb0
      generalize mk p = ps at *
      go_enter Tryz.func4, Tryz.ntmps4
      go_wp2_with fail
      refine (LI.out).mono ?_
      rintro e w1 ⟨rfl, hb1⟩
      have hx0 : w1.cell? ⟨w.heap.size, 0, none⟩ = some (.string ps) := (hb1.cell (p := ⟨w.heap.size, 0, none⟩) Hg.out).trans (XA.out.at 0)
      have HB1 : Hid (Below w.heap.size w w1) := Lib.hid (HB0.out.trans (hb1.mono HB0.out.size))
      clear hb1 hg
      go_wp2_with fail
      refine (AW.out _).mono ?_
      rintro e w2 ⟨rfl, hb2⟩
      have HB2 := Lib.hid (below_step HB1.out hb2)
      clear hb2
      go_wp2_with fail
      go_ret
      exact ⟨rfl, HB2.out⟩
  · have LI : Hid (Calls Tryz.prog 7 #[u] (w.alloc (.cells #[.string (mk p), .int .i64 s, .bool d] 34)) fun e w' => e = .returned (.bool false) ∧ Below (w.alloc (.cells #[.string (mk p), .int .i64 s, .bool d] 34)).heap.size (w.alloc (.cells #[.string (mk p), .int .i64 s, .bool d] 34)) w') := Lib.hid (by have := LI.out; rwa [decide_eq_false hlf] at this)
    unfold fileV
    clear hf bf lf hlf lp lps s0 s1 hb0
    generalize mk p = ps at *
    go_enter Tryz.func4, Tryz.ntmps4
    go_wp2_with fail
    refine (LI.out).mono ?_
    rintro e w1 ⟨rfl, hb1⟩
    have HB1 : Hid (Below w.heap.size w w1) := Lib.hid (HB0.out.trans (hb1.mono HB0.out.size))
    clear hb1 hg
    go_wp2_with fail
    refine (AW.out _).mono ?_
    rintro e w2 ⟨rfl, hb2⟩
    have HB2 := Lib.hid (below_step HB1.out hb2)
    clear hb2
    go_wp2_with fail
    go_ret
    exact ⟨rfl, HB2.out⟩
end Go.Proofs.YtjnpgfndbdddnaaGreat
namespace Go.Proofs.YtjnpgfndbdddnaaGreat
open Go.RowKit

open Go.ChangeShapes Go.WideShapes Go.ChangeAt
open Go.ChangeMaps (open_string shut_string)

set_option maxRecDepth 100000 in
theorem filterMatches_lifted (os : Os) (started : os.Started) (H : Type) (enc : TypeId × Value → H) :
    ReturnsInHanded {} Tryz.checked os 4 .any (Rows.filterMatchesSpec.pre6 enc Tryz.prog Tryz.f4 Rows.filterMatchesRow.domain false) (Rows.filterMatchesSpec.post enc Tryz.prog Tryz.f4 false true false false) := by
  refine returnsInHanded_of_change_sized (C := Tryz.checked) own started (by kernel_rfl) Tryz.func4
    (ChangeSpec.witness6 (enc := enc) (C := Tryz.checked) false ⟨#[], #[.slice none 0 0, .agg #[.string ⟨#[]⟩, .int .i64 0, .bool false]], []⟩ 8 (by kernel_rfl) (by kernel_rfl) (by kernel_rfl) (by kernel_rfl)) ?_
  intro W base args ds gs before hval0 hW _ hsz _
  have hval : ∀ (j : Nat) t v, Tryz.f4.params[j]? = some t → args[j]? = some v → Value.okWide Tryz.prog W .any base t v := hval0
  have hW0 := hW
  obtain ⟨p, q, hA0, hV, _, _, _⟩ := hW
  have hA : DataW.TrodAll enc Tryz.prog W 0 (fun _ => true) true Tryz.f4.params.toList args.toList ds p := hA0
  rw [Tryz.params4] at hA hval hsz
  obtain ⟨v0, vs0, d0, ds0, p0, q0, hargs, rfl, rfl, h0, r0⟩ := trodAll_cons hA
  obtain ⟨v1, vs1, d1, ds1, p1, q1, rfl, rfl, rfl, h1, r1⟩ := trodAll_cons r0
  obtain ⟨rfl, rfl, rfl⟩ := trodAll_nil r1
  obtain rfl : args = #[v0, v1] := by cases args; simp_all
  obtain ⟨fl, fin, f63, fbd⟩ := open_cll (okWide_slice Tryz.underlying22 (hval 0 22 v0 rfl rfl)) h0
  obtain ⟨xs, xn, xd, rfl, xlen, xn0, xn1⟩ := open_file (okWide_struct Tryz.underlying34 (hval 1 34 v1 rfl rfl)) h1
  obtain ⟨rfl, rfl⟩ := trodVars_none hV
  refine (fmatches_walk filter_ok fin f63 fbd xlen xn0 xn1).mono fun e W' ⟨he, hg⟩ => ?_
  subst he
  exact ⟨_, rfl, law_done (by kernel_rfl) rfl hW0 rfl (by rw [Tryz.params4]; decide +kernel) hg⟩

set_option maxRecDepth 100000 in
theorem filterMatches_over : Rows.filterMatchesRow.holds Tryz.pinned (OpenSpec.ofChange Rows.filterMatchesSpec) :=
  OpenClaim.holds_of_wide 4 Tryz.f4 rfl rfl rfl rfl rfl rfl rfl ⟨rfl, rfl, rfl, rfl, rfl⟩ rfl rfl rfl rfl rfl (by kernel_rfl) Tryz.func4 (by kernel_rfl)
    (of_decide_eq_true (by kernel_rfl)) (by unfold Func.isWrapper; first | (rw [if_pos (by decide +kernel)]; kernel_rfl) | (rw [if_neg (by decide +kernel)]; exact ⟨rfl, rfl⟩))
    (fun os started H enc _ => filterMatches_lifted os started H enc)

set_option maxRecDepth 100000 in
/-- The statement. -/
theorem filterMatches_holds : Rows.FilterMatchesSaid := filterMatches_over
#print axioms filterMatches_holds
end Go.Proofs.YtjnpgfndbdddnaaGreat
