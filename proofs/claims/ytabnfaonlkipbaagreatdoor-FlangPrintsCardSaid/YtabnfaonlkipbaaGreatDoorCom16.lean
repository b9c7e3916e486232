/- The document's own answers of layer 11: Clause. -/
import Derived.Test.YtabnfaonlkipbaaGreatDoorCom13
import Derived.Test.YtabnfaonlkipbaaGreatDoorCom15
set_option linter.unusedSimpArgs false
set_option linter.unusedVariables false
namespace Go.Proofs.YtabnfaonlkipbaaGreatDoor
open Go.RowKit

set_option maxRecDepth 100000 in
theorem Flg.clause_of {s : List UInt8} {c : Flt.Cl} (h : Flg.read s = some c) : (Flg.clause s).isSome = decide (Flt.Right c) ∧ ∀ d, Flg.clause s = some d → c = d := by
  unfold Flg.clause
  rw [h]
  simp only
  by_cases hr : Flt.Right c
  · rw [if_pos hr, decide_eq_true hr]
    exact ⟨rfl, fun d hd => by injection hd⟩
  · rw [if_neg hr, decide_eq_false hr]
    exact ⟨rfl, fun d hd => by cases hd⟩
set_option maxRecDepth 100000 in
theorem Flg.clause_no {s : List UInt8} (h : Flg.read s = none) : Flg.clause s = none := by
  unfold Flg.clause
  rw [h]
set_option maxRecDepth 100000 in
theorem Flg.unstar_len {a : List UInt8} {k : Nat} (h : a.length ≤ k) : (Flg.unstar a).length ≤ k := by
  unfold Flg.unstar
  split
  · exact Nat.zero_le _
  · exact h
set_option maxRecDepth 100000 in
theorem str_one (p : List UInt8) (c : UInt8) : ((mk p).toList == [c]) = decide (p = [c]) := by
  rw [Lib.toList_data, mk_data]
  by_cases h : p = [c]
  · rw [h, decide_eq_true rfl]; exact beq_self_eq_true _
  · rw [decide_eq_false h, beq_eq_false_iff_ne]; exact h

set_option maxRecDepth 100000 in
set_option maxHeartbeats 6400000 in
theorem ref_clause11 (s : List UInt8) (w : World) (hs : s.length ≤ 100000) :
    Calls Tryz.prog 27 #[.string (mk s)] w fun e w' => ∃ c : Flt.Cl, e = .returned (.tuple #[.agg #[.string (mk c.pre), .int .i64 c.lo, .int .i64 c.hi], .bool (Flg.clause s).isSome]) ∧ (∀ d, Flg.clause s = some d → c = d) ∧ Below w.heap.size w w' := by
  have hB0 : Below w.heap.size w (w.alloc (.cells #[.string ⟨#[]⟩, .int .i64 0, .int .i64 0] 42)) := (Below.refl _ _).alloc (Nat.le_refl _) _
  have HB0 := Lib.hid hB0
  have RW := Lib.hid (Row.made w 42 #[.string ⟨#[]⟩, .int .i64 0, .int .i64 0])
  have HZ : Hid (w.heap.size < (w.alloc (.cells #[.string ⟨#[]⟩, .int .i64 0, .int .i64 0] 42)).heap.size) := Lib.hid (by simp)
  have Hsz : Hid ((Tryz.prog.info? 42).map (·.size) = some 3) := Lib.hid (by kernel_rfl)
  have SP := Lib.hid (ref_parts 58 s (w.alloc (.cells #[.string ⟨#[]⟩, .int .i64 0, .int .i64 0] 42)) hs)
  have e58 : ((58 : UInt8).toNat : Int) = 58 := rfl
  rw [e58] at SP
  have hsm := (Flg.cut_small 58 s []).1
  have hL0 := Flg.cut_ne 58 s
  obtain ⟨a, r, hL⟩ : ∃ a r, Flg.cut 58 s = a :: r := by
    cases hc : Flg.cut 58 s with
    | nil => exact absurd hc hL0
    | cons a r => exact ⟨a, r, rfl⟩
  have HA : Hid (∀ x ∈ a :: r, x.length ≤ 100000) := Lib.hid (fun x hx => by
    have := hsm x (by rw [show Flg.splitC 58 [] s = Flg.cut 58 s from rfl, hL]; exact hx)
    simp at this
    omega)
  rw [hL] at SP
  have hal := HA.out a (List.mem_cons_self ..)
  have ia := str_empty a
  have ea := str_nil a
  have es := str_one a 42
  have RT := Lib.hid (fun (c : Flt.Cl) (hc : c.pre.length ≤ 100000) (W : World) => ref_fright c W hc)
  have NU := Lib.hid (fun (x : List UInt8) (W : World) => ref_number11 x W)
  have SQ := Lib.hid (fun (x : List UInt8) (hx : x.length ≤ 100000) (W : World) => ref_parts 45 x W hx)
  have e45 : ((45 : UInt8).toNat : Int) = 45 := rfl
  rw [e45] at SQ
  have hread : Flg.read s = match a :: r with
    | [a] => if a = [] then none else some ⟨Flg.unstar a, 0, 200⟩
    | [a, b] => if a = [] then none else match Flg.cut 45 b with
      | [x, y] => some ⟨Flg.unstar a, Flg.number x, Flg.number y⟩
      | _ => none
    | _ => none := by
    unfold Flg.read
    rw [hL]
    match r with
    | [] => rfl
    | [_] => rfl
    | _ :: _ :: _ => rfl
  clear hB0 hsm hL0 hL hs e58 e45
  generalize mk s = u at *
  go_enter Tryz.func27, Tryz.ntmps27
  go_wp2_with fail
  refine (SP.out).mono ?_
  rintro e w1 ⟨tv, rfl, htv, hb1⟩
  obtain ⟨b, o, tc, rfl, htc, -, hbl⟩ := htv.block (by simp)
  have RW1 := Lib.hid (RW.out.below hb1 HZ.out)
  have HB1 := Lib.hid (HB0.out.trans (hb1.mono HB0.out.size))
  have CT : Hid (∀ W, Below w1.heap.size w1 W → W.cell? ⟨b, o, none⟩ = some (.string (mk a)) ∧ ∀ x, r[0]? = some x → W.cell? ⟨b, o + 1, none⟩ = some (.string (mk x))) := Lib.hid (fun W hW => ⟨by
    have := Txs.at (htv.below hW) (i := 0) (x := a) rfl
    rwa [Nat.add_zero] at this, fun x hx => Txs.at (htv.below hW) (i := 1) (x := x) hx⟩)
  have hlen : (a :: r).length = r.length + 1 := rfl
  rw [hlen]
  rw [hlen] at htc
  clear htv hb1 hlen hbl RW HZ
  have hA2 : Below w1.heap.size w1 (w1.alloc (.cells #[.string (mk a), .int .i64 0, .int .i64 200] 42)) := (Below.refl _ _).alloc (Nat.le_refl _) _
  have hA3 : Below w1.heap.size w1 (w1.alloc (.cells #[.string ⟨#[]⟩, .int .i64 0, .int .i64 200] 42)) := (Below.refl _ _).alloc (Nat.le_refl _) _
  have HA2 := Lib.hid hA2
  have HA3 := Lib.hid hA3
  have c0 := (CT.out w1 (Below.refl _ _)).1
  have c0a := (CT.out _ hA2).1
  have c0b := (CT.out _ hA3).1
  have hlt1 := RW1.out.inHeap
  have HC2 := Lib.hid (Row.made w1 42 #[.string (mk a), .int .i64 0, .int .i64 200])
  have HC3 := Lib.hid (Row.made w1 42 #[.string ⟨#[]⟩, .int .i64 0, .int .i64 200])
  have HR2 := Lib.hid (RW1.out.below hA2 hlt1)
  have HR3 := Lib.hid (RW1.out.below hA3 hlt1)
  have Hlt1 := Lib.hid hlt1
  have hr0 : (0 : Int) ≤ (r.length : Int) + 1 := by omega
  clear hA2 hA3 hlt1
  by_cases ha : a = []
  · have hn := Flg.clause_no (s := s) (by
      rw [hread]
      match r with
      | [] => exact if_pos ha
      | [b] => exact if_pos ha
      | _ :: _ :: _ => rfl)
    have Hn := Lib.hid hn
    rw [decide_eq_true ha] at ea ia
    have g0 : (0 : Int) < (r.length : Int) + 1 := by omega
    clear hn hread ha es
    have HAS : Hid (mk a = mk a) := Lib.hid rfl
    clear HAS
    have hR := HR2.out
    have q0 := hR.at 0
    have q1 := hR.at 1
    have q2 := hR.at 2
    have f0 := hR.free 0
    have f1 := hR.free 1
    have f2 := hR.free 2
    have hCC := HC2.out
    have y0 := hCC.at 0
    have y1 := hCC.at 1
    have y2 := hCC.at 2
    clear c0b hCC
    go_wp2_with fail
    have hrS := Lib.hid (((hR.stored 0 (.string (mk a))).stored 1 (.int .i64 0)).stored 2 (.int .i64 200))
    refine bodyPost_ret (v := .tuple #[.agg #[.string (mk a), .int .i64 0, .int .i64 200], .bool false]) ?_ rfl ⟨⟨a, 0, 200⟩, by rw [Hn.out]; rfl, fun d hd => (by rw [Hn.out] at hd; cases hd), flg_put (flg_put (flg_put (HB1.out.trans (HA2.out.mono HB1.out.size)) (Nat.le_refl _) _) (Nat.le_refl _) _) (Nat.le_refl _) _⟩
    rw [results_cell_tmp (by rfl)]
    have hl := run_loadVar_row (P := Tryz.prog) _ w.heap.size 42 42 _ (0, 0) _ hrS.out Tryz.underlying42 rfl Hsz.out
    simp [asAddr, hl, Result.andThen]
  · rw [decide_eq_false ha] at ea ia
    by_cases h2 : 2 < r.length + 1
    · have hn := Flg.clause_no (s := s) (by
        rw [hread]
        match r, h2 with
        | _ :: _ :: _, _ => rfl)
      have Hn := Lib.hid hn
      have g0 : (0 : Int) < (r.length : Int) + 1 := by omega
      have g1 : (2 : Int) < (r.length : Int) + 1 := by omega
      clear hn hread ha es h2
      have HAS : Hid (mk a = mk a) := Lib.hid rfl
      clear HAS
      have hR := HR2.out
      have q0 := hR.at 0
      have q1 := hR.at 1
      have q2 := hR.at 2
      have f0 := hR.free 0
      have f1 := hR.free 1
      have f2 := hR.free 2
      have hCC := HC2.out
      have y0 := hCC.at 0
      have y1 := hCC.at 1
      have y2 := hCC.at 2
      clear c0b hCC
      go_wp2_with fail
      have hrS := Lib.hid (((hR.stored 0 (.string (mk a))).stored 1 (.int .i64 0)).stored 2 (.int .i64 200))
      refine bodyPost_ret (v := .tuple #[.agg #[.string (mk a), .int .i64 0, .int .i64 200], .bool false]) ?_ rfl ⟨⟨a, 0, 200⟩, by rw [Hn.out]; rfl, fun d hd => (by rw [Hn.out] at hd; cases hd), flg_put (flg_put (flg_put (HB1.out.trans (HA2.out.mono HB1.out.size)) (Nat.le_refl _) _) (Nat.le_refl _) _) (Nat.le_refl _) _⟩
      rw [results_cell_tmp (by rfl)]
      have hl := run_loadVar_row (P := Tryz.prog) _ w.heap.size 42 42 _ (0, 0) _ hrS.out Tryz.underlying42 rfl Hsz.out
      simp [asAddr, hl, Result.andThen]
    · match r, h2 with
      | [], _ =>
        have hcl := Lib.hid (Flg.clause_of (s := s) (c := ⟨Flg.unstar a, 0, 200⟩) (by rw [hread]; exact if_neg ha))
        have RC := Lib.hid (fun W => RT.out ⟨Flg.unstar a, 0, 200⟩ (Flg.unstar_len hal) W)
        clear hread ha
        by_cases h42 : a = [42]
        · rw [decide_eq_true h42] at es
          have hun : Flg.unstar a = [] := by unfold Flg.unstar; rw [if_pos h42]
          rw [hun] at hcl RC
          clear hun h42
          have HAS : Hid (mk a = mk a) := Lib.hid rfl
          have em0 : mk [] = ⟨#[]⟩ := rfl
          rw [em0] at RC
          clear HAS em0
          have HEA : Hid (mk a = mk a) := Lib.hid rfl
          clear HEA
          generalize hAS : mk a = am at *
          have HAS := Lib.hid hAS
          clear hAS
          have hR := HR3.out
          have q0 := hR.at 0
          have q1 := hR.at 1
          have q2 := hR.at 2
          have f0 := hR.free 0
          have f1 := hR.free 1
          have f2 := hR.free 2
          have hCC := HC3.out
          have y0 := hCC.at 0
          have y1 := hCC.at 1
          have y2 := hCC.at 2
          clear hR hCC
          go_wp2_with fail
          have HBX := Lib.hid (HB1.out.trans (HA3.out.mono HB1.out.size))
          clear q0 q1 q2 f0 f1 f2
          refine wp_region_held_drew (S := (fun w' : World => Row w' w1.heap.size 42 #[.string ⟨#[]⟩, .int .i64 0, .int .i64 200])) (by kernel_rfl) (HC3.out.behindDraw) (fun hHeld => ?_)
          refine wpAnyH_take (i := 0) (v := ?_) rfl (by kernel_rfl) (by kernel_rfl) (by kernel_rfl) (fun _ _ _ h => h) (Or.inl ⟨by rfl, (by intro w hSw; have d0 := hSw.at 0; have d1 := hSw.at 1; have d2 := hSw.at 2; go_simp; try with_reducible rfl)⟩) (by assumption) ?_
          simp only [Act.put, List.getElem_toArray, List.getElem_cons_zero, List.getElem_cons_succ, List.setIfInBounds_toArray, List.set_cons_zero, List.set_cons_succ]
          refine wpAnyH_take (i := 1) (v := ?_) rfl (by kernel_rfl) (by kernel_rfl) (by kernel_rfl) (fun _ _ _ h => h) (Or.inl ⟨by rfl, (by intro w hSw; have d0 := hSw.at 0; have d1 := hSw.at 1; have d2 := hSw.at 2; go_simp; try with_reducible rfl)⟩) (by assumption) ?_
          simp only [Act.put, List.getElem_toArray, List.getElem_cons_zero, List.getElem_cons_succ, List.setIfInBounds_toArray, List.set_cons_zero, List.set_cons_succ]
          refine wpAnyH_ready (rs := [2]) (by kernel_rfl) (by simp) ?_
          refine AllReadyH.cons rfl (fun K hK => ?_) AllReadyH.nil
          go_simp
          go_at_call 45
          refine (RC.out _).mono ?_
          rintro e w5 ⟨rfl, hbN⟩
          have HB5 := Lib.hid (((Below.refl (w1.alloc (.cells #[.string ⟨#[]⟩, .int .i64 0, .int .i64 200] 42)).heap.size (w1.alloc (.cells #[.string ⟨#[]⟩, .int .i64 0, .int .i64 200] 42))).drew).trans (hbN.mono (Nat.le_refl _)))
          clear hbN
          have hC5 := HC3.out.below HB5.out HC3.out.inHeap
          refine hK.out _ _ hC5 (fun hHeld => ?_)
          clear hC5
          clear hK K
          refine wpAnyH_ready (rs := [3]) (by kernel_rfl) (by simp) ?_
          refine AllReadyH.cons rfl (fun K hK => ?_) AllReadyH.nil
          have HR5 := Lib.hid (HR3.out.below HB5.out HR3.out.inHeap)
          have hR := HR5.out
          have q0 := hR.at 0
          have q1 := hR.at 1
          have q2 := hR.at 2
          have f0 := hR.free 0
          have f1 := hR.free 1
          have f2 := hR.free 2
          have hC5 := HC3.out.below HB5.out HC3.out.inHeap
          have hC6 := ((hC5.storedElsewhere (p := ⟨w.heap.size, 0, none⟩) (by show ¬ w.heap.size = w1.heap.size; have := Hlt1.out; omega) (.string ⟨#[]⟩)).storedElsewhere (p := ⟨w.heap.size, 1, none⟩) (by show ¬ w.heap.size = w1.heap.size; have := Hlt1.out; omega) (.int .i64 0)).storedElsewhere (p := ⟨w.heap.size, 2, none⟩) (by show ¬ w.heap.size = w1.heap.size; have := Hlt1.out; omega) (.int .i64 200)
          go_simp
          refine hK.out _ _ hC6 (fun hHeld => ?_)
          clear hC5 hC6 hR
          clear hK K
          refine wpAnyH_take (i := 4) (v := ?_) rfl (by kernel_rfl) (by kernel_rfl) (by kernel_rfl) (fun _ _ _ h => h) (Or.inl ⟨by rfl, (by intro w hSw; go_simp; try with_reducible rfl)⟩) (by assumption) ?_
          simp only [Act.put, List.getElem_toArray, List.getElem_cons_zero, List.getElem_cons_succ, List.setIfInBounds_toArray, List.set_cons_zero, List.set_cons_succ]
          refine wpAnyH_done (by kernel_rfl) ?_ _
          go_wp2_with fail
          have hrS := Lib.hid (((HR5.out.stored 0 (.string ⟨#[]⟩)).stored 1 (.int .i64 0)).stored 2 (.int .i64 200))
          refine bodyPost_ret (v := .tuple #[.agg #[.string ⟨#[]⟩, .int .i64 0, .int .i64 200], .bool (decide (Flt.Right ⟨[], 0, 200⟩))]) ?_ rfl ⟨⟨[], 0, 200⟩, by rw [hcl.out.1]; rfl, hcl.out.2, flg_put (flg_put (flg_put (HBX.out.trans (HB5.out.mono HBX.out.size)) (Nat.le_refl _) _) (Nat.le_refl _) _) (Nat.le_refl _) _⟩
          rw [results_cell_tmp (by rfl)]
          have hl := run_loadVar_row (P := Tryz.prog) _ w.heap.size 42 42 _ (0, 0) _ hrS.out Tryz.underlying42 rfl Hsz.out
          simp [asAddr, hl, Result.andThen]
        · rw [decide_eq_false h42] at es
          have hun : Flg.unstar a = a := by unfold Flg.unstar; rw [if_neg h42]
          rw [hun] at hcl RC
          clear hun h42
          have HAS : Hid (mk a = mk a) := Lib.hid rfl
          clear HAS
          have HEA : Hid (mk a = mk a) := Lib.hid rfl
          clear HEA
          generalize hAS : mk a = am at *
          have HAS := Lib.hid hAS
          clear hAS
          have hR := HR2.out
          have q0 := hR.at 0
          have q1 := hR.at 1
          have q2 := hR.at 2
          have f0 := hR.free 0
          have f1 := hR.free 1
          have f2 := hR.free 2
          have hCC := HC2.out
          have y0 := hCC.at 0
          have y1 := hCC.at 1
          have y2 := hCC.at 2
          clear hR hCC
          go_wp2_with fail
          have HBX := Lib.hid (HB1.out.trans (HA2.out.mono HB1.out.size))
          clear q0 q1 q2 f0 f1 f2
          refine wp_region_held_drew (S := (fun w' : World => Row w' w1.heap.size 42 #[.string am, .int .i64 0, .int .i64 200])) (by kernel_rfl) (HC2.out.behindDraw) (fun hHeld => ?_)
          refine wpAnyH_take (i := 0) (v := ?_) rfl (by kernel_rfl) (by kernel_rfl) (by kernel_rfl) (fun _ _ _ h => h) (Or.inl ⟨by rfl, (by intro w hSw; have d0 := hSw.at 0; have d1 := hSw.at 1; have d2 := hSw.at 2; go_simp; try with_reducible rfl)⟩) (by assumption) ?_
          simp only [Act.put, List.getElem_toArray, List.getElem_cons_zero, List.getElem_cons_succ, List.setIfInBounds_toArray, List.set_cons_zero, List.set_cons_succ]
          refine wpAnyH_take (i := 1) (v := ?_) rfl (by kernel_rfl) (by kernel_rfl) (by kernel_rfl) (fun _ _ _ h => h) (Or.inl ⟨by rfl, (by intro w hSw; have d0 := hSw.at 0; have d1 := hSw.at 1; have d2 := hSw.at 2; go_simp; try with_reducible rfl)⟩) (by assumption) ?_
          simp only [Act.put, List.getElem_toArray, List.getElem_cons_zero, List.getElem_cons_succ, List.setIfInBounds_toArray, List.set_cons_zero, List.set_cons_succ]
          refine wpAnyH_ready (rs := [2]) (by kernel_rfl) (by simp) ?_
          refine AllReadyH.cons rfl (fun K hK => ?_) AllReadyH.nil
          go_simp
          go_at_call 45
          refine (RC.out _).mono ?_
          rintro e w5 ⟨rfl, hbN⟩
          have HB5 := Lib.hid (((Below.refl (w1.alloc (.cells #[.string am, .int .i64 0, .int .i64 200] 42)).heap.size (w1.alloc (.cells #[.string am, .int .i64 0, .int .i64 200] 42))).drew).trans (hbN.mono (Nat.le_refl _)))
          clear hbN
          have hC5 := HC2.out.below HB5.out HC2.out.inHeap
          refine hK.out _ _ hC5 (fun hHeld => ?_)
          clear hC5
          clear hK K
          refine wpAnyH_ready (rs := [3]) (by kernel_rfl) (by simp) ?_
          refine AllReadyH.cons rfl (fun K hK => ?_) AllReadyH.nil
          have HR5 := Lib.hid (HR2.out.below HB5.out HR2.out.inHeap)
          have hR := HR5.out
          have q0 := hR.at 0
          have q1 := hR.at 1
          have q2 := hR.at 2
          have f0 := hR.free 0
          have f1 := hR.free 1
          have f2 := hR.free 2
          have hC5 := HC2.out.below HB5.out HC2.out.inHeap
          have hC6 := ((hC5.storedElsewhere (p := ⟨w.heap.size, 0, none⟩) (by show ¬ w.heap.size = w1.heap.size; have := Hlt1.out; omega) (.string am)).storedElsewhere (p := ⟨w.heap.size, 1, none⟩) (by show ¬ w.heap.size = w1.heap.size; have := Hlt1.out; omega) (.int .i64 0)).storedElsewhere (p := ⟨w.heap.size, 2, none⟩) (by show ¬ w.heap.size = w1.heap.size; have := Hlt1.out; omega) (.int .i64 200)
          go_simp
          refine hK.out _ _ hC6 (fun hHeld => ?_)
          clear hC5 hC6 hR
          clear hK K
          refine wpAnyH_take (i := 4) (v := ?_) rfl (by kernel_rfl) (by kernel_rfl) (by kernel_rfl) (fun _ _ _ h => h) (Or.inl ⟨by rfl, (by intro w hSw; go_simp; try with_reducible rfl)⟩) (by assumption) ?_
          simp only [Act.put, List.getElem_toArray, List.getElem_cons_zero, List.getElem_cons_succ, List.setIfInBounds_toArray, List.set_cons_zero, List.set_cons_succ]
          refine wpAnyH_done (by kernel_rfl) ?_ _
          go_wp2_with fail
          have hrS := Lib.hid (((HR5.out.stored 0 (.string am)).stored 1 (.int .i64 0)).stored 2 (.int .i64 200))
          refine bodyPost_ret (v := .tuple #[.agg #[.string am, .int .i64 0, .int .i64 200], .bool (decide (Flt.Right ⟨a, 0, 200⟩))]) ?_ rfl ⟨⟨a, 0, 200⟩, by rw [hcl.out.1]; simp only [HAS.out], hcl.out.2, flg_put (flg_put (flg_put (HBX.out.trans (HB5.out.mono HBX.out.size)) (Nat.le_refl _) _) (Nat.le_refl _) _) (Nat.le_refl _) _⟩
          rw [results_cell_tmp (by rfl)]
          have hl := run_loadVar_row (P := Tryz.prog) _ w.heap.size 42 42 _ (0, 0) _ hrS.out Tryz.underlying42 rfl Hsz.out
          simp [asAddr, hl, Result.andThen]
      | [b2], _ =>
        have CT2 : Hid (∀ W, Below w1.heap.size w1 W → W.cell? ⟨b, o + 1, none⟩ = some (.string (mk b2))) := Lib.hid (fun W hW => (CT.out W hW).2 b2 rfl)
        have c1 := CT2.out w1 (Below.refl _ _)
        have c1a := CT2.out _ HA2.out
        have c1b := CT2.out _ HA3.out
        have SB := Lib.hid (fun W => SQ.out b2 (HA.out b2 (by simp)) W)
        by_cases hP : ∃ x y, Flg.cut 45 b2 = [x, y]
        · obtain ⟨x, y, hxy⟩ := hP
          have hcl := Lib.hid (Flg.clause_of (s := s) (c := ⟨Flg.unstar a, Flg.number x, Flg.number y⟩) (by rw [hread]; show (if a = [] then none else _) = _; rw [if_neg ha, hxy]))
          have RC := Lib.hid (fun W => RT.out ⟨Flg.unstar a, Flg.number x, Flg.number y⟩ (Flg.unstar_len hal) W)
          rw [hxy] at SB
          clear hread ha hxy
          by_cases h42 : a = [42]
          · rw [decide_eq_true h42] at es
            have hun : Flg.unstar a = [] := by unfold Flg.unstar; rw [if_pos h42]
            rw [hun] at hcl RC
            clear hun h42
            have HAS : Hid (mk a = mk a) := Lib.hid rfl
            have em0 : mk [] = ⟨#[]⟩ := rfl
            rw [em0] at RC
            clear HAS em0
            have HEA : Hid (mk a = mk a) := Lib.hid rfl
            clear HEA
            generalize hAS : mk a = am at *
            have HAS := Lib.hid hAS
            clear hAS
            have hR := HR3.out
            have q0 := hR.at 0
            have q1 := hR.at 1
            have q2 := hR.at 2
            have f0 := hR.free 0
            have f1 := hR.free 1
            have f2 := hR.free 2
            have hCC := HC3.out
            have y0 := hCC.at 0
            have y1 := hCC.at 1
            have y2 := hCC.at 2
            clear hR hCC
            go_wp2_with fail
            refine (SB.out _).mono ?_
            rintro e w2 ⟨pv, rfl, hpv, hb2⟩
            obtain ⟨pb, po, pc, rfl, hpc, -, hpl⟩ := hpv.block (by simp)
            have HBX := Lib.hid (HB1.out.trans ((HA3.out.trans (hb2.mono HA3.out.size)).mono HB1.out.size))
            have HRW := Lib.hid (HR3.out.below hb2 HR3.out.inHeap)
            have HCW := Lib.hid (HC3.out.below hb2 HC3.out.inHeap)
            have CP : Hid (∀ W, Below w2.heap.size w2 W → W.cell? ⟨pb, po, none⟩ = some (.string (mk x)) ∧ W.cell? ⟨pb, po + 1, none⟩ = some (.string (mk y))) := Lib.hid (fun W hW => ⟨by
              have := Txs.at (hpv.below hW) (i := 0) (x := x) rfl
              rwa [Nat.add_zero] at this, Txs.at (hpv.below hW) (i := 1) (x := y) rfl⟩)
            have hpl2 : ([x, y] : List (List UInt8)).length = 2 := rfl
            rw [hpl2] at hpc
            rw [hpl2]
            clear q0 q1 q2 f0 f1 f2 y0 y1 y2 hpv hb2 hpl2
            have NX := Lib.hid (fun W => NU.out x W)
            have NY := Lib.hid (fun W => NU.out y W)
            generalize Flg.number x = nx at *
            generalize Flg.number y = ny at *
            go_wp2_with fail
            refine wp_region_tail (n := 12) (S := (fun w' : World => Below w2.heap.size w2 w')) (by kernel_rfl) (by kernel_rfl) (by rfl) ((Below.refl _ _).drew) (fun hHeld => ?_)
            refine wpAnyH_take (i := 0) (v := ?_) rfl (by kernel_rfl) (by kernel_rfl) (by kernel_rfl) (fun _ _ _ h => h) (Or.inl ⟨by rfl, (by intro w hSw; go_simp; try with_reducible rfl)⟩) (by assumption) ?_
            simp only [Act.put, List.getElem_toArray, List.getElem_cons_zero, List.getElem_cons_succ, List.setIfInBounds_toArray, List.set_cons_zero, List.set_cons_succ]
            refine wpAnyH_take (i := 1) (v := ?_) rfl (by kernel_rfl) (by kernel_rfl) (by kernel_rfl) (fun _ _ _ h => h) (Or.inl ⟨by rfl, (by intro w hSw; have d0 := ((HCW.out.below hSw HCW.out.inHeap)).at 0; go_simp; try with_reducible rfl)⟩) (by assumption) ?_
            simp only [Act.put, List.getElem_toArray, List.getElem_cons_zero, List.getElem_cons_succ, List.setIfInBounds_toArray, List.set_cons_zero, List.set_cons_succ]
            refine wpAnyH_take (i := 2) (v := ?_) rfl (by kernel_rfl) (by kernel_rfl) (by kernel_rfl) (fun _ _ _ h => h) (Or.inl ⟨by rfl, (by intro w hSw; go_simp; try with_reducible rfl)⟩) (by assumption) ?_
            simp only [Act.put, List.getElem_toArray, List.getElem_cons_zero, List.getElem_cons_succ, List.setIfInBounds_toArray, List.set_cons_zero, List.set_cons_succ]
            refine wpAnyH_take (i := 3) (v := ?_) rfl (by kernel_rfl) (by kernel_rfl) (by kernel_rfl) (fun _ _ _ h => h) (Or.inl ⟨by rfl, (by intro w hSw; go_simp; try with_reducible rfl)⟩) (by assumption) ?_
            simp only [Act.put, List.getElem_toArray, List.getElem_cons_zero, List.getElem_cons_succ, List.setIfInBounds_toArray, List.set_cons_zero, List.set_cons_succ]
            refine wpAnyH_take (i := 4) (v := ?_) rfl (by kernel_rfl) (by kernel_rfl) (by kernel_rfl) (fun _ _ _ h => h) (Or.inl ⟨by rfl, (by intro w hSw; have d0 := (CP.out _ hSw).1; have d1 := (CP.out _ hSw).2; go_simp; try with_reducible rfl)⟩) (by assumption) ?_
            simp only [Act.put, List.getElem_toArray, List.getElem_cons_zero, List.getElem_cons_succ, List.setIfInBounds_toArray, List.set_cons_zero, List.set_cons_succ]
            refine wpAnyH_take (i := 6) (v := ?_) rfl (by kernel_rfl) (by kernel_rfl) (by kernel_rfl) (fun _ _ _ h => h) (Or.inl ⟨by rfl, (by intro w hSw; go_simp; try with_reducible rfl)⟩) (by assumption) ?_
            simp only [Act.put, List.getElem_toArray, List.getElem_cons_zero, List.getElem_cons_succ, List.setIfInBounds_toArray, List.set_cons_zero, List.set_cons_succ]
            refine wpAnyH_take (i := 7) (v := ?_) rfl (by kernel_rfl) (by kernel_rfl) (by kernel_rfl) (fun _ _ _ h => h) (Or.inl ⟨by rfl, (by intro w hSw; go_simp; try with_reducible rfl)⟩) (by assumption) ?_
            simp only [Act.put, List.getElem_toArray, List.getElem_cons_zero, List.getElem_cons_succ, List.setIfInBounds_toArray, List.set_cons_zero, List.set_cons_succ]
            refine wpAnyH_take (i := 8) (v := ?_) rfl (by kernel_rfl) (by kernel_rfl) (by kernel_rfl) (fun _ _ _ h => h) (Or.inl ⟨by rfl, (by intro w hSw; have d0 := (CP.out _ hSw).1; have d1 := (CP.out _ hSw).2; go_simp; try with_reducible rfl)⟩) (by assumption) ?_
            simp only [Act.put, List.getElem_toArray, List.getElem_cons_zero, List.getElem_cons_succ, List.setIfInBounds_toArray, List.set_cons_zero, List.set_cons_succ]
            refine wpAnyH_ready (rs := [5]) (by kernel_rfl) (by simp) ?_
            refine AllReadyH.cons rfl (fun K hK => ?_) AllReadyH.nil
            go_simp
            go_at_call 44
            refine (NX.out _).mono ?_
            rintro e w3 ⟨rfl, hbN⟩
            have hhN := hHeld.trans (hbN.mono hHeld.size)
            clear hbN
            refine hK.out _ _ hhN (fun hHeld => ?_)
            clear hhN
            clear hK K
            refine wpAnyH_ready (rs := [9]) (by kernel_rfl) (by simp) ?_
            refine AllReadyH.cons rfl (fun K hK => ?_) AllReadyH.nil
            go_simp
            go_at_call 44
            refine (NY.out _).mono ?_
            rintro e w4 ⟨rfl, hbN⟩
            have hhN := hHeld.trans (hbN.mono hHeld.size)
            clear hbN
            have HB4 := Lib.hid hhN
            refine hK.out _ _ hhN (fun hHeld => ?_)
            clear hhN
            clear hK K
            refine wpAnyH_take (i := 10) (v := ?_) rfl (by kernel_rfl) (by kernel_rfl) (by kernel_rfl) (fun _ _ _ h => h) (Or.inl ⟨by rfl, (by intro w hSw; go_simp; try with_reducible rfl)⟩) (by assumption) ?_
            simp only [Act.put, List.getElem_toArray, List.getElem_cons_zero, List.getElem_cons_succ, List.setIfInBounds_toArray, List.set_cons_zero, List.set_cons_succ]
            refine wpAnyH_take (i := 11) (v := ?_) rfl (by kernel_rfl) (by kernel_rfl) (by kernel_rfl) (fun _ _ _ h => h) (Or.inl ⟨by rfl, (by intro w hSw; go_simp; try with_reducible rfl)⟩) (by assumption) ?_
            simp only [Act.put, List.getElem_toArray, List.getElem_cons_zero, List.getElem_cons_succ, List.setIfInBounds_toArray, List.set_cons_zero, List.set_cons_succ]
            refine wpAnyH_done (by kernel_rfl) ?_ _
            refine wpAny_of_held (S := fun _ => True) _ _ _ _ ?_
            have hHeld : True := trivial
            refine wpAnyH_ready (rs := [12]) (by kernel_rfl) (by simp) ?_
            refine AllReadyH.cons rfl (fun K hK => ?_) AllReadyH.nil
            have HC4 := Lib.hid (HCW.out.below HB4.out HCW.out.inHeap)
            have HRR4 := Lib.hid (HRW.out.below HB4.out HRW.out.inHeap)
            have hCC := HC4.out
            have y0 := hCC.at 0
            have y1 := hCC.at 1
            have y2 := hCC.at 2
            have z0 := hCC.free 0
            have z1 := hCC.free 1
            have z2 := hCC.free 2
            go_simp
            refine hK.out _ _ trivial (fun hHeld => ?_)
            clear hCC y0 y1 y2 z0 z1 z2
            clear hK K
            refine wpAnyH_done (by kernel_rfl) ?_ _
            have HCY : Hid (Row (((w4.setCell ⟨w1.heap.size, 0, none⟩ (.string ⟨#[]⟩)).setCell ⟨w1.heap.size, 1, none⟩ (.int .i64 nx)).setCell ⟨w1.heap.size, 2, none⟩ (.int .i64 ny)) w1.heap.size 42 #[.string ⟨#[]⟩, .int .i64 nx, .int .i64 ny]) := Lib.hid (((HC4.out.stored 0 _).stored 1 _).stored 2 _)
            have HRY : Hid (Row (((w4.setCell ⟨w1.heap.size, 0, none⟩ (.string ⟨#[]⟩)).setCell ⟨w1.heap.size, 1, none⟩ (.int .i64 nx)).setCell ⟨w1.heap.size, 2, none⟩ (.int .i64 ny)) w.heap.size 42 #[.string ⟨#[]⟩, .int .i64 0, .int .i64 0]) := Lib.hid (((HRR4.out.storedElsewhere (p := ⟨w1.heap.size, 0, none⟩) (by show ¬ w1.heap.size = w.heap.size; have := Hlt1.out; omega) _).storedElsewhere (p := ⟨w1.heap.size, 1, none⟩) (by show ¬ w1.heap.size = w.heap.size; have := Hlt1.out; omega) _).storedElsewhere (p := ⟨w1.heap.size, 2, none⟩) (by show ¬ w1.heap.size = w.heap.size; have := Hlt1.out; omega) _)
            have HBY : Hid (Below w.heap.size w (((w4.setCell ⟨w1.heap.size, 0, none⟩ (.string ⟨#[]⟩)).setCell ⟨w1.heap.size, 1, none⟩ (.int .i64 nx)).setCell ⟨w1.heap.size, 2, none⟩ (.int .i64 ny))) := Lib.hid (flg_put (flg_put (flg_put (HBX.out.trans (HB4.out.mono HBX.out.size)) (Nat.le_of_lt Hlt1.out) _) (Nat.le_of_lt Hlt1.out) _) (Nat.le_of_lt Hlt1.out) _)
            go_wp2_with fail
            refine wp_region_held_drew (S := (fun w' : World => Row w' w1.heap.size 42 #[.string ⟨#[]⟩, .int .i64 nx, .int .i64 ny])) (by kernel_rfl) (HCY.out.behindDraw) (fun hHeld => ?_)
            refine wpAnyH_take (i := 0) (v := ?_) rfl (by kernel_rfl) (by kernel_rfl) (by kernel_rfl) (fun _ _ _ h => h) (Or.inl ⟨by rfl, (by intro w hSw; have d0 := hSw.at 0; have d1 := hSw.at 1; have d2 := hSw.at 2; go_simp; try with_reducible rfl)⟩) (by assumption) ?_
            simp only [Act.put, List.getElem_toArray, List.getElem_cons_zero, List.getElem_cons_succ, List.setIfInBounds_toArray, List.set_cons_zero, List.set_cons_succ]
            refine wpAnyH_take (i := 1) (v := ?_) rfl (by kernel_rfl) (by kernel_rfl) (by kernel_rfl) (fun _ _ _ h => h) (Or.inl ⟨by rfl, (by intro w hSw; have d0 := hSw.at 0; have d1 := hSw.at 1; have d2 := hSw.at 2; go_simp; try with_reducible rfl)⟩) (by assumption) ?_
            simp only [Act.put, List.getElem_toArray, List.getElem_cons_zero, List.getElem_cons_succ, List.setIfInBounds_toArray, List.set_cons_zero, List.set_cons_succ]
            refine wpAnyH_ready (rs := [2]) (by kernel_rfl) (by simp) ?_
            refine AllReadyH.cons rfl (fun K hK => ?_) AllReadyH.nil
            go_simp
            go_at_call 45
            refine (RC.out _).mono ?_
            rintro e w5 ⟨rfl, hbN⟩
            have HB5 := Lib.hid (((Below.refl (((w4.setCell ⟨w1.heap.size, 0, none⟩ (.string ⟨#[]⟩)).setCell ⟨w1.heap.size, 1, none⟩ (.int .i64 nx)).setCell ⟨w1.heap.size, 2, none⟩ (.int .i64 ny)).heap.size (((w4.setCell ⟨w1.heap.size, 0, none⟩ (.string ⟨#[]⟩)).setCell ⟨w1.heap.size, 1, none⟩ (.int .i64 nx)).setCell ⟨w1.heap.size, 2, none⟩ (.int .i64 ny))).drew).trans (hbN.mono (Nat.le_refl _)))
            clear hbN
            have hC5 := HCY.out.below HB5.out HCY.out.inHeap
            refine hK.out _ _ hC5 (fun hHeld => ?_)
            clear hC5
            clear hK K
            refine wpAnyH_ready (rs := [3]) (by kernel_rfl) (by simp) ?_
            refine AllReadyH.cons rfl (fun K hK => ?_) AllReadyH.nil
            have HR5 := Lib.hid (HRY.out.below HB5.out HRY.out.inHeap)
            have hR := HR5.out
            have q0 := hR.at 0
            have q1 := hR.at 1
            have q2 := hR.at 2
            have f0 := hR.free 0
            have f1 := hR.free 1
            have f2 := hR.free 2
            have hC5 := HCY.out.below HB5.out HCY.out.inHeap
            have hC6 := ((hC5.storedElsewhere (p := ⟨w.heap.size, 0, none⟩) (by show ¬ w.heap.size = w1.heap.size; have := Hlt1.out; omega) (.string ⟨#[]⟩)).storedElsewhere (p := ⟨w.heap.size, 1, none⟩) (by show ¬ w.heap.size = w1.heap.size; have := Hlt1.out; omega) (.int .i64 nx)).storedElsewhere (p := ⟨w.heap.size, 2, none⟩) (by show ¬ w.heap.size = w1.heap.size; have := Hlt1.out; omega) (.int .i64 ny)
            go_simp
            refine hK.out _ _ hC6 (fun hHeld => ?_)
            clear hC5 hC6 hR
            clear hK K
            refine wpAnyH_take (i := 4) (v := ?_) rfl (by kernel_rfl) (by kernel_rfl) (by kernel_rfl) (fun _ _ _ h => h) (Or.inl ⟨by rfl, (by intro w hSw; go_simp; try with_reducible rfl)⟩) (by assumption) ?_
            simp only [Act.put, List.getElem_toArray, List.getElem_cons_zero, List.getElem_cons_succ, List.setIfInBounds_toArray, List.set_cons_zero, List.set_cons_succ]
            refine wpAnyH_done (by kernel_rfl) ?_ _
            go_wp2_with fail
            have hrS := Lib.hid (((HR5.out.stored 0 (.string ⟨#[]⟩)).stored 1 (.int .i64 nx)).stored 2 (.int .i64 ny))
            refine bodyPost_ret (v := .tuple #[.agg #[.string ⟨#[]⟩, .int .i64 nx, .int .i64 ny], .bool (decide (Flt.Right ⟨[], nx, ny⟩))]) ?_ rfl ⟨⟨[], nx, ny⟩, by rw [hcl.out.1]; rfl, hcl.out.2, flg_put (flg_put (flg_put (HBY.out.trans (HB5.out.mono HBY.out.size)) (Nat.le_refl _) _) (Nat.le_refl _) _) (Nat.le_refl _) _⟩
            rw [results_cell_tmp (by rfl)]
            have hl := run_loadVar_row (P := Tryz.prog) _ w.heap.size 42 42 _ (0, 0) _ hrS.out Tryz.underlying42 rfl Hsz.out
            simp [asAddr, hl, Result.andThen]
          · rw [decide_eq_false h42] at es
            have hun : Flg.unstar a = a := by unfold Flg.unstar; rw [if_neg h42]
            rw [hun] at hcl RC
            clear hun h42
            have HAS : Hid (mk a = mk a) := Lib.hid rfl
            clear HAS
            have HEA : Hid (mk a = mk a) := Lib.hid rfl
            clear HEA
            generalize hAS : mk a = am at *
            have HAS := Lib.hid hAS
            clear hAS
            have hR := HR2.out
            have q0 := hR.at 0
            have q1 := hR.at 1
            have q2 := hR.at 2
            have f0 := hR.free 0
            have f1 := hR.free 1
            have f2 := hR.free 2
            have hCC := HC2.out
            have y0 := hCC.at 0
            have y1 := hCC.at 1
            have y2 := hCC.at 2
            clear hR hCC
            go_wp2_with fail
            refine (SB.out _).mono ?_
            rintro e w2 ⟨pv, rfl, hpv, hb2⟩
            obtain ⟨pb, po, pc, rfl, hpc, -, hpl⟩ := hpv.block (by simp)
            have HBX := Lib.hid (HB1.out.trans ((HA2.out.trans (hb2.mono HA2.out.size)).mono HB1.out.size))
            have HRW := Lib.hid (HR2.out.below hb2 HR2.out.inHeap)
            have HCW := Lib.hid (HC2.out.below hb2 HC2.out.inHeap)
            have CP : Hid (∀ W, Below w2.heap.size w2 W → W.cell? ⟨pb, po, none⟩ = some (.string (mk x)) ∧ W.cell? ⟨pb, po + 1, none⟩ = some (.string (mk y))) := Lib.hid (fun W hW => ⟨by
              have := Txs.at (hpv.below hW) (i := 0) (x := x) rfl
              rwa [Nat.add_zero] at this, Txs.at (hpv.below hW) (i := 1) (x := y) rfl⟩)
            have hpl2 : ([x, y] : List (List UInt8)).length = 2 := rfl
            rw [hpl2] at hpc
            rw [hpl2]
            clear q0 q1 q2 f0 f1 f2 y0 y1 y2 hpv hb2 hpl2
            have NX := Lib.hid (fun W => NU.out x W)
            have NY := Lib.hid (fun W => NU.out y W)
            generalize Flg.number x = nx at *
            generalize Flg.number y = ny at *
            go_wp2_with fail
            refine wp_region_tail (n := 12) (S := (fun w' : World => Below w2.heap.size w2 w')) (by kernel_rfl) (by kernel_rfl) (by rfl) ((Below.refl _ _).drew) (fun hHeld => ?_)
            refine wpAnyH_take (i := 0) (v := ?_) rfl (by kernel_rfl) (by kernel_rfl) (by kernel_rfl) (fun _ _ _ h => h) (Or.inl ⟨by rfl, (by intro w hSw; go_simp; try with_reducible rfl)⟩) (by assumption) ?_
            simp only [Act.put, List.getElem_toArray, List.getElem_cons_zero, List.getElem_cons_succ, List.setIfInBounds_toArray, List.set_cons_zero, List.set_cons_succ]
            refine wpAnyH_take (i := 1) (v := ?_) rfl (by kernel_rfl) (by kernel_rfl) (by kernel_rfl) (fun _ _ _ h => h) (Or.inl ⟨by rfl, (by intro w hSw; have d0 := ((HCW.out.below hSw HCW.out.inHeap)).at 0; go_simp; try with_reducible rfl)⟩) (by assumption) ?_
            simp only [Act.put, List.getElem_toArray, List.getElem_cons_zero, List.getElem_cons_succ, List.setIfInBounds_toArray, List.set_cons_zero, List.set_cons_succ]
            refine wpAnyH_take (i := 2) (v := ?_) rfl (by kernel_rfl) (by kernel_rfl) (by kernel_rfl) (fun _ _ _ h => h) (Or.inl ⟨by rfl, (by intro w hSw; go_simp; try with_reducible rfl)⟩) (by assumption) ?_
            simp only [Act.put, List.getElem_toArray, List.getElem_cons_zero, List.getElem_cons_succ, List.setIfInBounds_toArray, List.set_cons_zero, List.set_cons_succ]
            refine wpAnyH_take (i := 3) (v := ?_) rfl (by kernel_rfl) (by kernel_rfl) (by kernel_rfl) (fun _ _ _ h => h) (Or.inl ⟨by rfl, (by intro w hSw; go_simp; try with_reducible rfl)⟩) (by assumption) ?_
            simp only [Act.put, List.getElem_toArray, List.getElem_cons_zero, List.getElem_cons_succ, List.setIfInBounds_toArray, List.set_cons_zero, List.set_cons_succ]
            refine wpAnyH_take (i := 4) (v := ?_) rfl (by kernel_rfl) (by kernel_rfl) (by kernel_rfl) (fun _ _ _ h => h) (Or.inl ⟨by rfl, (by intro w hSw; have d0 := (CP.out _ hSw).1; have d1 := (CP.out _ hSw).2; go_simp; try with_reducible rfl)⟩) (by assumption) ?_
            simp only [Act.put, List.getElem_toArray, List.getElem_cons_zero, List.getElem_cons_succ, List.setIfInBounds_toArray, List.set_cons_zero, List.set_cons_succ]
            refine wpAnyH_take (i := 6) (v := ?_) rfl (by kernel_rfl) (by kernel_rfl) (by kernel_rfl) (fun _ _ _ h => h) (Or.inl ⟨by rfl, (by intro w hSw; go_simp; try with_reducible rfl)⟩) (by assumption) ?_
            simp only [Act.put, List.getElem_toArray, List.getElem_cons_zero, List.getElem_cons_succ, List.setIfInBounds_toArray, List.set_cons_zero, List.set_cons_succ]
            refine wpAnyH_take (i := 7) (v := ?_) rfl (by kernel_rfl) (by kernel_rfl) (by kernel_rfl) (fun _ _ _ h => h) (Or.inl ⟨by rfl, (by intro w hSw; go_simp; try with_reducible rfl)⟩) (by assumption) ?_
            simp only [Act.put, List.getElem_toArray, List.getElem_cons_zero, List.getElem_cons_succ, List.setIfInBounds_toArray, List.set_cons_zero, List.set_cons_succ]
            refine wpAnyH_take (i := 8) (v := ?_) rfl (by kernel_rfl) (by kernel_rfl) (by kernel_rfl) (fun _ _ _ h => h) (Or.inl ⟨by rfl, (by intro w hSw; have d0 := (CP.out _ hSw).1; have d1 := (CP.out _ hSw).2; go_simp; try with_reducible rfl)⟩) (by assumption) ?_
            simp only [Act.put, List.getElem_toArray, List.getElem_cons_zero, List.getElem_cons_succ, List.setIfInBounds_toArray, List.set_cons_zero, List.set_cons_succ]
            refine wpAnyH_ready (rs := [5]) (by kernel_rfl) (by simp) ?_
            refine AllReadyH.cons rfl (fun K hK => ?_) AllReadyH.nil
            go_simp
            go_at_call 44
            refine (NX.out _).mono ?_
            rintro e w3 ⟨rfl, hbN⟩
            have hhN := hHeld.trans (hbN.mono hHeld.size)
            clear hbN
            refine hK.out _ _ hhN (fun hHeld => ?_)
            clear hhN
            clear hK K
            refine wpAnyH_ready (rs := [9]) (by kernel_rfl) (by simp) ?_
            refine AllReadyH.cons rfl (fun K hK => ?_) AllReadyH.nil
            go_simp
            go_at_call 44
            refine (NY.out _).mono ?_
            rintro e w4 ⟨rfl, hbN⟩
            have hhN := hHeld.trans (hbN.mono hHeld.size)
            clear hbN
            have HB4 := Lib.hid hhN
            refine hK.out _ _ hhN (fun hHeld => ?_)
            clear hhN
            clear hK K
            refine wpAnyH_take (i := 10) (v := ?_) rfl (by kernel_rfl) (by kernel_rfl) (by kernel_rfl) (fun _ _ _ h => h) (Or.inl ⟨by rfl, (by intro w hSw; go_simp; try with_reducible rfl)⟩) (by assumption) ?_
            simp only [Act.put, List.getElem_toArray, List.getElem_cons_zero, List.getElem_cons_succ, List.setIfInBounds_toArray, List.set_cons_zero, List.set_cons_succ]
            refine wpAnyH_take (i := 11) (v := ?_) rfl (by kernel_rfl) (by kernel_rfl) (by kernel_rfl) (fun _ _ _ h => h) (Or.inl ⟨by rfl, (by intro w hSw; go_simp; try with_reducible rfl)⟩) (by assumption) ?_
            simp only [Act.put, List.getElem_toArray, List.getElem_cons_zero, List.getElem_cons_succ, List.setIfInBounds_toArray, List.set_cons_zero, List.set_cons_succ]
            refine wpAnyH_done (by kernel_rfl) ?_ _
            refine wpAny_of_held (S := fun _ => True) _ _ _ _ ?_
            have hHeld : True := trivial
            refine wpAnyH_ready (rs := [12]) (by kernel_rfl) (by simp) ?_
            refine AllReadyH.cons rfl (fun K hK => ?_) AllReadyH.nil
            have HC4 := Lib.hid (HCW.out.below HB4.out HCW.out.inHeap)
            have HRR4 := Lib.hid (HRW.out.below HB4.out HRW.out.inHeap)
            have hCC := HC4.out
            have y0 := hCC.at 0
            have y1 := hCC.at 1
            have y2 := hCC.at 2
            have z0 := hCC.free 0
            have z1 := hCC.free 1
            have z2 := hCC.free 2
            go_simp
            refine hK.out _ _ trivial (fun hHeld => ?_)
            clear hCC y0 y1 y2 z0 z1 z2
            clear hK K
            refine wpAnyH_done (by kernel_rfl) ?_ _
            have HCY : Hid (Row (((w4.setCell ⟨w1.heap.size, 0, none⟩ (.string am)).setCell ⟨w1.heap.size, 1, none⟩ (.int .i64 nx)).setCell ⟨w1.heap.size, 2, none⟩ (.int .i64 ny)) w1.heap.size 42 #[.string am, .int .i64 nx, .int .i64 ny]) := Lib.hid (((HC4.out.stored 0 _).stored 1 _).stored 2 _)
            have HRY : Hid (Row (((w4.setCell ⟨w1.heap.size, 0, none⟩ (.string am)).setCell ⟨w1.heap.size, 1, none⟩ (.int .i64 nx)).setCell ⟨w1.heap.size, 2, none⟩ (.int .i64 ny)) w.heap.size 42 #[.string ⟨#[]⟩, .int .i64 0, .int .i64 0]) := Lib.hid (((HRR4.out.storedElsewhere (p := ⟨w1.heap.size, 0, none⟩) (by show ¬ w1.heap.size = w.heap.size; have := Hlt1.out; omega) _).storedElsewhere (p := ⟨w1.heap.size, 1, none⟩) (by show ¬ w1.heap.size = w.heap.size; have := Hlt1.out; omega) _).storedElsewhere (p := ⟨w1.heap.size, 2, none⟩) (by show ¬ w1.heap.size = w.heap.size; have := Hlt1.out; omega) _)
            have HBY : Hid (Below w.heap.size w (((w4.setCell ⟨w1.heap.size, 0, none⟩ (.string am)).setCell ⟨w1.heap.size, 1, none⟩ (.int .i64 nx)).setCell ⟨w1.heap.size, 2, none⟩ (.int .i64 ny))) := Lib.hid (flg_put (flg_put (flg_put (HBX.out.trans (HB4.out.mono HBX.out.size)) (Nat.le_of_lt Hlt1.out) _) (Nat.le_of_lt Hlt1.out) _) (Nat.le_of_lt Hlt1.out) _)
            go_wp2_with fail
            refine wp_region_held_drew (S := (fun w' : World => Row w' w1.heap.size 42 #[.string am, .int .i64 nx, .int .i64 ny])) (by kernel_rfl) (HCY.out.behindDraw) (fun hHeld => ?_)
            refine wpAnyH_take (i := 0) (v := ?_) rfl (by kernel_rfl) (by kernel_rfl) (by kernel_rfl) (fun _ _ _ h => h) (Or.inl ⟨by rfl, (by intro w hSw; have d0 := hSw.at 0; have d1 := hSw.at 1; have d2 := hSw.at 2; go_simp; try with_reducible rfl)⟩) (by assumption) ?_
            simp only [Act.put, List.getElem_toArray, List.getElem_cons_zero, List.getElem_cons_succ, List.setIfInBounds_toArray, List.set_cons_zero, List.set_cons_succ]
            refine wpAnyH_take (i := 1) (v := ?_) rfl (by kernel_rfl) (by kernel_rfl) (by kernel_rfl) (fun _ _ _ h => h) (Or.inl ⟨by rfl, (by intro w hSw; have d0 := hSw.at 0; have d1 := hSw.at 1; have d2 := hSw.at 2; go_simp; try with_reducible rfl)⟩) (by assumption) ?_
            simp only [Act.put, List.getElem_toArray, List.getElem_cons_zero, List.getElem_cons_succ, List.setIfInBounds_toArray, List.set_cons_zero, List.set_cons_succ]
            refine wpAnyH_ready (rs := [2]) (by kernel_rfl) (by simp) ?_
            refine AllReadyH.cons rfl (fun K hK => ?_) AllReadyH.nil
            go_simp
            go_at_call 45
            refine (RC.out _).mono ?_
            rintro e w5 ⟨rfl, hbN⟩
            have HB5 := Lib.hid (((Below.refl (((w4.setCell ⟨w1.heap.size, 0, none⟩ (.string am)).setCell ⟨w1.heap.size, 1, none⟩ (.int .i64 nx)).setCell ⟨w1.heap.size, 2, none⟩ (.int .i64 ny)).heap.size (((w4.setCell ⟨w1.heap.size, 0, none⟩ (.string am)).setCell ⟨w1.heap.size, 1, none⟩ (.int .i64 nx)).setCell ⟨w1.heap.size, 2, none⟩ (.int .i64 ny))).drew).trans (hbN.mono (Nat.le_refl _)))
            clear hbN
            have hC5 := HCY.out.below HB5.out HCY.out.inHeap
            refine hK.out _ _ hC5 (fun hHeld => ?_)
            clear hC5
            clear hK K
            refine wpAnyH_ready (rs := [3]) (by kernel_rfl) (by simp) ?_
            refine AllReadyH.cons rfl (fun K hK => ?_) AllReadyH.nil
            have HR5 := Lib.hid (HRY.out.below HB5.out HRY.out.inHeap)
            have hR := HR5.out
            have q0 := hR.at 0
            have q1 := hR.at 1
            have q2 := hR.at 2
            have f0 := hR.free 0
            have f1 := hR.free 1
            have f2 := hR.free 2
            have hC5 := HCY.out.below HB5.out HCY.out.inHeap
            have hC6 := ((hC5.storedElsewhere (p := ⟨w.heap.size, 0, none⟩) (by show ¬ w.heap.size = w1.heap.size; have := Hlt1.out; omega) (.string am)).storedElsewhere (p := ⟨w.heap.size, 1, none⟩) (by show ¬ w.heap.size = w1.heap.size; have := Hlt1.out; omega) (.int .i64 nx)).storedElsewhere (p := ⟨w.heap.size, 2, none⟩) (by show ¬ w.heap.size = w1.heap.size; have := Hlt1.out; omega) (.int .i64 ny)
            go_simp
            refine hK.out _ _ hC6 (fun hHeld => ?_)
            clear hC5 hC6 hR
            clear hK K
            refine wpAnyH_take (i := 4) (v := ?_) rfl (by kernel_rfl) (by kernel_rfl) (by kernel_rfl) (fun _ _ _ h => h) (Or.inl ⟨by rfl, (by intro w hSw; go_simp; try with_reducible rfl)⟩) (by assumption) ?_
            simp only [Act.put, List.getElem_toArray, List.getElem_cons_zero, List.getElem_cons_succ, List.setIfInBounds_toArray, List.set_cons_zero, List.set_cons_succ]
            refine wpAnyH_done (by kernel_rfl) ?_ _
            go_wp2_with fail
            have hrS := Lib.hid (((HR5.out.stored 0 (.string am)).stored 1 (.int .i64 nx)).stored 2 (.int .i64 ny))
            refine bodyPost_ret (v := .tuple #[.agg #[.string am, .int .i64 nx, .int .i64 ny], .bool (decide (Flt.Right ⟨a, nx, ny⟩))]) ?_ rfl ⟨⟨a, nx, ny⟩, by rw [hcl.out.1]; simp only [HAS.out], hcl.out.2, flg_put (flg_put (flg_put (HBY.out.trans (HB5.out.mono HBY.out.size)) (Nat.le_refl _) _) (Nat.le_refl _) _) (Nat.le_refl _) _⟩
            rw [results_cell_tmp (by rfl)]
            have hl := run_loadVar_row (P := Tryz.prog) _ w.heap.size 42 42 _ (0, 0) _ hrS.out Tryz.underlying42 rfl Hsz.out
            simp [asAddr, hl, Result.andThen]
        · have hn := Flg.clause_no (s := s) (by
            rw [hread]
            show (if a = [] then none else _) = _
            rw [if_neg ha]
            split
            · rename_i x y hxy
              exact absurd ⟨x, y, hxy⟩ hP
            · rfl)
          have Hn := Lib.hid hn
          have hPl : (Flg.cut 45 b2).length ≠ 2 := fun e => hP (by
            match hh : Flg.cut 45 b2, e with
            | [x, y], _ => exact ⟨x, y, rfl⟩)
          clear hread ha hP hn
          generalize Flg.cut 45 b2 = P at *
          by_cases h42 : a = [42]
          · rw [decide_eq_true h42] at es
            clear h42
            have HAS : Hid (mk a = mk a) := Lib.hid rfl
            have em0 : mk [] = ⟨#[]⟩ := rfl
            clear HAS em0
            have HEA : Hid (mk a = mk a) := Lib.hid rfl
            clear HEA
            generalize hAS : mk a = am at *
            have HAS := Lib.hid hAS
            clear hAS
            have hR := HR3.out
            have q0 := hR.at 0
            have q1 := hR.at 1
            have q2 := hR.at 2
            have f0 := hR.free 0
            have f1 := hR.free 1
            have f2 := hR.free 2
            have hCC := HC3.out
            have y0 := hCC.at 0
            have y1 := hCC.at 1
            have y2 := hCC.at 2
            clear hR hCC
            go_wp2_with fail
            refine (SB.out _).mono ?_
            rintro e w2 ⟨pv, rfl, hpv, hb2⟩
            obtain ⟨pA, pc, rfl, -⟩ := hpv.parts
            have HBX := Lib.hid (HB1.out.trans ((HA3.out.trans (hb2.mono HA3.out.size)).mono HB1.out.size))
            have HRW := Lib.hid (HR3.out.below hb2 HR3.out.inHeap)
            have HCW := Lib.hid (HC3.out.below hb2 HC3.out.inHeap)
            clear q0 q1 q2 f0 f1 f2 y0 y1 y2 hpv hb2
            have gP : ¬ (P.length : Int) = 2 := by omega
            have gQ : ((P.length : Int) != 2) = true := by rw [bne_iff_ne]; exact gP
            have hR := HRW.out
            have q0 := hR.at 0
            have q1 := hR.at 1
            have q2 := hR.at 2
            have f0 := hR.free 0
            have f1 := hR.free 1
            have f2 := hR.free 2
            have hCC := HCW.out
            have y0 := hCC.at 0
            have y1 := hCC.at 1
            have y2 := hCC.at 2
            clear hCC
            go_wp2_with fail
            have hrS := Lib.hid (((hR.stored 0 (.string ⟨#[]⟩)).stored 1 (.int .i64 0)).stored 2 (.int .i64 200))
            refine bodyPost_ret (v := .tuple #[.agg #[.string ⟨#[]⟩, .int .i64 0, .int .i64 200], .bool false]) ?_ rfl ⟨⟨[], 0, 200⟩, by rw [Hn.out]; rfl, fun d hd => (by rw [Hn.out] at hd; cases hd), flg_put (flg_put (flg_put HBX.out (Nat.le_refl _) _) (Nat.le_refl _) _) (Nat.le_refl _) _⟩
            rw [results_cell_tmp (by rfl)]
            have hl := run_loadVar_row (P := Tryz.prog) _ w.heap.size 42 42 _ (0, 0) _ hrS.out Tryz.underlying42 rfl Hsz.out
            simp [asAddr, hl, Result.andThen]
          · rw [decide_eq_false h42] at es
            clear h42
            have HAS : Hid (mk a = mk a) := Lib.hid rfl
            clear HAS
            have HEA : Hid (mk a = mk a) := Lib.hid rfl
            clear HEA
            generalize hAS : mk a = am at *
            have HAS := Lib.hid hAS
            clear hAS
            have hR := HR2.out
            have q0 := hR.at 0
            have q1 := hR.at 1
            have q2 := hR.at 2
            have f0 := hR.free 0
            have f1 := hR.free 1
            have f2 := hR.free 2
            have hCC := HC2.out
            have y0 := hCC.at 0
            have y1 := hCC.at 1
            have y2 := hCC.at 2
            clear hR hCC
            go_wp2_with fail
            refine (SB.out _).mono ?_
            rintro e w2 ⟨pv, rfl, hpv, hb2⟩
            obtain ⟨pA, pc, rfl, -⟩ := hpv.parts
            have HBX := Lib.hid (HB1.out.trans ((HA2.out.trans (hb2.mono HA2.out.size)).mono HB1.out.size))
            have HRW := Lib.hid (HR2.out.below hb2 HR2.out.inHeap)
            have HCW := Lib.hid (HC2.out.below hb2 HC2.out.inHeap)
            clear q0 q1 q2 f0 f1 f2 y0 y1 y2 hpv hb2
            have gP : ¬ (P.length : Int) = 2 := by omega
            have gQ : ((P.length : Int) != 2) = true := by rw [bne_iff_ne]; exact gP
            have hR := HRW.out
            have q0 := hR.at 0
            have q1 := hR.at 1
            have q2 := hR.at 2
            have f0 := hR.free 0
            have f1 := hR.free 1
            have f2 := hR.free 2
            have hCC := HCW.out
            have y0 := hCC.at 0
            have y1 := hCC.at 1
            have y2 := hCC.at 2
            clear hCC
            go_wp2_with fail
            have hrS := Lib.hid (((hR.stored 0 (.string am)).stored 1 (.int .i64 0)).stored 2 (.int .i64 200))
            refine bodyPost_ret (v := .tuple #[.agg #[.string am, .int .i64 0, .int .i64 200], .bool false]) ?_ rfl ⟨⟨a, 0, 200⟩, by rw [Hn.out]; simp only [HAS.out]; rfl, fun d hd => (by rw [Hn.out] at hd; cases hd), flg_put (flg_put (flg_put HBX.out (Nat.le_refl _) _) (Nat.le_refl _) _) (Nat.le_refl _) _⟩
            rw [results_cell_tmp (by rfl)]
            have hl := run_loadVar_row (P := Tryz.prog) _ w.heap.size 42 42 _ (0, 0) _ hrS.out Tryz.underlying42 rfl Hsz.out
            simp [asAddr, hl, Result.andThen]
      | _ :: _ :: _, h => exact absurd h (by simp)
end Go.Proofs.YtabnfaonlkipbaaGreatDoor
