/- VersSorts out of the contracts. -/
import Derived.Test.YtpmcjanfgamkoaaVerAwk
import Derived.Test.YtpmcjanfgamkoaaVerSam
import Derived.Test.YtpmcjanfgamkoaaVerPut
import Derived.Deep.RegionLaw
set_option linter.unusedSimpArgs false
set_option linter.unusedVariables false
namespace Go.Proofs.Ytpmcjanfgamkoaa
open Go.RowKit Go.Sort

set_option maxRecDepth 100000 in
set_option maxHeartbeats 3200000 in
theorem vsorts_walk (Z : VersOk) {w : World} {v : Value} {l : List Ver.V} (a b : Ver.V) (h : Vrs w (fun i => i < w.heap.size) v l) (hl : l.length ≤ 9223372036854775807) : Calls Try.prog 5 #[v, verA a, verA b] w fun e w' => e = .returned (.bool true) ∧ Below w.heap.size w w' := by
  have AW := Lib.hid (fun W => ver_awake Z W)
  have BV := Lib.hid (fun W => ((Z.before (w := W) a b).mono (fun e w' h => ⟨h.1, h.2.below⟩) : Calls Try.prog 17 #[verA a, verA b] W fun e w' => e = .returned (.bool (decide (Ver.Before a b))) ∧ Below W.heap.size W w'))
  have BR := Lib.hid (fun W => ((ref_vbefore W a b).mono (fun e w' h => ⟨h.1, h.2.below⟩) : Calls Try.prog 18 #[verA a, verA b] W fun e w' => e = .returned (.bool (decide (Ver.Before a b))) ∧ Below W.heap.size W w'))
  generalize decide (Ver.Before a b) = R at *
  obtain ⟨ax, ay⟩ := a
  obtain ⟨bx, by_⟩ := b
  have XB := Lib.hid (fun W (hW : Below ((w.alloc (.cells #[.int .i64 ax, .int .i64 ay] 23)).alloc (.cells #[.int .i64 bx, .int .i64 by_] 23)).heap.size ((w.alloc (.cells #[.int .i64 ax, .int .i64 ay] 23)).alloc (.cells #[.int .i64 bx, .int .i64 by_] 23)) W) => show W.cell? ⟨w.heap.size, 0, none⟩ = some (.int .i64 ax) ∧ W.cell? ⟨w.heap.size, 1, none⟩ = some (.int .i64 ay) ∧ W.cell? ⟨w.heap.size + 1, 0, none⟩ = some (.int .i64 bx) ∧ W.cell? ⟨w.heap.size + 1, 1, none⟩ = some (.int .i64 by_) from by
    have r0 := (Row.made w 23 #[.int .i64 ax, .int .i64 ay]).behindNew (.cells #[.int .i64 bx, .int .i64 by_] 23)
    have r1 := Row.made (w.alloc (.cells #[.int .i64 ax, .int .i64 ay] 23)) 23 #[.int .i64 bx, .int .i64 by_]
    have hz : (w.alloc (.cells #[.int .i64 ax, .int .i64 ay] 23)).heap.size = w.heap.size + 1 := by simp
    rw [hz] at r1
    have q0 := Row.below r0 hW r0.inHeap
    have q1 := Row.below r1 hW r1.inHeap
    exact ⟨q0.at 0, q0.at 1, q1.at 0, q1.at 1⟩)
  have HWB := Lib.hid (laid_two w (.cells #[.int .i64 ax, .int .i64 ay] 23) (.cells #[.int .i64 bx, .int .i64 by_] 23)).below
  by_cases h60 : 60 < l.length
  · obtain ⟨b, o, cap, rfl, hc, hF, hbk⟩ := h.block (by omega)
    have g1 : (60 : Int) < (l.length : Int) := by omega
    have g2 : (60 : Int) ≤ (cap : Int) := by omega
    have g3 : 60 ≤ cap := by omega
    have HL : Hid (Vrs w (fun i => i < w.heap.size) (.slice (some ⟨b, o, none⟩) 60 cap) (l.take 60)) := Lib.hid (h.take rfl 60 (by omega) cap (by omega))
    have HN : Hid ((l.take 60).length = 60) := Lib.hid (by rw [List.length_take]; omega)
    clear h
    go_enter Try.func5, Try.ntmps5
    go_wp2_with fail
    go_loopw [7, 8] (fun out i wr => ∃ n : Nat, n ≤ 60 ∧ i = .int .i64 (n : Int) ∧ Hid (RowsOwn 23 2 verV ((w.alloc (.cells #[.int .i64 ax, .int .i64 ay] 23)).alloc (.cells #[.int .i64 bx, .int .i64 by_] 23)) (Ver.sort (((l.take 60)).take n)) out wr)) (fun _ i _ => 60 - (intOf i).toNat)
    case atStart => exact ⟨0, Nat.zero_le _, rfl, Lib.hid (by rw [List.take_zero]; exact RowsOwn.start _ _ _ _)⟩
    case round =>
      obtain ⟨n, hn, rfl, hown⟩ := hrel
      have HRB := Lib.hid hown.out.2
      have HBR := Lib.hid (HWB.out.trans (hown.out.2.mono HWB.out.size))
      by_cases hlt : n < 60
      · have hb := hbk
        obtain ⟨x, hx⟩ : ∃ x, ((l.take 60))[n]? = some x := ⟨_, List.getElem?_eq_getElem (by rw [HN.out]; exact hlt)⟩
        obtain ⟨c0, c1⟩ := Vrs.at (HL.out.below HBR.out) hx
        have hst := Lib.hid (Ver.sort_take ((l.take 60)) n x hx)
        have hn0 : (0 : Int) ≤ (n : Int) := by omega
        have hn1 : (n : Int) < 60 := by omega
        have PU := Lib.hid (ref_put hown.out (by have := Ver.sort_len (((l.take 60)).take n); rw [List.length_take] at this; omega) x)
        clear hx
        go_wp2_with fail
        refine (PU.out).mono ?_
        rintro e w2 ⟨v2, rfl, h2⟩
        have H2 := Lib.hid h2
        clear h2
        go_wp2_with fail
        exact ⟨⟨n + 1, by omega, by go_num, by rw [hst.out]; exact H2⟩, by show 60 - ((n : Int) + 1).toNat < 60 - (n : Int).toNat; omega⟩
      · obtain rfl : n = 60 := by omega
        have htake : ((l.take 60)).take 60 = (l.take 60) := List.take_of_length_le (Nat.le_of_eq HN.out)
        rw [htake] at hown
        have hsl : (Ver.sort ((l.take 60))).length ≤ 1000000 := by have := Ver.sort_len ((l.take 60)); rw [HN.out] at this; omega
        have SO := Lib.hid (fun (W : World) (hW : Below w.heap.size w W) => Z.sort (w := W) (HL.out.below hW) (by rw [HN.out]; omega))
        have HW : Hid (∀ W, Below wr.heap.size wr W → Vrs W (NewIn ((w.alloc (.cells #[.int .i64 ax, .int .i64 ay] 23)).alloc (.cells #[.int .i64 bx, .int .i64 by_] 23)) wr) u7 (Ver.sort ((l.take 60)))) := Lib.hid (fun W hW => (hown.out.rows (fun _ _ => rfl)).below hW)
        have SA : Hid (∀ (W : World) (F G : Nat → Prop) (p : Value), Vrs W F p (Ver.sort ((l.take 60))) → Vrs W G u7 (Ver.sort ((l.take 60))) → Calls Try.prog 15 #[p, u7] W fun e w' => e = .returned (.bool true) ∧ Below W.heap.size W w') := Lib.hid (fun W F G p hp hq => by
          have := ref_vsame hp hq hsl hsl
          rwa [decide_eq_true (rfl : Ver.sort ((l.take 60)) = Ver.sort ((l.take 60)))] at this)
        clear hown htake
        go_wp2_with fail
        refine wp_region_held_drew (S := (fun w' : World => Below wr.heap.size wr w')) (by kernel_rfl) ((Below.refl _ _).drew) (fun hHeld => ?_)
        refine wpAnyH_ready (rs := [0]) (by kernel_rfl) (by simp) ?_
        refine AllReadyH.cons rfl (fun K hK => ?_) AllReadyH.nil
        go_simp
        go_at_call 10
        refine (AW.out _).mono ?_
        rintro e wa ⟨rfl, hbN⟩
        have hhN := hHeld.trans (hbN.mono hHeld.size)
        clear hbN
        refine hK.out _ _ hhN (fun hHeld => ?_)
        clear hhN
        clear hK K
        refine wpAnyH_take (i := 1) (v := ?_) rfl (by kernel_rfl) (by kernel_rfl) (by kernel_rfl) (fun _ _ _ h => h) (Or.inl ⟨by rfl, (by intro w hSw; go_simp; try with_reducible rfl)⟩) (by assumption) ?_
        simp only [Act.put, List.getElem_toArray, List.getElem_cons_zero, List.getElem_cons_succ, List.setIfInBounds_toArray, List.set_cons_zero, List.set_cons_succ]
        refine wpAnyH_take (i := 2) (v := ?_) rfl (by kernel_rfl) (by kernel_rfl) (by kernel_rfl) (fun _ _ _ h => h) (Or.inl ⟨by rfl, (by intro w hSw; go_simp; try with_reducible rfl)⟩) (by assumption) ?_
        simp only [Act.put, List.getElem_toArray, List.getElem_cons_zero, List.getElem_cons_succ, List.setIfInBounds_toArray, List.set_cons_zero, List.set_cons_succ]
        refine wpAnyH_take (i := 4) (v := ?_) rfl (by kernel_rfl) (by kernel_rfl) (by kernel_rfl) (fun _ _ _ h => h) (Or.inl ⟨by rfl, (by intro w hSw; go_simp; try with_reducible rfl)⟩) (by assumption) ?_
        simp only [Act.put, List.getElem_toArray, List.getElem_cons_zero, List.getElem_cons_succ, List.setIfInBounds_toArray, List.set_cons_zero, List.set_cons_succ]
        refine wpAnyH_ready (rs := [3]) (by kernel_rfl) (by simp) ?_
        refine AllReadyH.cons rfl (fun K hK => ?_) AllReadyH.nil
        go_simp
        go_at_call 16
        refine (SO.out _ (HBR.out.trans (hHeld.mono HBR.out.size))).mono ?_
        rintro e wb ⟨sv, rfl, hsv, hbN⟩
        have hhN := hHeld.trans (hbN.mono hHeld.size)
        have HSV := Lib.hid hsv
        clear hsv
        clear hbN
        refine hK.out _ _ hhN (fun hHeld => ?_)
        clear hhN
        clear hK K
        refine wpAnyH_ready (rs := [5]) (by kernel_rfl) (by simp) ?_
        refine AllReadyH.cons rfl (fun K hK => ?_) AllReadyH.nil
        go_simp
        go_at_call 15
        refine (SA.out _ _ _ _ HSV.out (HW.out _ hHeld)).mono ?_
        rintro e wc ⟨rfl, hbN⟩
        have hhN := hHeld.trans (hbN.mono hHeld.size)
        clear hbN
        refine hK.out _ _ hhN (fun hHeld => ?_)
        clear hhN
        clear hK K
        refine wpAnyH_take (i := 6) (v := ?_) rfl (by kernel_rfl) (by kernel_rfl) (by kernel_rfl) (fun _ _ _ h => h) (Or.inl ⟨by rfl, (by intro w hSw; go_simp; try with_reducible rfl)⟩) (by assumption) ?_
        simp only [Act.put, List.getElem_toArray, List.getElem_cons_zero, List.getElem_cons_succ, List.setIfInBounds_toArray, List.set_cons_zero, List.set_cons_succ]
        refine wpAnyH_take (i := 7) (v := ?_) rfl (by kernel_rfl) (by kernel_rfl) (by kernel_rfl) (fun _ _ _ h => h) (Or.inl ⟨by rfl, (by intro w hSw; go_simp; try with_reducible rfl)⟩) (by assumption) ?_
        simp only [Act.put, List.getElem_toArray, List.getElem_cons_zero, List.getElem_cons_succ, List.setIfInBounds_toArray, List.set_cons_zero, List.set_cons_succ]
        refine wpAnyH_take (i := 8) (v := ?_) rfl (by kernel_rfl) (by kernel_rfl) (by kernel_rfl) (fun _ _ _ h => h) (Or.inl ⟨by rfl, (by intro w hSw; obtain ⟨d0, d1, d2, d3⟩ := XB.out _ (HRB.out.trans (hSw.mono HRB.out.size)); go_simp; try with_reducible rfl)⟩) (by assumption) ?_
        simp only [Act.put, List.getElem_toArray, List.getElem_cons_zero, List.getElem_cons_succ, List.setIfInBounds_toArray, List.set_cons_zero, List.set_cons_succ]
        refine wpAnyH_take (i := 9) (v := ?_) rfl (by kernel_rfl) (by kernel_rfl) (by kernel_rfl) (fun _ _ _ h => h) (Or.inl ⟨by rfl, (by intro w hSw; obtain ⟨d0, d1, d2, d3⟩ := XB.out _ (HRB.out.trans (hSw.mono HRB.out.size)); go_simp; try with_reducible rfl)⟩) (by assumption) ?_
        simp only [Act.put, List.getElem_toArray, List.getElem_cons_zero, List.getElem_cons_succ, List.setIfInBounds_toArray, List.set_cons_zero, List.set_cons_succ]
        refine wpAnyH_take (i := 11) (v := ?_) rfl (by kernel_rfl) (by kernel_rfl) (by kernel_rfl) (fun _ _ _ h => h) (Or.inl ⟨by rfl, (by intro w hSw; obtain ⟨d0, d1, d2, d3⟩ := XB.out _ (HRB.out.trans (hSw.mono HRB.out.size)); go_simp; try with_reducible rfl)⟩) (by assumption) ?_
        simp only [Act.put, List.getElem_toArray, List.getElem_cons_zero, List.getElem_cons_succ, List.setIfInBounds_toArray, List.set_cons_zero, List.set_cons_succ]
        refine wpAnyH_take (i := 12) (v := ?_) rfl (by kernel_rfl) (by kernel_rfl) (by kernel_rfl) (fun _ _ _ h => h) (Or.inl ⟨by rfl, (by intro w hSw; obtain ⟨d0, d1, d2, d3⟩ := XB.out _ (HRB.out.trans (hSw.mono HRB.out.size)); go_simp; try with_reducible rfl)⟩) (by assumption) ?_
        simp only [Act.put, List.getElem_toArray, List.getElem_cons_zero, List.getElem_cons_succ, List.setIfInBounds_toArray, List.set_cons_zero, List.set_cons_succ]
        refine wpAnyH_ready (rs := [10]) (by kernel_rfl) (by simp) ?_
        refine AllReadyH.cons rfl (fun K hK => ?_) AllReadyH.nil
        go_simp
        go_at_call 17
        refine (BV.out _).mono ?_
        rintro e wd ⟨rfl, hbN⟩
        have hhN := hHeld.trans (hbN.mono hHeld.size)
        clear hbN
        refine hK.out _ _ hhN (fun hHeld => ?_)
        clear hhN
        clear hK K
        refine wpAnyH_ready (rs := [13]) (by kernel_rfl) (by simp) ?_
        refine AllReadyH.cons rfl (fun K hK => ?_) AllReadyH.nil
        go_simp
        go_at_call 18
        refine (BR.out _).mono ?_
        rintro e we ⟨rfl, hbN⟩
        have hhN := hHeld.trans (hbN.mono hHeld.size)
        clear hbN
        refine hK.out _ _ hhN (fun hHeld => ?_)
        clear hhN
        clear hK K
        refine wpAnyH_take (i := 14) (v := ?_) rfl (by kernel_rfl) (by kernel_rfl) (by kernel_rfl) (fun _ _ _ h => h) (Or.inl ⟨by rfl, (by intro w hSw; go_simp; try with_reducible rfl)⟩) (by assumption) ?_
        simp only [Act.put, List.getElem_toArray, List.getElem_cons_zero, List.getElem_cons_succ, List.setIfInBounds_toArray, List.set_cons_zero, List.set_cons_succ]
        refine wpAnyH_take (i := 15) (v := ?_) rfl (by kernel_rfl) (by kernel_rfl) (by kernel_rfl) (fun _ _ _ h => h) (Or.inl ⟨by rfl, (by intro w hSw; go_simp; try with_reducible rfl)⟩) (by assumption) ?_
        simp only [Act.put, List.getElem_toArray, List.getElem_cons_zero, List.getElem_cons_succ, List.setIfInBounds_toArray, List.set_cons_zero, List.set_cons_succ]
        refine wpAnyH_take (i := 16) (v := ?_) rfl (by kernel_rfl) (by kernel_rfl) (by kernel_rfl) (fun _ _ _ h => h) (Or.inl ⟨by rfl, (by intro w hSw; go_simp; try with_reducible rfl)⟩) (by assumption) ?_
        simp only [Act.put, List.getElem_toArray, List.getElem_cons_zero, List.getElem_cons_succ, List.setIfInBounds_toArray, List.set_cons_zero, List.set_cons_succ]
        refine wpAnyH_done (by kernel_rfl) ?_ _
        go_wp2_with fail
        have H9 := Lib.hid (HBR.out.trans (hHeld.mono HBR.out.size))
        clear hHeld
        go_ret
        exact ⟨by first | rfl | simp, H9.out⟩
  · obtain ⟨A, cap, rfl, hc⟩ := h.parts
    have g1 : ¬ (60 : Int) < (l.length : Int) := by omega
    have HL := Lib.hid h
    clear h
    go_enter Try.func5, Try.ntmps5
    go_wp2_with fail
    go_loopw [7, 8] (fun out i wr => ∃ n : Nat, n ≤ l.length ∧ i = .int .i64 (n : Int) ∧ Hid (RowsOwn 23 2 verV ((w.alloc (.cells #[.int .i64 ax, .int .i64 ay] 23)).alloc (.cells #[.int .i64 bx, .int .i64 by_] 23)) (Ver.sort ((l).take n)) out wr)) (fun _ i _ => l.length - (intOf i).toNat)
    case atStart => exact ⟨0, Nat.zero_le _, rfl, Lib.hid (by rw [List.take_zero]; exact RowsOwn.start _ _ _ _)⟩
    case round =>
      obtain ⟨n, hn, rfl, hown⟩ := hrel
      have HRB := Lib.hid hown.out.2
      have HBR := Lib.hid (HWB.out.trans (hown.out.2.mono HWB.out.size))
      by_cases hlt : n < l.length
      · obtain ⟨b, o, cap', e, -, -, hb⟩ := HL.out.block (by omega)
        injection e with e1 e2 e3
        subst e1 e3
        obtain ⟨x, hx⟩ : ∃ x, (l)[n]? = some x := ⟨_, List.getElem?_eq_getElem (by rw [(rfl : l.length = l.length)]; exact hlt)⟩
        obtain ⟨c0, c1⟩ := Vrs.at (HL.out.below HBR.out) hx
        have hst := Lib.hid (Ver.sort_take (l) n x hx)
        have hn0 : (0 : Int) ≤ (n : Int) := by omega
        have hn1 : (n : Int) < (l.length : Int) := by omega
        have PU := Lib.hid (ref_put hown.out (by have := Ver.sort_len ((l).take n); rw [List.length_take] at this; omega) x)
        clear hx
        go_wp2_with fail
        refine (PU.out).mono ?_
        rintro e w2 ⟨v2, rfl, h2⟩
        have H2 := Lib.hid h2
        clear h2
        go_wp2_with fail
        exact ⟨⟨n + 1, by omega, by go_num, by rw [hst.out]; exact H2⟩, by show l.length - ((n : Int) + 1).toNat < l.length - (n : Int).toNat; omega⟩
      · obtain rfl : n = l.length := by omega
        have htake : (l).take l.length = l := List.take_of_length_le (Nat.le_of_eq (rfl : l.length = l.length))
        rw [htake] at hown
        have hsl : (Ver.sort (l)).length ≤ 1000000 := by have := Ver.sort_len (l); rw [(rfl : l.length = l.length)] at this; omega
        have SO := Lib.hid (fun (W : World) (hW : Below w.heap.size w W) => Z.sort (w := W) (HL.out.below hW) (by rw [(rfl : l.length = l.length)]; omega))
        have HW : Hid (∀ W, Below wr.heap.size wr W → Vrs W (NewIn ((w.alloc (.cells #[.int .i64 ax, .int .i64 ay] 23)).alloc (.cells #[.int .i64 bx, .int .i64 by_] 23)) wr) u7 (Ver.sort (l))) := Lib.hid (fun W hW => (hown.out.rows (fun _ _ => rfl)).below hW)
        have SA : Hid (∀ (W : World) (F G : Nat → Prop) (p : Value), Vrs W F p (Ver.sort (l)) → Vrs W G u7 (Ver.sort (l)) → Calls Try.prog 15 #[p, u7] W fun e w' => e = .returned (.bool true) ∧ Below W.heap.size W w') := Lib.hid (fun W F G p hp hq => by
          have := ref_vsame hp hq hsl hsl
          rwa [decide_eq_true (rfl : Ver.sort (l) = Ver.sort (l))] at this)
        clear hown htake
        go_wp2_with fail
        refine wp_region_held_drew (S := (fun w' : World => Below wr.heap.size wr w')) (by kernel_rfl) ((Below.refl _ _).drew) (fun hHeld => ?_)
        refine wpAnyH_ready (rs := [0]) (by kernel_rfl) (by simp) ?_
        refine AllReadyH.cons rfl (fun K hK => ?_) AllReadyH.nil
        go_simp
        go_at_call 10
        refine (AW.out _).mono ?_
        rintro e wa ⟨rfl, hbN⟩
        have hhN := hHeld.trans (hbN.mono hHeld.size)
        clear hbN
        refine hK.out _ _ hhN (fun hHeld => ?_)
        clear hhN
        clear hK K
        refine wpAnyH_take (i := 1) (v := ?_) rfl (by kernel_rfl) (by kernel_rfl) (by kernel_rfl) (fun _ _ _ h => h) (Or.inl ⟨by rfl, (by intro w hSw; go_simp; try with_reducible rfl)⟩) (by assumption) ?_
        simp only [Act.put, List.getElem_toArray, List.getElem_cons_zero, List.getElem_cons_succ, List.setIfInBounds_toArray, List.set_cons_zero, List.set_cons_succ]
        refine wpAnyH_take (i := 2) (v := ?_) rfl (by kernel_rfl) (by kernel_rfl) (by kernel_rfl) (fun _ _ _ h => h) (Or.inl ⟨by rfl, (by intro w hSw; go_simp; try with_reducible rfl)⟩) (by assumption) ?_
        simp only [Act.put, List.getElem_toArray, List.getElem_cons_zero, List.getElem_cons_succ, List.setIfInBounds_toArray, List.set_cons_zero, List.set_cons_succ]
        refine wpAnyH_take (i := 4) (v := ?_) rfl (by kernel_rfl) (by kernel_rfl) (by kernel_rfl) (fun _ _ _ h => h) (Or.inl ⟨by rfl, (by intro w hSw; go_simp; try with_reducible rfl)⟩) (by assumption) ?_
        simp only [Act.put, List.getElem_toArray, List.getElem_cons_zero, List.getElem_cons_succ, List.setIfInBounds_toArray, List.set_cons_zero, List.set_cons_succ]
        refine wpAnyH_ready (rs := [3]) (by kernel_rfl) (by simp) ?_
        refine AllReadyH.cons rfl (fun K hK => ?_) AllReadyH.nil
        go_simp
        go_at_call 16
        refine (SO.out _ (HBR.out.trans (hHeld.mono HBR.out.size))).mono ?_
        rintro e wb ⟨sv, rfl, hsv, hbN⟩
        have hhN := hHeld.trans (hbN.mono hHeld.size)
        have HSV := Lib.hid hsv
        clear hsv
        clear hbN
        refine hK.out _ _ hhN (fun hHeld => ?_)
        clear hhN
        clear hK K
        refine wpAnyH_ready (rs := [5]) (by kernel_rfl) (by simp) ?_
        refine AllReadyH.cons rfl (fun K hK => ?_) AllReadyH.nil
        go_simp
        go_at_call 15
        refine (SA.out _ _ _ _ HSV.out (HW.out _ hHeld)).mono ?_
        rintro e wc ⟨rfl, hbN⟩
        have hhN := hHeld.trans (hbN.mono hHeld.size)
        clear hbN
        refine hK.out _ _ hhN (fun hHeld => ?_)
        clear hhN
        clear hK K
        refine wpAnyH_take (i := 6) (v := ?_) rfl (by kernel_rfl) (by kernel_rfl) (by kernel_rfl) (fun _ _ _ h => h) (Or.inl ⟨by rfl, (by intro w hSw; go_simp; try with_reducible rfl)⟩) (by assumption) ?_
        simp only [Act.put, List.getElem_toArray, List.getElem_cons_zero, List.getElem_cons_succ, List.setIfInBounds_toArray, List.set_cons_zero, List.set_cons_succ]
        refine wpAnyH_take (i := 7) (v := ?_) rfl (by kernel_rfl) (by kernel_rfl) (by kernel_rfl) (fun _ _ _ h => h) (Or.inl ⟨by rfl, (by intro w hSw; go_simp; try with_reducible rfl)⟩) (by assumption) ?_
        simp only [Act.put, List.getElem_toArray, List.getElem_cons_zero, List.getElem_cons_succ, List.setIfInBounds_toArray, List.set_cons_zero, List.set_cons_succ]
        refine wpAnyH_take (i := 8) (v := ?_) rfl (by kernel_rfl) (by kernel_rfl) (by kernel_rfl) (fun _ _ _ h => h) (Or.inl ⟨by rfl, (by intro w hSw; obtain ⟨d0, d1, d2, d3⟩ := XB.out _ (HRB.out.trans (hSw.mono HRB.out.size)); go_simp; try with_reducible rfl)⟩) (by assumption) ?_
        simp only [Act.put, List.getElem_toArray, List.getElem_cons_zero, List.getElem_cons_succ, List.setIfInBounds_toArray, List.set_cons_zero, List.set_cons_succ]
        refine wpAnyH_take (i := 9) (v := ?_) rfl (by kernel_rfl) (by kernel_rfl) (by kernel_rfl) (fun _ _ _ h => h) (Or.inl ⟨by rfl, (by intro w hSw; obtain ⟨d0, d1, d2, d3⟩ := XB.out _ (HRB.out.trans (hSw.mono HRB.out.size)); go_simp; try with_reducible rfl)⟩) (by assumption) ?_
        simp only [Act.put, List.getElem_toArray, List.getElem_cons_zero, List.getElem_cons_succ, List.setIfInBounds_toArray, List.set_cons_zero, List.set_cons_succ]
        refine wpAnyH_take (i := 11) (v := ?_) rfl (by kernel_rfl) (by kernel_rfl) (by kernel_rfl) (fun _ _ _ h => h) (Or.inl ⟨by rfl, (by intro w hSw; obtain ⟨d0, d1, d2, d3⟩ := XB.out _ (HRB.out.trans (hSw.mono HRB.out.size)); go_simp; try with_reducible rfl)⟩) (by assumption) ?_
        simp only [Act.put, List.getElem_toArray, List.getElem_cons_zero, List.getElem_cons_succ, List.setIfInBounds_toArray, List.set_cons_zero, List.set_cons_succ]
        refine wpAnyH_take (i := 12) (v := ?_) rfl (by kernel_rfl) (by kernel_rfl) (by kernel_rfl) (fun _ _ _ h => h) (Or.inl ⟨by rfl, (by intro w hSw; obtain ⟨d0, d1, d2, d3⟩ := XB.out _ (HRB.out.trans (hSw.mono HRB.out.size)); go_simp; try with_reducible rfl)⟩) (by assumption) ?_
        simp only [Act.put, List.getElem_toArray, List.getElem_cons_zero, List.getElem_cons_succ, List.setIfInBounds_toArray, List.set_cons_zero, List.set_cons_succ]
        refine wpAnyH_ready (rs := [10]) (by kernel_rfl) (by simp) ?_
        refine AllReadyH.cons rfl (fun K hK => ?_) AllReadyH.nil
        go_simp
        go_at_call 17
        refine (BV.out _).mono ?_
        rintro e wd ⟨rfl, hbN⟩
        have hhN := hHeld.trans (hbN.mono hHeld.size)
        clear hbN
        refine hK.out _ _ hhN (fun hHeld => ?_)
        clear hhN
        clear hK K
        refine wpAnyH_ready (rs := [13]) (by kernel_rfl) (by simp) ?_
        refine AllReadyH.cons rfl (fun K hK => ?_) AllReadyH.nil
        go_simp
        go_at_call 18
        refine (BR.out _).mono ?_
        rintro e we ⟨rfl, hbN⟩
        have hhN := hHeld.trans (hbN.mono hHeld.size)
        clear hbN
        refine hK.out _ _ hhN (fun hHeld => ?_)
        clear hhN
        clear hK K
        refine wpAnyH_take (i := 14) (v := ?_) rfl (by kernel_rfl) (by kernel_rfl) (by kernel_rfl) (fun _ _ _ h => h) (Or.inl ⟨by rfl, (by intro w hSw; go_simp; try with_reducible rfl)⟩) (by assumption) ?_
        simp only [Act.put, List.getElem_toArray, List.getElem_cons_zero, List.getElem_cons_succ, List.setIfInBounds_toArray, List.set_cons_zero, List.set_cons_succ]
        refine wpAnyH_take (i := 15) (v := ?_) rfl (by kernel_rfl) (by kernel_rfl) (by kernel_rfl) (fun _ _ _ h => h) (Or.inl ⟨by rfl, (by intro w hSw; go_simp; try with_reducible rfl)⟩) (by assumption) ?_
        simp only [Act.put, List.getElem_toArray, List.getElem_cons_zero, List.getElem_cons_succ, List.setIfInBounds_toArray, List.set_cons_zero, List.set_cons_succ]
        refine wpAnyH_take (i := 16) (v := ?_) rfl (by kernel_rfl) (by kernel_rfl) (by kernel_rfl) (fun _ _ _ h => h) (Or.inl ⟨by rfl, (by intro w hSw; go_simp; try with_reducible rfl)⟩) (by assumption) ?_
        simp only [Act.put, List.getElem_toArray, List.getElem_cons_zero, List.getElem_cons_succ, List.setIfInBounds_toArray, List.set_cons_zero, List.set_cons_succ]
        refine wpAnyH_done (by kernel_rfl) ?_ _
        go_wp2_with fail
        have H9 := Lib.hid (HBR.out.trans (hHeld.mono HBR.out.size))
        clear hHeld
        go_ret
        exact ⟨by first | rfl | simp, H9.out⟩
end Go.Proofs.Ytpmcjanfgamkoaa
