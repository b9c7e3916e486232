/- The landed vers: the closure that keeps the newest stamp, Newest. -/
import Derived.Test.YtpmcjanfgamkoaaVerSml
set_option linter.unusedSimpArgs false
set_option linter.unusedVariables false
namespace Go.Proofs.Ytpmcjanfgamkoaa
open Go.RowKit Go.Sort

abbrev stpC (s : Ver.S) : Array Value := #[.int .i64 s.v.by_, .int .i64 s.v.n, .int .i64 s.time]
set_option maxRecDepth 100000 in
theorem stp_stored {w : World} {b : Nat} {t : TypeId} {cs : Array Value} (h : Row w b t cs) (hs : cs.size = 3) (s : Ver.S) :
    Row (((w.setCell ⟨b, 0, none⟩ (.int .i64 s.v.by_)).setCell ⟨b, 1, none⟩ (.int .i64 s.v.n)).setCell ⟨b, 2, none⟩ (.int .i64 s.time)) b t (stpC s) := by
  have := ((h.stored 0 (.int .i64 s.v.by_)).stored 1 (.int .i64 s.v.n)).stored 2 (.int .i64 s.time)
  obtain ⟨l⟩ := cs
  match l, hs with
  | [a, b, c], _ => exact this
set_option maxRecDepth 100000 in
theorem gb_three {a w : World} {b : Nat} (h : a.grownBy w (some b)) (x y z : Value) : a.grownBy (((w.setCell ⟨b, 0, none⟩ x).setCell ⟨b, 1, none⟩ y).setCell ⟨b, 2, none⟩ z) (some b) := gb_store (gb_store (gb_store h 0 x) 1 y) 2 z
set_option maxRecDepth 100000 in
theorem gb_threeNew {a w : World} {b c : Nat} (h : a.grownBy w (some b)) (hc : a.heap.size ≤ c) (x y z : Value) : a.grownBy (((w.setCell ⟨c, 0, none⟩ x).setCell ⟨c, 1, none⟩ y).setCell ⟨c, 2, none⟩ z) (some b) := gb_storeNew (gb_storeNew (gb_storeNew h (p := ⟨c, 0, none⟩) hc x) (p := ⟨c, 1, none⟩) hc y) (p := ⟨c, 2, none⟩) hc z

set_option maxRecDepth 100000 in
theorem gb_below' {B : Nat} {a w : World} (h : Below B a w) (hB : a.heap.size ≤ B) (r : Option Nat) : a.grownBy w r := ⟨h.os, h.tape, h.output, h.size, fun i hi _ => h.block i (by omega)⟩

/-- The newer one of two. -/
def Ver.newer (m s : Ver.S) : Ver.S := if Ver.Older m s then s else m

set_option maxRecDepth 100000 in
theorem keeper_of (w : World) (m : Ver.S) : Calls Try.prog 23 #[stpA m] w fun e w' => e = .returned (.func (.func 29) #[] #[.pointer (some ⟨w.heap.size, 0, none⟩)]) ∧ w' = w.alloc (.cells (stpC m) 25) := by
  go_enter Try.func23, Try.ntmps23
  go_wp2_with fail
  go_ret
  exact ⟨rfl, rfl⟩

set_option maxRecDepth 100000 in
set_option maxHeartbeats 1600000 in
theorem keep_one {W : World} {cb : Nat} {m : Ver.S} (hr : Row W cb 25 (stpC m)) (s : Ver.S) :
    Calls Try.prog 29 #[stpA s, .pointer (some ⟨cb, 0, none⟩)] W fun e w' => e = .returned (stpA (Ver.newer m s)) ∧ Row w' cb 25 (stpC (Ver.newer m s)) ∧ W.grownBy w' (some cb) := by
  have CM := Lib.hid (fun U => ver_compare U m s)
  have Hsz : Hid ((Try.prog.info? 25).map (·.size) = some 3) := Lib.hid (by kernel_rfl)
  have hcb := hr.inHeap
  have hl2 := laid_two W (.cells (stpC s) 25) (.cells #[.int .i64 0, .int .i64 0, .int .i64 0] 25)
  have R0 := Row.below hr hl2.below hcb
  have B0 := Row.behindNew (Row.made W 25 (stpC s)) (.cells #[.int .i64 0, .int .i64 0, .int .i64 0] 25)
  have S0 := Row.made (W.alloc (.cells (stpC s) 25)) 25 #[.int .i64 0, .int .i64 0, .int .i64 0]
  have hz : (W.alloc (.cells (stpC s) 25)).heap.size = W.heap.size + 1 := by simp
  rw [hz] at S0
  have FA := Lib.hid (fun (U : World) (hU : Laid ((W.alloc (.cells (stpC s) 25)).alloc (.cells #[.int .i64 0, .int .i64 0, .int .i64 0] 25)) U) => (⟨Row.below R0 hU.below R0.inHeap, Row.below B0 hU.below B0.inHeap, Row.below S0 hU.below S0.inHeap⟩ : Row U cb 25 (stpC m) ∧ Row U W.heap.size 25 (stpC s) ∧ Row U (W.heap.size + 1) 25 #[.int .i64 0, .int .i64 0, .int .i64 0]))
  have m0 := R0.at 0
  have m1 := R0.at 1
  have m2 := R0.at 2
  have L2 := Lib.hid hl2
  have Hcb : Hid (cb ≠ W.heap.size + 1) := Lib.hid (by omega)
  clear hr B0 S0 R0 hl2 hz
  by_cases h : Ver.Older m s
  · have e1 : Hid (Ver.newer m s = s) := Lib.hid (if_pos h)
    have CM : Hid (∀ U, Calls Try.prog 13 #[stpA m, stpA s] U fun e w' => e = .returned (.int .i64 (-1)) ∧ Laid U w') := Lib.hid (fun U => by have := CM.out U; unfold Ver.compare at this; rwa [if_pos h] at this)
    obtain ⟨t, x, y⟩ := m
    obtain ⟨t', x', y'⟩ := s
    clear h
    go_enter Try.func29, Try.ntmps29
    go_wp2_with fail
    refine (CM.out _).mono ?_
    rintro e w1 ⟨rfl, hl⟩
    obtain ⟨R1, B1, S1⟩ := FA.out _ hl
    have HL := Lib.hid (L2.out.trans hl)
    have q0 := R1.at 0
    have q1 := R1.at 1
    have q2 := R1.at 2
    have f0 := R1.free 0
    have f1 := R1.free 1
    have f2 := R1.free 2
    have b0 := B1.at 0
    have b1 := B1.at 1
    have b2 := B1.at 2
    have s0 := S1.at 0
    have s1 := S1.at 1
    have s2 := S1.at 2
    have g0 := S1.free 0
    have g1 := S1.free 1
    have g2 := S1.free 2
    have HR := Lib.hid (stp_stored R1 rfl ⟨t', x', y'⟩)
    have HE : Hid (Row ((((((w1.setCell ⟨cb, 0, none⟩ (.int .i64 x')).setCell ⟨cb, 1, none⟩ (.int .i64 y')).setCell ⟨cb, 2, none⟩ (.int .i64 t')).setCell ⟨W.heap.size + 1, 0, none⟩ (.int .i64 x')).setCell ⟨W.heap.size + 1, 1, none⟩ (.int .i64 y')).setCell ⟨W.heap.size + 1, 2, none⟩ (.int .i64 t')) (W.heap.size + 1) 25 (stpC ⟨t', x', y'⟩) ∧ Row ((((((w1.setCell ⟨cb, 0, none⟩ (.int .i64 x')).setCell ⟨cb, 1, none⟩ (.int .i64 y')).setCell ⟨cb, 2, none⟩ (.int .i64 t')).setCell ⟨W.heap.size + 1, 0, none⟩ (.int .i64 x')).setCell ⟨W.heap.size + 1, 1, none⟩ (.int .i64 y')).setCell ⟨W.heap.size + 1, 2, none⟩ (.int .i64 t')) cb 25 (stpC ⟨t', x', y'⟩) ∧ W.grownBy ((((((w1.setCell ⟨cb, 0, none⟩ (.int .i64 x')).setCell ⟨cb, 1, none⟩ (.int .i64 y')).setCell ⟨cb, 2, none⟩ (.int .i64 t')).setCell ⟨W.heap.size + 1, 0, none⟩ (.int .i64 x')).setCell ⟨W.heap.size + 1, 1, none⟩ (.int .i64 y')).setCell ⟨W.heap.size + 1, 2, none⟩ (.int .i64 t')) (some cb)) := Lib.hid (by
      refine ⟨stp_stored (((S1.storedElsewhere (p := ⟨cb, 0, none⟩) Hcb.out _).storedElsewhere (p := ⟨cb, 1, none⟩) Hcb.out _).storedElsewhere (p := ⟨cb, 2, none⟩) Hcb.out _) rfl ⟨t', x', y'⟩, ?_, ?_⟩
      · exact (((HR.out.storedElsewhere (p := ⟨W.heap.size + 1, 0, none⟩) (Ne.symm Hcb.out) _).storedElsewhere (p := ⟨W.heap.size + 1, 1, none⟩) (Ne.symm Hcb.out) _).storedElsewhere (p := ⟨W.heap.size + 1, 2, none⟩) (Ne.symm Hcb.out) _)
      · exact gb_threeNew (gb_three (gb_below HL.out.below (some cb)) _ _ _) (Nat.le_succ _) _ _ _)
    clear hl R1 B1 S1 m0 m1 m2
    go_wp2_with fail
    exact bodyPost_ret (v := stpA ⟨t', x', y'⟩) (results_cell_row (by rfl) _ _ (W.heap.size + 1) 25 _ (0, 0) _ (by rfl) HE.out.1 Try.underlying25 rfl Hsz.out) rfl (by rw [e1.out]; exact ⟨rfl, HE.out.2.1, HE.out.2.2⟩)
  · have e1 : Hid (Ver.newer m s = m) := Lib.hid (if_neg h)
    have hr0 : ¬ Ver.compare m s < 0 := by
      unfold Ver.compare
      rw [if_neg h]
      split <;> decide
    generalize Ver.compare m s = r at *
    obtain ⟨t, x, y⟩ := m
    obtain ⟨t', x', y'⟩ := s
    clear h
    go_enter Try.func29, Try.ntmps29
    go_wp2_with fail
    refine (CM.out _).mono ?_
    rintro e w1 ⟨rfl, hl⟩
    obtain ⟨R1, B1, S1⟩ := FA.out _ hl
    have HL := Lib.hid (L2.out.trans hl)
    have q0 := R1.at 0
    have q1 := R1.at 1
    have q2 := R1.at 2
    have s0 := S1.at 0
    have s1 := S1.at 1
    have s2 := S1.at 2
    have g0 := S1.free 0
    have g1 := S1.free 1
    have g2 := S1.free 2
    have HR := Lib.hid R1
    have HE : Hid (Row (((w1.setCell ⟨W.heap.size + 1, 0, none⟩ (.int .i64 x)).setCell ⟨W.heap.size + 1, 1, none⟩ (.int .i64 y)).setCell ⟨W.heap.size + 1, 2, none⟩ (.int .i64 t)) (W.heap.size + 1) 25 (stpC ⟨t, x, y⟩) ∧ Row (((w1.setCell ⟨W.heap.size + 1, 0, none⟩ (.int .i64 x)).setCell ⟨W.heap.size + 1, 1, none⟩ (.int .i64 y)).setCell ⟨W.heap.size + 1, 2, none⟩ (.int .i64 t)) cb 25 (stpC ⟨t, x, y⟩) ∧ W.grownBy (((w1.setCell ⟨W.heap.size + 1, 0, none⟩ (.int .i64 x)).setCell ⟨W.heap.size + 1, 1, none⟩ (.int .i64 y)).setCell ⟨W.heap.size + 1, 2, none⟩ (.int .i64 t)) (some cb)) := Lib.hid (by
      refine ⟨stp_stored S1 rfl ⟨t, x, y⟩, ?_, ?_⟩
      · exact (((HR.out.storedElsewhere (p := ⟨W.heap.size + 1, 0, none⟩) (Ne.symm Hcb.out) _).storedElsewhere (p := ⟨W.heap.size + 1, 1, none⟩) (Ne.symm Hcb.out) _).storedElsewhere (p := ⟨W.heap.size + 1, 2, none⟩) (Ne.symm Hcb.out) _)
      · exact gb_threeNew (gb_below HL.out.below (some cb)) (Nat.le_succ _) _ _ _)
    clear hl R1 B1 S1 m0 m1 m2
    go_wp2_with fail
    exact bodyPost_ret (v := stpA ⟨t, x, y⟩) (results_cell_row (by rfl) _ _ (W.heap.size + 1) 25 _ (0, 0) _ (by rfl) HE.out.1 Try.underlying25 rfl Hsz.out) rfl (by rw [e1.out]; exact ⟨rfl, HE.out.2.1, HE.out.2.2⟩)

set_option maxRecDepth 100000 in
theorem newest_none (w : World) (A : Option Addr) (c : Nat) : Calls Try.prog 11 #[.slice A 0 c] w fun e w' => e = .returned (.tuple #[stpA Ver.zero, .bool false]) ∧ Below w.heap.size w w' := by
  have HB := Lib.hid (laid_one w (.cells #[.int .i64 0, .int .i64 0, .int .i64 0] 25)).below
  have HR := Lib.hid (Row.made w 25 #[.int .i64 0, .int .i64 0, .int .i64 0])
  have Hsz : Hid ((Try.prog.info? 25).map (·.size) = some 3) := Lib.hid (by kernel_rfl)
  go_enter Try.func11, Try.ntmps11
  go_wp2_with fail
  refine bodyPost_ret (v := .tuple #[stpA Ver.zero, .bool false]) ?_ rfl ⟨rfl, HB.out⟩
  rw [results_cell_tmp (by rfl)]
  have hl := run_loadVar_row (P := Try.prog) _ w.heap.size 25 25 _ (0, 0) _ HR.out Try.underlying25 rfl Hsz.out
  simp [asAddr, hl, Result.andThen]
  exact ⟨rfl, rfl, rfl⟩

set_option maxRecDepth 100000 in
set_option maxHeartbeats 1600000 in
theorem newest_some {w : World} {F : Nat → Prop} {v : Value} {l : List Ver.S} (h : Sts w F v l) (hl : l.length ≤ 1000000) (h0 : 0 < l.length) : Calls Try.prog 11 #[v] w fun e w' => (∃ s, Ver.Newest l s ∧ e = .returned (.tuple #[stpA s, .bool true])) ∧ Below w.heap.size w w' := by
  obtain ⟨b, o, cap, rfl, hcap, -, hb⟩ := h.block h0
  have CL := Lib.hid (fun (W : World) (hW : Below w.heap.size w W) (i : Nat) (x : Ver.S) (hx : l[i]? = some x) => Sts.at (h.below hW) hx)
  obtain ⟨a, ha⟩ : ∃ a, l[0]? = some a := ⟨_, List.getElem?_eq_getElem h0⟩
  have B0 := (laid_one w (.cells #[.int .i64 0, .int .i64 0, .int .i64 0] 25)).below
  have R0 := Row.made w 25 #[.int .i64 0, .int .i64 0, .int .i64 0]
  have hz : (w.alloc (.cells #[.int .i64 0, .int .i64 0, .int .i64 0] 25)).heap.size = w.heap.size + 1 := by simp
  have Hsz : Hid ((Try.prog.info? 25).map (·.size) = some 3) := Lib.hid (by kernel_rfl)
  obtain ⟨c0, c1, c2⟩ := CL.out _ B0 0 a ha
  simp only [Nat.zero_mul, Nat.add_zero] at c0 c1 c2
  have KO := Lib.hid (fun W => keeper_of W a)
  have Hl := Lib.hid hl
  have h0' : (0 : Int) < (l.length : Int) := by omega
  have h0n : ¬ (l.length : Int) = 0 := by omega
  have h1l : (1 : Int) ≤ (l.length : Int) := by omega
  have h1c : (1 : Int) ≤ (cap : Int) := by omega
  have hcl : (l.length : Int) ≤ (cap : Int) := by omega
  have hl1 : (l.length : Int) ≤ 1000000 := by omega
  have hl' : 1 ≤ l.length := by omega
  have HN : Hid (Ver.Newest (l.take 1) a) := Lib.hid (by
    obtain ⟨h1, e1⟩ := List.getElem?_eq_some_iff.1 ha
    have : l.take 1 = [a] := by rw [show (1 : Nat) = 0 + 1 from rfl, List.take_succ_eq_append_getElem h1, e1]; rfl
    rw [this]
    exact Ver.newest_first a)
  have HB0 := Lib.hid B0
  have HR0 := Lib.hid R0
  clear h B0 R0 ha
  obtain ⟨at_, ax, ay⟩ := a
  simp only at c0 c1 c2
  go_enter Try.func11, Try.ntmps11
  go_wp2_with fail
  refine (KO.out _).mono ?_
  rintro e w1 ⟨rfl, hw1⟩
  have r0 : Row w1 w.heap.size 25 #[.int .i64 0, .int .i64 0, .int .i64 0] := by rw [hw1]; exact (HR0.out.behindNew _).behindNew _
  have r1 : Row w1 (w.heap.size + 1) 25 (stpC ⟨at_, ax, ay⟩) := by rw [hw1, ← hz]; exact (Row.made _ _ _).behindNew _
  have r2 : Row w1 (w.heap.size + 2) 25 (stpC ⟨at_, ax, ay⟩) := by rw [hw1]; have := Row.made ((w.alloc (.cells #[.int .i64 0, .int .i64 0, .int .i64 0] 25)).alloc (.cells (stpC ⟨at_, ax, ay⟩) 25)) 25 (stpC ⟨at_, ax, ay⟩); have hz2 : ((w.alloc (.cells #[.int .i64 0, .int .i64 0, .int .i64 0] 25)).alloc (.cells (stpC ⟨at_, ax, ay⟩) 25)).heap.size = w.heap.size + 2 := (by simp); rw [hz2] at this; exact this
  have b1 : Below w.heap.size w w1 := by rw [hw1]; exact (HB0.out.alloc HB0.out.size _).alloc (Nat.le_trans HB0.out.size (by simp)) _
  have e2 : ((w.alloc (.cells #[.int .i64 0, .int .i64 0, .int .i64 0] 25)).alloc (.cells (stpC ⟨at_, ax, ay⟩) 25)).heap.size = w.heap.size + 2 := by simp
  rw [e2]
  have R0 := Lib.hid r0
  have R1 := Lib.hid r1
  have R2 := Lib.hid r2
  have B1 := Lib.hid b1
  clear hw1 r0 r1 r2 b1 HB0 HR0 c0 c1 c2 hz e2
  by_cases hc1 : cap = 1
  · have hll : l.length = 1 := by omega
    subst hc1
    go_wp2_with fail
    go_loopw [20] (fun i wr => ∃ n : Nat, n ≤ l.length - 1 ∧ i = .int .i64 (n : Int) ∧ ∃ m, Hid (Ver.Newest (l.take (n + 1)) m) ∧ Hid (Row wr (w.heap.size + 1) 25 (stpC m)) ∧ Hid (Row wr (w.heap.size + 2) 25 (stpC m)) ∧ Hid (Row wr w.heap.size 25 #[.int .i64 0, .int .i64 0, .int .i64 0]) ∧ Hid (Below w.heap.size w wr)) (fun i _ => l.length - (intOf i).toNat)
    case atStart => exact ⟨0, by omega, rfl, _, HN, R1, R2, R0, B1⟩
    case round =>
      obtain ⟨n, hn, rfl, m, hm, hr1, hr2, hr0, hbel⟩ := hrel
      by_cases hlt : n < l.length - 1
      · exfalso
        omega
      · obtain rfl : n = l.length - 1 := by omega
        have hM : Hid (Ver.Newest l m) := Lib.hid (by
          have := hm.out
          rwa [show l.length - 1 + 1 = l.length by omega, List.take_length] at this)
        have q0 := hr1.out.at 0
        have q1 := hr1.out.at 1
        have q2 := hr1.out.at 2
        have s0 := hr0.out.at 0
        have s1 := hr0.out.at 1
        have s2 := hr0.out.at 2
        have g0 := hr0.out.free 0
        have g1 := hr0.out.free 1
        have g2 := hr0.out.free 2
        have HE := Lib.hid (stp_stored hr0.out rfl m)
        have HBE : Hid (Below w.heap.size w (((wr.setCell ⟨w.heap.size, 0, none⟩ (.int .i64 m.v.by_)).setCell ⟨w.heap.size, 1, none⟩ (.int .i64 m.v.n)).setCell ⟨w.heap.size, 2, none⟩ (.int .i64 m.time))) := Lib.hid (below_gb (gb_three (gb_below hbel.out (some w.heap.size)) _ _ _) (Nat.le_refl _) (Nat.le_refl _))
        have hn1 : ((l.length - 1 : Nat) : Int) = (l.length : Int) - 1 := by omega
        have hn2 : ¬ ((l.length - 1 : Nat) : Int) < (l.length : Int) - 1 := by omega
        obtain ⟨t, x, y⟩ := m
        clear hm hr1 hr2 hr0
        go_wp2_with fail
        refine bodyPost_ret (v := .tuple #[stpA ⟨t, x, y⟩, .bool true]) ?_ rfl ⟨⟨_, hM.out, rfl⟩, HBE.out⟩
        rw [results_cell_tmp (by rfl)]
        have hl := run_loadVar_row (P := Try.prog) _ w.heap.size 25 25 _ (0, 0) _ HE.out Try.underlying25 rfl Hsz.out
        simp [asAddr, hl, Result.andThen]
  · have hc2 : (1 : Int) < (cap : Int) := by omega
    go_wp2_with fail
    go_loopw [20] (fun i wr => ∃ n : Nat, n ≤ l.length - 1 ∧ i = .int .i64 (n : Int) ∧ ∃ m, Hid (Ver.Newest (l.take (n + 1)) m) ∧ Hid (Row wr (w.heap.size + 1) 25 (stpC m)) ∧ Hid (Row wr (w.heap.size + 2) 25 (stpC m)) ∧ Hid (Row wr w.heap.size 25 #[.int .i64 0, .int .i64 0, .int .i64 0]) ∧ Hid (Below w.heap.size w wr)) (fun i _ => l.length - (intOf i).toNat)
    case atStart => exact ⟨0, by omega, rfl, _, HN, R1, R2, R0, B1⟩
    case round =>
      obtain ⟨n, hn, rfl, m, hm, hr1, hr2, hr0, hbel⟩ := hrel
      by_cases hlt : n < l.length - 1
      · obtain ⟨x, hx⟩ : ∃ x, l[n + 1]? = some x := ⟨_, List.getElem?_eq_getElem (by omega)⟩
        obtain ⟨d0, d1, d2⟩ := CL.out _ hbel.out _ x hx
        have hn1 : (n : Int) < (l.length : Int) - 1 := by omega
        have hn0 : (0 : Int) ≤ (n : Int) := by omega
        rw [show o + (n + 1) * 3 = o + 3 + n * 3 by omega] at d0 d1 d2
        have hnew := Lib.hid (Ver.newest_more hm.out x)
        have hst : Hid (l.take (n + 1 + 1) = l.take (n + 1) ++ [x]) := Lib.hid (by
          obtain ⟨h1, e1⟩ := List.getElem?_eq_some_iff.1 hx
          rw [List.take_succ_eq_append_getElem h1, e1])
        have KP := Lib.hid (keep_one (hr2.out.behindNew (.cells (stpC x) 25)) x)
        have hsz : Hid (w.heap.size + 3 ≤ wr.heap.size) := Lib.hid (by have := hr2.out.inHeap; omega)
        obtain ⟨xt, xx, xy⟩ := x
        simp only at d0 d1 d2
        have hM : Hid (Ver.Newest (l.take (n + 1 + 1)) (Ver.newer m ⟨xt, xx, xy⟩)) := Lib.hid (by rw [hst.out]; exact hnew.out)
        clear hx
        generalize Ver.newer m ⟨xt, xx, xy⟩ = m2 at *
        go_wp2_with fail
        refine (KP.out).mono ?_
        rintro e w2 ⟨rfl, hc2, hg2⟩
        have r1 := (hr1.out.behindNew (.cells (stpC ⟨xt, xx, xy⟩) 25)).grown hg2 (by intro e; injection e with e; omega)
        have r0 := (hr0.out.behindNew (.cells (stpC ⟨xt, xx, xy⟩) 25)).grown hg2 (by intro e; injection e with e; omega)
        have hb2 : Hid (Below w.heap.size w w2) := Lib.hid ((hbel.out.alloc hbel.out.size (.cells (stpC ⟨xt, xx, xy⟩) 25)).grown hg2 (by have := hbel.out.size; simp; omega) (fun k hk => by injection hk with hk; omega))
        have q0 := r1.at 0
        have q1 := r1.at 1
        have q2 := r1.at 2
        have f0 := r1.free 0
        have f1 := r1.free 1
        have f2 := r1.free 2
        have HE : Hid (Row (((w2.setCell ⟨w.heap.size + 1, 0, none⟩ (.int .i64 m2.v.by_)).setCell ⟨w.heap.size + 1, 1, none⟩ (.int .i64 m2.v.n)).setCell ⟨w.heap.size + 1, 2, none⟩ (.int .i64 m2.time)) (w.heap.size + 1) 25 (stpC m2) ∧ Row (((w2.setCell ⟨w.heap.size + 1, 0, none⟩ (.int .i64 m2.v.by_)).setCell ⟨w.heap.size + 1, 1, none⟩ (.int .i64 m2.v.n)).setCell ⟨w.heap.size + 1, 2, none⟩ (.int .i64 m2.time)) (w.heap.size + 2) 25 (stpC m2) ∧ Row (((w2.setCell ⟨w.heap.size + 1, 0, none⟩ (.int .i64 m2.v.by_)).setCell ⟨w.heap.size + 1, 1, none⟩ (.int .i64 m2.v.n)).setCell ⟨w.heap.size + 1, 2, none⟩ (.int .i64 m2.time)) w.heap.size 25 #[.int .i64 0, .int .i64 0, .int .i64 0] ∧ Below w.heap.size w (((w2.setCell ⟨w.heap.size + 1, 0, none⟩ (.int .i64 m2.v.by_)).setCell ⟨w.heap.size + 1, 1, none⟩ (.int .i64 m2.v.n)).setCell ⟨w.heap.size + 1, 2, none⟩ (.int .i64 m2.time))) := Lib.hid (by
          refine ⟨stp_stored r1 rfl m2, ?_, ?_, below_gb (gb_three (gb_below hb2.out (some (w.heap.size + 1))) _ _ _) (Nat.le_succ _) (Nat.le_refl _)⟩
          · exact (((hc2.storedElsewhere (p := ⟨w.heap.size + 1, 0, none⟩) (by show w.heap.size + 1 ≠ w.heap.size + 2; omega) _).storedElsewhere (p := ⟨w.heap.size + 1, 1, none⟩) (by show w.heap.size + 1 ≠ w.heap.size + 2; omega) _).storedElsewhere (p := ⟨w.heap.size + 1, 2, none⟩) (by show w.heap.size + 1 ≠ w.heap.size + 2; omega) _)
          · exact (((r0.storedElsewhere (p := ⟨w.heap.size + 1, 0, none⟩) (by show w.heap.size + 1 ≠ w.heap.size; omega) _).storedElsewhere (p := ⟨w.heap.size + 1, 1, none⟩) (by show w.heap.size + 1 ≠ w.heap.size; omega) _).storedElsewhere (p := ⟨w.heap.size + 1, 2, none⟩) (by show w.heap.size + 1 ≠ w.heap.size; omega) _))
        clear r1 r0 hc2 hg2 hr1 hr2 hr0 hm hnew
        go_wp2_with fail
        exact ⟨⟨n + 1, by omega, by go_num, m2, hM, Lib.hid HE.out.1, Lib.hid HE.out.2.1, Lib.hid HE.out.2.2.1, Lib.hid HE.out.2.2.2⟩, by show l.length - ((n : Int) + 1).toNat < l.length - (n : Int).toNat; omega⟩
      · obtain rfl : n = l.length - 1 := by omega
        have hM : Hid (Ver.Newest l m) := Lib.hid (by
          have := hm.out
          rwa [show l.length - 1 + 1 = l.length by omega, List.take_length] at this)
        have q0 := hr1.out.at 0
        have q1 := hr1.out.at 1
        have q2 := hr1.out.at 2
        have s0 := hr0.out.at 0
        have s1 := hr0.out.at 1
        have s2 := hr0.out.at 2
        have g0 := hr0.out.free 0
        have g1 := hr0.out.free 1
        have g2 := hr0.out.free 2
        have HE := Lib.hid (stp_stored hr0.out rfl m)
        have HBE : Hid (Below w.heap.size w (((wr.setCell ⟨w.heap.size, 0, none⟩ (.int .i64 m.v.by_)).setCell ⟨w.heap.size, 1, none⟩ (.int .i64 m.v.n)).setCell ⟨w.heap.size, 2, none⟩ (.int .i64 m.time))) := Lib.hid (below_gb (gb_three (gb_below hbel.out (some w.heap.size)) _ _ _) (Nat.le_refl _) (Nat.le_refl _))
        have hn1 : ((l.length - 1 : Nat) : Int) = (l.length : Int) - 1 := by omega
        have hn2 : ¬ ((l.length - 1 : Nat) : Int) < (l.length : Int) - 1 := by omega
        obtain ⟨t, x, y⟩ := m
        clear hm hr1 hr2 hr0
        go_wp2_with fail
        refine bodyPost_ret (v := .tuple #[stpA ⟨t, x, y⟩, .bool true]) ?_ rfl ⟨⟨_, hM.out, rfl⟩, HBE.out⟩
        rw [results_cell_tmp (by rfl)]
        have hl := run_loadVar_row (P := Try.prog) _ w.heap.size 25 25 _ (0, 0) _ HE.out Try.underlying25 rfl Hsz.out
        simp [asAddr, hl, Result.andThen]
end Go.Proofs.Ytpmcjanfgamkoaa
