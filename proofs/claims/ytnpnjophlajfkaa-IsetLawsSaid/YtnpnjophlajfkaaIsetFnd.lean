/- The landed iset: the function that looks for an item (finder and its closure), Of, Has. -/
import Derived.Test.YtnpnjophlajfkaaIsetOk
import Derived.Test.YtnpnjophlajfkaaIsetRef
import Derived.WalkMore
set_option linter.unusedSimpArgs false
set_option linter.unusedVariables false
namespace Go.Proofs.Ytnpnjophlajfkaa
open Go.RowKit Go.Sort

/-- This value is a function that looks for items in S. -/
def Finds (w : World) (S : List Ver.V) (fv : Value) : Prop := ∃ B s F, fv = .func (.func 37) #[] #[.pointer (some ⟨B, 0, none⟩)] ∧ B < w.heap.size ∧ w.cell? ⟨B, 0, none⟩ = some s ∧ Vrs w F s S ∧ Ver.Up S ∧ S.length ≤ 1000000
set_option maxRecDepth 100000 in
theorem Finds.below {w w' : World} {S : List Ver.V} {fv : Value} (h : Finds w S fv) (hb : Below w.heap.size w w') : Finds w' S fv := by
  obtain ⟨B, s, F, e, hB, hc, hs, hu, hl⟩ := h
  exact ⟨B, s, F, e, Nat.lt_of_lt_of_le hB hb.size, (hb.cell (p := ⟨B, 0, none⟩) hB).trans hc, hs.below hb, hu, hl⟩

set_option maxRecDepth 100000 in
set_option maxHeartbeats 3200000 in
theorem finder_is (Z : VersOk) {w : World} {S : List Ver.V} {B : Nat} {s : Value} {F : Nat → Prop} (hc : w.cell? ⟨B, 0, none⟩ = some s) (hs : Vrs w F s S) (hu : Ver.Up S) (hl : S.length ≤ 1000000) (x : Ver.V) :
    Calls Try.prog 37 #[verA x, .pointer (some ⟨B, 0, none⟩)] w fun e w' => e = .returned (.bool (decide (x ∈ S))) ∧ Laid w w' := by
  have mixed : Try.prog.follows .mixedOrders = true := by kernel_rfl
  obtain ⟨A, cap, rfl, hcap⟩ := hs.parts
  have H := Lib.hid hs
  have HU := Lib.hid hu
  have HLn := Lib.hid hl
  have hBW := World.block_lt_of_cell? w _ hc
  have hc1 : (w.alloc (.cells #[.int .i64 x.by_, .int .i64 x.n] 24)).cell? ⟨B, 0, none⟩ = some (.slice A S.length cap) := ((Laid.new w _).below.cell (p := ⟨B, 0, none⟩) hBW).trans hc
  obtain ⟨x1, x2⟩ := x
  simp only at hc1
  have LB := Lib.hid (Laid.new w (.cells #[.int .i64 x1, .int .i64 x2] 24))
  have XB := Lib.hid (iset_boxed w x1 x2)
  have BE := Lib.hid (fun W (y : Ver.V) => Z.before (w := W) y ⟨x1, x2⟩)
  have BF := Lib.hid (fun W (y : Ver.V) => Z.before (w := W) ⟨x1, x2⟩ y)
  clear hc hs hu hl hBW
  go_enter Try.func37, Try.ntmps37
  go_wp2_with fail
  go_step3
  go_wp2_with fail
  go_step3
  go_wp2_with fail
  go_loopw [4] (fun v wr => ∃ (m : List Ver.V) (A : Option Addr) (cap : Nat), v = .slice A m.length cap ∧ m.length ≤ 1000000 ∧ Hid (Vrs wr F v m ∧ Ver.Up m ∧ ((⟨x1, x2⟩ : Ver.V) ∈ S ↔ (⟨x1, x2⟩ : Ver.V) ∈ m)) ∧ Laid (w.alloc (.cells #[.int .i64 x1, .int .i64 x2] 24)) wr) (fun v _ => match v with | .slice _ n _ => n | _ => 0)
  case atStart => exact ⟨S, A, cap, rfl, HLn.out, Lib.hid ⟨H.out.below LB.out.below, HU.out, Iff.rfl⟩, Laid.refl _⟩
  case round =>
    obtain ⟨m, A, cap, rfl, hml, hm, hlaid⟩ := hrel
    have HLD := Lib.hid hlaid
    have HL := Lib.hid (LB.out.trans hlaid)
    by_cases h0 : 0 < m.length
    · obtain ⟨b, o, cap1, e, hcc, -, hb⟩ := hm.out.1.block h0
      injection e with e1 e2 e3
      subst e1 e3
      clear e2
      have hd0 : m.length / 2 < m.length := by omega
      have hdiv : (m.length : Int) / 2 = ((m.length / 2 : Nat) : Int) := by omega
      have htd : (m.length : Int).tdiv 2 = ((m.length / 2 : Nat) : Int) := by rw [Int.tdiv_eq_ediv_of_nonneg (by omega)]; omega
      obtain ⟨y, hy⟩ : ∃ y, m[m.length / 2]? = some y := ⟨_, List.getElem?_eq_getElem hd0⟩
      have Hy := Lib.hid hy
      have Hd := Lib.hid hd0
      have Hcap := Lib.hid hcc
      obtain ⟨c0, c1⟩ := Vrs.at hm.out.1 hy
      generalize hi : m.length / 2 = i at *
      obtain ⟨q0, q1⟩ := XB.out _ hlaid
      have C0 := cells_grown c0
      have C1 := cells_grown c1
      have Q0 := cells_grown q0
      have Q1 := cells_grown q1
      have hi0 : (0 : Int) ≤ (i : Int) := by omega
      have hi1 : (i : Int) < (m.length : Int) := by omega
      have hm0 : (0 : Int) < (m.length : Int) := by omega
      have hmc : (m.length : Int) ≤ (cap : Int) := by omega
      have hml' : (m.length : Int) ≤ 1000000 := by omega
      clear hlaid hy
      by_cases hb1 : Ver.Before y ⟨x1, x2⟩
      · have BY : Hid (∀ W, Calls Try.prog 38 #[.agg #[.int .i64 y.by_, .int .i64 y.n], .agg #[.int .i64 x1, .int .i64 x2]] W fun e w' => e = .returned (.bool true) ∧ ∃ q os, w' = grow (W.drewN q) os) := Lib.hid (fun W => by have := BE.out W y; rwa [decide_eq_true hb1] at this)
        have hnext := Lib.hid (Iset.half_up hm.out.2.1 Hy.out hb1)
        have hlen : Hid ((m.drop (i + 1)).length = m.length - (i + 1)) := Lib.hid List.length_drop
        have hdr := Lib.hid (hm.out.1.drop rfl (i + 1) (by omega) (cap - (i + 1)) (by omega))
        clear hb1 c0 c1 q0 q1
        by_cases hc1 : i + 1 = cap
        · have hc1' : (i : Int) + 1 = (cap : Int) := by omega
          have hz : Hid (m.drop (i + 1) = []) := Lib.hid (List.drop_of_length_le (by have := Hcap.out; omega))
          go_wp2_with fail
          go_quiet_grown (first | (go_at_call 38; with_reducible refine Calls.grown_of (BY.out _)))
          have HG : Hid (Laid wr (grow (wr.drewN nq) osq)) := Lib.hid ⟨nq, osq, rfl⟩
          generalize grow (wr.drewN nq) osq = W at *
          go_wp2_with fail
          exact ⟨⟨[], _, _, rfl, Nat.zero_le _, Lib.hid ⟨Rws.empty _ _ _ _, List.Pairwise.nil, by have := hnext.out.2; rw [hz.out] at this; exact hm.out.2.2.trans this⟩, HLD.out.trans HG.out⟩, h0⟩
        · have hc1' : ¬ (i : Int) + 1 = (cap : Int) := by omega
          go_wp2_with fail
          go_quiet_grown (first | (go_at_call 38; with_reducible refine Calls.grown_of (BY.out _)))
          have HG : Hid (Laid wr (grow (wr.drewN nq) osq)) := Lib.hid ⟨nq, osq, rfl⟩
          generalize grow (wr.drewN nq) osq = W at *
          go_wp2_with fail
          exact ⟨⟨m.drop (i + 1), _, _, by rw [hlen.out], by rw [hlen.out]; omega, Lib.hid ⟨Rws.below hdr.out HG.out.below, hnext.out.1, hm.out.2.2.trans hnext.out.2⟩, HLD.out.trans HG.out⟩, by show m.length - (i + 1) < m.length; omega⟩
      · have BN : Hid (∀ W, Calls Try.prog 38 #[.agg #[.int .i64 y.by_, .int .i64 y.n], .agg #[.int .i64 x1, .int .i64 x2]] W fun e w' => e = .returned (.bool false) ∧ ∃ q os, w' = grow (W.drewN q) os) := Lib.hid (fun W => by have := BE.out W y; rwa [decide_eq_false hb1] at this)
        by_cases hb2 : Ver.Before ⟨x1, x2⟩ y
        · have BY : Hid (∀ W, Calls Try.prog 38 #[.agg #[.int .i64 x1, .int .i64 x2], .agg #[.int .i64 y.by_, .int .i64 y.n]] W fun e w' => e = .returned (.bool true) ∧ ∃ q os, w' = grow (W.drewN q) os) := Lib.hid (fun W => by have := BF.out W y; rwa [decide_eq_true hb2] at this)
          have hnext := Lib.hid (Iset.half_low hm.out.2.1 Hy.out hb2)
          have hlen : Hid ((m.take i).length = i) := Lib.hid (by rw [List.length_take]; omega)
          have htk := Lib.hid (hm.out.1.take rfl i (by omega) cap (by have := Hcap.out; omega))
          have hic : (i : Int) ≤ (cap : Int) := by have := Hcap.out; omega
          clear hb1 hb2 c0 c1 q0 q1
          go_wp2_with fail
          go_quiet_grown (first | (go_at_call 38; with_reducible refine Calls.grown_of (BN.out _)))
          have HG : Hid (Laid wr (grow (wr.drewN nq) osq)) := Lib.hid ⟨nq, osq, rfl⟩
          generalize grow (wr.drewN nq) osq = W at *
          obtain ⟨c0, c1⟩ := Vrs.at (Rws.below hm.out.1 HG.out.below) Hy.out
          obtain ⟨q0, q1⟩ := XB.out _ (HLD.out.trans HG.out)
          clear C0 C1 Q0 Q1
          have C0 := cells_grown c0
          have C1 := cells_grown c1
          have Q0 := cells_grown q0
          have Q1 := cells_grown q1
          clear c0 c1 q0 q1
          go_wp2_with fail
          go_quiet_grown (first | (go_at_call 38; with_reducible refine Calls.grown_of (BY.out _)))
          have HG2 : Hid (Laid wr (grow (W.drewN nq) osq)) := Lib.hid (HG.out.trans ⟨nq, osq, rfl⟩)
          generalize grow (W.drewN nq) osq = W2 at *
          go_wp2_with fail
          exact ⟨⟨m.take i, _, _, by rw [hlen.out], by rw [hlen.out]; omega, Lib.hid ⟨Rws.below htk.out HG2.out.below, hnext.out.1, hm.out.2.2.trans hnext.out.2⟩, HLD.out.trans HG2.out⟩, by show i < m.length; exact Hd.out⟩
        · have BY : Hid (∀ W, Calls Try.prog 38 #[.agg #[.int .i64 x1, .int .i64 x2], .agg #[.int .i64 y.by_, .int .i64 y.n]] W fun e w' => e = .returned (.bool false) ∧ ∃ q os, w' = grow (W.drewN q) os) := Lib.hid (fun W => by have := BF.out W y; rwa [decide_eq_false hb2] at this)
          have hin : Hid ((⟨x1, x2⟩ : Ver.V) ∈ S) := Lib.hid (hm.out.2.2.2 (Iset.half_here Hy.out hb1 hb2))
          clear hb1 hb2 c0 c1 q0 q1
          go_wp2_with fail
          go_quiet_grown (first | (go_at_call 38; with_reducible refine Calls.grown_of (BN.out _)))
          have HG : Hid (Laid wr (grow (wr.drewN nq) osq)) := Lib.hid ⟨nq, osq, rfl⟩
          generalize grow (wr.drewN nq) osq = W at *
          obtain ⟨c0, c1⟩ := Vrs.at (Rws.below hm.out.1 HG.out.below) Hy.out
          obtain ⟨q0, q1⟩ := XB.out _ (HLD.out.trans HG.out)
          clear C0 C1 Q0 Q1
          have C0 := cells_grown c0
          have C1 := cells_grown c1
          have Q0 := cells_grown q0
          have Q1 := cells_grown q1
          clear c0 c1 q0 q1
          go_wp2_with fail
          go_quiet_grown (first | (go_at_call 38; with_reducible refine Calls.grown_of (BY.out _)))
          have HG2 : Hid (Laid w (grow (W.drewN nq) osq)) := Lib.hid ((HL.out.trans HG.out).trans ⟨nq, osq, rfl⟩)
          generalize grow (W.drewN nq) osq = W2 at *
          go_wp2_with fail
          try go_step3
          go_wp2_with fail
          try rw [Exit.noGoto_ret]
          go_ret
          exact ⟨by rw [decide_eq_true hin.out]; rfl, HG2.out⟩
    · have hm0 : m.length = 0 := by omega
      have hnil : m = [] := List.eq_nil_of_length_eq_zero hm0
      subst hnil
      have hout : Hid (¬ (⟨x1, x2⟩ : Ver.V) ∈ S) := Lib.hid (fun k => by have := hm.out.2.2.1 k; simp at this)
      clear hm hlaid h0 hm0
      go_wp2_with fail
      try rw [Exit.noGoto_ret]
      go_ret
      exact ⟨by rw [decide_eq_false hout.out]; rfl, HL.out⟩

set_option maxRecDepth 100000 in
theorem Finds.calls (Z : VersOk) {w : World} {S : List Ver.V} {B : Nat} (h : Finds w S (.func (.func 37) #[] #[.pointer (some ⟨B, 0, none⟩)])) (x : Ver.V) :
    Calls Try.prog 37 #[verA x, .pointer (some ⟨B, 0, none⟩)] w fun e w' => e = .returned (.bool (decide (x ∈ S))) ∧ Laid w w' := by
  obtain ⟨B', s, F, e, -, hc, hs, hu, hl⟩ := h
  have eb : B = B' := by simpa using e
  subst eb
  exact finder_is Z hc hs hu hl x
end Go.Proofs.Ytnpnjophlajfkaa
