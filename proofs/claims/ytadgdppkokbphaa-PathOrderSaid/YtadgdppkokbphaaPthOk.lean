/- What the package path is to answer (PathOk); the document's own Covers. -/
import Derived.Test.YtadgdppkokbphaaPthMath
import Derived.Test.YtadgdppkokbphaaTexts
import Derived.Test.YtadgdppkokbphaaFrame
namespace Go.Proofs.Ytadgdppkokbphaa
open Go.RowKit

/-- What the package is to answer. -/
structure PathOk : Prop where
  check : ∀ (s : List UInt8) (w : World), s.length ≤ 100000 → Calls Try.prog 8 #[.string (mk s)] w fun e w' => e = .returned (.int .i64 (if Pth.Right s then 0 else 13)) ∧ Below w.heap.size w w'
  names : ∀ (s : List UInt8) (w : World), s.length ≤ 100000 → Calls Try.prog 9 #[.string (mk s)] w fun e w' => ∃ v, e = .returned (.tuple #[v, .int .i64 (if Pth.Right s then 0 else 13)]) ∧ Cells w' (NewIn w w') v (texts (if Pth.Right s then Pth.split s else [])) ∧ Below w.heap.size w w'
  join : ∀ {w : World} {F : Nat → Prop} {v : Value} {l : List (List UInt8)}, Cells w F v (texts l) → l.length ≤ 100000 → (∀ t ∈ l, t.length ≤ 100000) →
    Calls Try.prog 11 #[v] w fun e w' => e = .returned (.tuple (if Pth.Joins l then #[.string (mk (Pth.join l)), .int .i64 0] else #[.string (mk []), .int .i64 13])) ∧ Below w.heap.size w w'
  covers : ∀ (a b : List UInt8) (w : World), a.length ≤ 100000 → b.length ≤ 100000 → Calls Try.prog 17 #[.string (mk a), .string (mk b)] w fun e w' => e = .returned (.bool (decide (Pth.Covers a b))) ∧ Below w.heap.size w w'
  meet : ∀ (a b : List UInt8) (w : World), a.length ≤ 100000 → b.length ≤ 100000 → Calls Try.prog 15 #[.string (mk a), .string (mk b)] w fun e w' => e = .returned (.tuple #[.string (mk (Pth.meet a b).1), .bool (Pth.meet a b).2]) ∧ Below w.heap.size w w'
  parent : ∀ (a : List UInt8) (w : World), a.length ≤ 100000 → Calls Try.prog 18 #[.string (mk a)] w fun e w' => e = .returned (.string (mk (Pth.parent a))) ∧ Below w.heap.size w w'

set_option maxRecDepth 100000 in
set_option maxHeartbeats 1600000 in
theorem ref_covers (a b : List UInt8) (w : World) (ha : a.length ≤ 100000) (hb : b.length ≤ 100000) : Calls Try.prog 16 #[.string (mk a), .string (mk b)] w fun e w' => e = .returned (.bool (decide (Pth.Covers a b))) ∧ Below w.heap.size w w' := by
  have la : (mk a).size = a.length := mk_len a
  have lb : (mk b).size = b.length := mk_len b
  have ia : (mk a).toList.isEmpty = decide (a = []) := by rw [Lib.toList_data, mk_data]; cases a <;> rfl
  have ea : ((mk a).toList == []) = decide (a = []) := by rw [Lib.toList_data, mk_data]; cases a <;> rfl
  have eb : ((mk a).toList == (mk b).toList) = decide (a = b) := by
    rw [Lib.toList_data, Lib.toList_data, mk_data, mk_data]
    by_cases h : a = b
    · rw [h, decide_eq_true rfl]; exact beq_self_eq_true _
    · rw [decide_eq_false h, beq_eq_false_iff_ne]; exact h
  by_cases h1 : a = []
  · have hc : Hid (decide (Pth.Covers a b) = true) := Lib.hid (decide_eq_true (Or.inl h1))
    rw [decide_eq_true h1] at ia ea
    clear h1 eb
    generalize mk a = x at *
    generalize mk b = y at *
    go_enter Try.func16, Try.ntmps16
    go_wp2_with fail
    go_ret
    exact ⟨by rw [hc.out]; rfl, Below.refl _ _⟩
  · rw [decide_eq_false h1] at ia ea
    by_cases h2 : a = b
    · have hc : Hid (decide (Pth.Covers a b) = true) := Lib.hid (decide_eq_true (Or.inr (Or.inl h2)))
      rw [decide_eq_true h2] at eb
      clear h1 h2
      generalize mk a = x at *
      generalize mk b = y at *
      go_enter Try.func16, Try.ntmps16
      go_wp2_with fail
      go_ret
      exact ⟨by rw [hc.out]; rfl, Below.refl _ _⟩
    · rw [decide_eq_false h2] at eb
      have hc : ∀ P : Prop, (Pth.Covers a b ↔ P) ↔ ((a.length < b.length ∧ b.take a.length = a ∧ b[a.length]? = some 47) ↔ P) := fun P => by
        unfold Pth.Covers
        constructor
        · intro h; rw [← h]; exact ⟨fun k => Or.inr (Or.inr k), fun k => (k.resolve_left h1).resolve_left h2⟩
        · intro h; rw [← h]; exact ⟨fun k => (k.resolve_left h1).resolve_left h2, fun k => Or.inr (Or.inr k)⟩
      by_cases h3 : a.length < b.length
      · have g3 : decide ((mk a).size < (mk b).size) = true := by rw [la, lb]; exact decide_eq_true h3
        have g3i : ((mk a).size : Int) < ((mk b).size : Int) := by rw [la, lb]; omega
        have g3j : ((mk a).size : Int) ≤ ((mk b).size : Int) := by omega
        have e4 : (((mk b).extract 0 (mk a).size).toList == (mk a).toList) = decide (b.take a.length = a) := by
          rw [Lib.toList_data, Lib.toList_data, Lib.extract_data, mk_data, mk_data, la, List.drop_zero, Nat.sub_zero]
          by_cases h : b.take a.length = a
          · rw [h, decide_eq_true rfl]; exact beq_self_eq_true _
          · rw [decide_eq_false h, beq_eq_false_iff_ne]; exact h
        by_cases h4 : b.take a.length = a
        · rw [decide_eq_true h4] at e4
          obtain ⟨c, hcc, ic⟩ := idx (mk b) (mk a).size (by rw [la, lb]; exact h3)
          rw [mk_data, la] at hcc
          have hx : Hid (decide (Pth.Covers a b) = decide (c.toNat = 47)) := Lib.hid (by
            rw [decide_eq_decide]
            refine (hc _).2 ⟨fun k => ?_, fun k => ⟨h3, h4, ?_⟩⟩
            · have := k.2.2
              rw [hcc] at this
              injection this with this
              rw [this]; rfl
            · rw [hcc]
              congr 1
              apply UInt8.toNat_inj.1
              exact k)
          have hc7 : (((c.toNat : Int)) == 47) = decide (c.toNat = 47) := by
            by_cases h : c.toNat = 47
            · rw [h]; rfl
            · rw [decide_eq_false h, beq_eq_false_iff_ne]; omega
          clear h1 h2 h3 h4 hc hcc la lb
          generalize mk a = x at *
          generalize mk b = y at *
          cases hd : decide (c.toNat = 47)
          all_goals
            rw [hd] at hx hc7
            generalize c.toNat = cn at *
            go_enter Try.func16, Try.ntmps16
            go_wp2_with fail
            go_ret
            exact ⟨by rw [hx.out]; rfl, Below.refl _ _⟩
        · rw [decide_eq_false h4] at e4
          have hx : Hid (decide (Pth.Covers a b) = false) := Lib.hid (decide_eq_false (fun k => h4 (((hc (Pth.Covers a b)).1 Iff.rfl).2 k).2.1))
          clear h1 h2 h3 h4 hc la lb
          generalize mk a = x at *
          generalize mk b = y at *
          go_enter Try.func16, Try.ntmps16
          go_wp2_with fail
          go_ret
          exact ⟨by rw [hx.out]; rfl, Below.refl _ _⟩
      · have g3 : decide ((mk a).size < (mk b).size) = false := by rw [la, lb]; exact decide_eq_false h3
        have hx : Hid (decide (Pth.Covers a b) = false) := Lib.hid (decide_eq_false (fun k => h3 (((hc (Pth.Covers a b)).1 Iff.rfl).2 k).1))
        clear h1 h2 h3 hc la lb
        generalize mk a = x at *
        generalize mk b = y at *
        go_enter Try.func16, Try.ntmps16
        go_wp2_with fail
        go_ret
        exact ⟨by rw [hx.out]; rfl, Below.refl _ _⟩
end Go.Proofs.Ytadgdppkokbphaa
