/- The landed vers: CheckStamp, Before, order, Compare. -/
import Derived.Test.YtnpnjophlajfkaaVerCck
import Derived.Test.YtnpnjophlajfkaaShelf
set_option linter.unusedSimpArgs false
set_option linter.unusedVariables false
namespace Go.Proofs.Ytnpnjophlajfkaa
open Go.RowKit Go.Sort

set_option maxRecDepth 100000 in
theorem ver_before (w : World) (a b : Ver.V) : Calls Try.prog 38 #[verA a, verA b] w fun e w' => e = .returned (.bool (decide (Ver.Before a b))) ∧ Laid w w' := by
  have L := Lib.hid (laid_two w)
  obtain ⟨x, y⟩ := a
  obtain ⟨x', y'⟩ := b
  have E := Lib.hid (before_alt x y x' y')
  by_cases h1 : x < x'
  · go_enter Try.func38, Try.ntmps38
    go_wp2_with fail
    go_ret
    exact ⟨by rw [E.out]; first | (simp [h1]; done) | (simp [h1]; omega), L.out _ _⟩
  · by_cases h2 : x = x'
    · subst h2
      go_enter Try.func38, Try.ntmps38
      go_wp2_with fail
      go_ret
      exact ⟨by rw [E.out]; first | (simp [h1]; done) | (simp [h1]; omega), L.out _ _⟩
    · go_enter Try.func38, Try.ntmps38
      go_wp2_with fail
      go_ret
      exact ⟨by rw [E.out]; first | (simp [h1, h2]; done) | (simp [h1, h2]; omega), L.out _ _⟩

/-- Which of two versions is ahead. -/
def Ver.order (a b : Ver.V) : Int := if a = b then 0 else if Ver.Before a b then -1 else 1

set_option maxRecDepth 100000 in
theorem ver_order (w : World) (a b : Ver.V) : Calls Try.prog 33 #[verA a, verA b] w fun e w' => e = .returned (.int .i64 (Ver.order a b)) ∧ Laid w w' := by
  have L := Lib.hid (laid_two w)
  have BE := Lib.hid (fun W => ver_before W a b)
  by_cases h0 : a = b
  · subst h0
    have E : Hid (Ver.order a a = 0) := Lib.hid (by unfold Ver.order; rw [if_pos rfl])
    obtain ⟨x, y⟩ := a
    go_enter Try.func33, Try.ntmps33
    go_wp2_with fail
    go_ret
    exact ⟨by rw [E.out]; rfl, L.out _ _⟩
  · have hne : a.by_ = b.by_ → ¬ a.n = b.n := fun h k => h0 (Ver.v_ext h k)
    have main : ∀ r : Bool, r = decide (Ver.Before a b) → Ver.order a b = (if r then -1 else 1) → Calls Try.prog 33 #[verA a, verA b] w fun e w' => e = .returned (.int .i64 (Ver.order a b)) ∧ Laid w w' := by
      intro r hr hE
      have BE : Hid (∀ W, Calls Try.prog 38 #[verA a, verA b] W fun e w' => e = .returned (.bool r) ∧ Laid W w') := Lib.hid (fun W => by have := BE.out W; rwa [← hr] at this)
      have E := Lib.hid hE
      obtain ⟨x, y⟩ := a
      obtain ⟨x', y'⟩ := b
      simp only at hne
      clear hE hr h0
      by_cases h1 : x = x'
      · have h2 := hne h1
        subst h1
        clear hne
        cases r
        all_goals
          go_enter Try.func33, Try.ntmps33
          go_wp2_with (go_at_call 38; refine (BE.out _).mono ?_; rintro e w1 ⟨rfl, hl⟩; have HL := Lib.hid ((L.out _ _).trans hl); clear hl)
          go_ret
          exact ⟨by rw [E.out]; rfl, HL.out⟩
      · clear hne
        cases r
        all_goals
          go_enter Try.func33, Try.ntmps33
          go_wp2_with (go_at_call 38; refine (BE.out _).mono ?_; rintro e w1 ⟨rfl, hl⟩; have HL := Lib.hid ((L.out _ _).trans hl); clear hl)
          go_ret
          exact ⟨by rw [E.out]; rfl, HL.out⟩
    by_cases hb : Ver.Before a b
    · exact main true (decide_eq_true hb).symm (by unfold Ver.order; rw [if_neg h0, if_pos hb, if_pos rfl])
    · exact main false (decide_eq_false hb).symm (by unfold Ver.order; rw [if_neg h0, if_neg hb, if_neg (by decide)])

end Go.Proofs.Ytnpnjophlajfkaa
