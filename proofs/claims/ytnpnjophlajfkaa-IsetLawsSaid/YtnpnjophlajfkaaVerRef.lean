/- The document's own answers of layer 12 for one or two versions: Right, Before, Older; the greater of two numbers. -/
import Derived.Test.YtnpnjophlajfkaaVerOk
import Derived.Test.YtnpnjophlajfkaaRegion
import Derived.Deep.QuietTactic
set_option linter.unusedSimpArgs false
set_option linter.unusedVariables false
namespace Go.Proofs.Ytnpnjophlajfkaa
open Go.RowKit Go.Sort

set_option maxRecDepth 100000 in
theorem ver_drews (w : World) (n : Nat) : Below w.heap.size w (w.drewN n) := ⟨rfl, rfl, rfl, Nat.le_refl _, fun _ _ => rfl⟩
set_option maxRecDepth 100000 in
theorem laid_one (w : World) (o : Obj) : Laid w (w.alloc o) := Laid.new w o
set_option maxRecDepth 100000 in
theorem laid_two (w : World) (o p : Obj) : Laid w ((w.alloc o).alloc p) := (Laid.new w o).trans (Laid.new _ p)

set_option maxRecDepth 100000 in
theorem before_alt (x y x' y' : Int) : decide (Ver.Before ⟨x, y⟩ ⟨x', y'⟩) = (decide (x < x') || (decide (x = x') && decide (y < y'))) := by rw [Bool.eq_iff_iff, decide_eq_true_iff]; simp [Ver.Before]

set_option maxRecDepth 100000 in
theorem ref_vbefore (w : World) (a b : Ver.V) : Calls Try.prog 25 #[verA a, verA b] w fun e w' => e = .returned (.bool (decide (Ver.Before a b))) ∧ Laid w w' := by
  have L := Lib.hid (laid_two w)
  obtain ⟨x, y⟩ := a
  obtain ⟨x', y'⟩ := b
  have E := Lib.hid (before_alt x y x' y')
  by_cases h1 : x < x'
  · go_enter Try.func25, Try.ntmps25
    go_wp2_with fail
    go_ret
    exact ⟨by rw [E.out]; first | (simp [h1]; done) | (simp [h1]; omega), L.out _ _⟩
  · by_cases h2 : x = x'
    · subst h2
      go_enter Try.func25, Try.ntmps25
      go_wp2_with fail
      go_ret
      exact ⟨by rw [E.out]; first | (simp [h1]; done) | (simp [h1]; omega), L.out _ _⟩
    · go_enter Try.func25, Try.ntmps25
      go_wp2_with fail
      go_ret
      exact ⟨by rw [E.out]; first | (simp [h1, h2]; done) | (simp [h1, h2]; omega), L.out _ _⟩

end Go.Proofs.Ytnpnjophlajfkaa
