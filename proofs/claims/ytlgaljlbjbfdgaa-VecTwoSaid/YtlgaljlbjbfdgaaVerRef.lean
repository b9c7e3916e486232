/- The document's own answers of layer 12 for one or two versions: Right, Before, Older; the greater of two numbers. -/
import Derived.Test.YtlgaljlbjbfdgaaVerOk
import Derived.Test.YtlgaljlbjbfdgaaRegion
import Derived.Deep.QuietTactic
set_option linter.unusedSimpArgs false
set_option linter.unusedVariables false
namespace Go.Proofs.Ytlgaljlbjbfdgaa
open Go.RowKit Go.Sort

set_option maxRecDepth 100000 in
theorem ver_drews (w : World) (n : Nat) : Below w.heap.size w (w.drewN n) := ⟨rfl, rfl, rfl, Nat.le_refl _, fun _ _ => rfl⟩
set_option maxRecDepth 100000 in
theorem laid_one (w : World) (o : Obj) : Laid w (w.alloc o) := Laid.new w o
set_option maxRecDepth 100000 in
theorem laid_two (w : World) (o p : Obj) : Laid w ((w.alloc o).alloc p) := (Laid.new w o).trans (Laid.new _ p)

set_option maxRecDepth 100000 in
theorem ref_vright (w : World) (v : Ver.V) : Calls Try.prog 19 #[verA v] w fun e w' => e = .returned (.bool (decide (Ver.Right v))) ∧ Laid w w' := by
  have L := Lib.hid (laid_one w)
  have e : decide (Ver.Right v) = (decide ((1 : Int) ≤ v.by_) && (decide (v.by_ ≤ 64) && decide ((1 : Int) ≤ v.n))) := by rw [Bool.eq_iff_iff, decide_eq_true_iff]; simp [Ver.Right]
  have E := Lib.hid e
  clear e
  obtain ⟨x, y⟩ := v
  simp only at E ⊢
  by_cases h1 : (1 : Int) ≤ x
  · by_cases h2 : x ≤ 64
    · go_enter Try.func19, Try.ntmps19
      go_wp2_with fail
      go_ret
      exact ⟨by rw [E.out]; first | (simp [h1, h2]; done) | (simp [h1, h2]; omega), L.out _⟩
    · go_enter Try.func19, Try.ntmps19
      go_wp2_with fail
      go_ret
      exact ⟨by rw [E.out]; first | (simp [h1, h2]; done) | (simp [h1, h2]; omega), L.out _⟩
  · go_enter Try.func19, Try.ntmps19
    go_wp2_with fail
    go_ret
    exact ⟨by rw [E.out]; first | (simp [h1]; done) | (simp [h1]; omega), L.out _⟩

set_option maxRecDepth 100000 in
theorem before_alt (x y x' y' : Int) : decide (Ver.Before ⟨x, y⟩ ⟨x', y'⟩) = (decide (x < x') || (decide (x = x') && decide (y < y'))) := by rw [Bool.eq_iff_iff, decide_eq_true_iff]; simp [Ver.Before]

end Go.Proofs.Ytlgaljlbjbfdgaa
