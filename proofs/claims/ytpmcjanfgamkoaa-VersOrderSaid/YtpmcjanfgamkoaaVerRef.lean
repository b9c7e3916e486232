/- The document's own answers of layer 12 for one or two versions: Right, Before, Older; the greater of two numbers. -/
import Derived.Test.YtpmcjanfgamkoaaVerOk
import Derived.Test.YtpmcjanfgamkoaaRegion
import Derived.Deep.QuietTactic
set_option linter.unusedSimpArgs false
set_option linter.unusedVariables false
namespace Go.Proofs.Ytpmcjanfgamkoaa
open Go.RowKit Go.Sort

set_option maxRecDepth 100000 in
theorem ver_drews (w : World) (n : Nat) : Below w.heap.size w (w.drewN n) := ⟨rfl, rfl, rfl, Nat.le_refl _, fun _ _ => rfl⟩
set_option maxRecDepth 100000 in
theorem laid_one (w : World) (o : Obj) : Laid w (w.alloc o) := Laid.new w o
set_option maxRecDepth 100000 in
theorem laid_two (w : World) (o p : Obj) : Laid w ((w.alloc o).alloc p) := (Laid.new w o).trans (Laid.new _ p)

set_option maxRecDepth 100000 in
theorem ver_high (a b : Int) (w : World) : Calls Try.prog 19 #[.int .i64 a, .int .i64 b] w fun e w' => e = .returned (.int .i64 (max a b)) ∧ w = w' := by
  by_cases h : b < a
  · have e : Hid (max a b = a) := Lib.hid (by omega)
    go_enter Try.func19, Try.ntmps19
    go_wp2_with fail
    go_ret
    exact ⟨by rw [e.out]; rfl, rfl⟩
  · have e : Hid (max a b = b) := Lib.hid (by omega)
    go_enter Try.func19, Try.ntmps19
    go_wp2_with fail
    go_ret
    exact ⟨by rw [e.out]; rfl, rfl⟩

set_option maxRecDepth 100000 in
theorem ref_vright (w : World) (v : Ver.V) : Calls Try.prog 9 #[verA v] w fun e w' => e = .returned (.bool (decide (Ver.Right v))) ∧ Laid w w' := by
  have L := Lib.hid (laid_one w)
  have e : decide (Ver.Right v) = (decide ((1 : Int) ≤ v.by_) && (decide (v.by_ ≤ 64) && decide ((1 : Int) ≤ v.n))) := by rw [Bool.eq_iff_iff, decide_eq_true_iff]; simp [Ver.Right]
  have E := Lib.hid e
  clear e
  obtain ⟨x, y⟩ := v
  simp only at E ⊢
  by_cases h1 : (1 : Int) ≤ x
  · by_cases h2 : x ≤ 64
    · go_enter Try.func9, Try.ntmps9
      go_wp2_with fail
      go_ret
      exact ⟨by rw [E.out]; first | (simp [h1, h2]; done) | (simp [h1, h2]; omega), L.out _⟩
    · go_enter Try.func9, Try.ntmps9
      go_wp2_with fail
      go_ret
      exact ⟨by rw [E.out]; first | (simp [h1, h2]; done) | (simp [h1, h2]; omega), L.out _⟩
  · go_enter Try.func9, Try.ntmps9
    go_wp2_with fail
    go_ret
    exact ⟨by rw [E.out]; first | (simp [h1]; done) | (simp [h1]; omega), L.out _⟩

set_option maxRecDepth 100000 in
theorem before_alt (x y x' y' : Int) : decide (Ver.Before ⟨x, y⟩ ⟨x', y'⟩) = (decide (x < x') || (decide (x = x') && decide (y < y'))) := by rw [Bool.eq_iff_iff, decide_eq_true_iff]; simp [Ver.Before]

set_option maxRecDepth 100000 in
theorem ref_vbefore (w : World) (a b : Ver.V) : Calls Try.prog 18 #[verA a, verA b] w fun e w' => e = .returned (.bool (decide (Ver.Before a b))) ∧ Laid w w' := by
  have L := Lib.hid (laid_two w)
  obtain ⟨x, y⟩ := a
  obtain ⟨x', y'⟩ := b
  have E := Lib.hid (before_alt x y x' y')
  by_cases h1 : x < x'
  · go_enter Try.func18, Try.ntmps18
    go_wp2_with fail
    go_ret
    exact ⟨by rw [E.out]; first | (simp [h1]; done) | (simp [h1]; omega), L.out _ _⟩
  · by_cases h2 : x = x'
    · subst h2
      go_enter Try.func18, Try.ntmps18
      go_wp2_with fail
      go_ret
      exact ⟨by rw [E.out]; first | (simp [h1]; done) | (simp [h1]; omega), L.out _ _⟩
    · go_enter Try.func18, Try.ntmps18
      go_wp2_with fail
      go_ret
      exact ⟨by rw [E.out]; first | (simp [h1, h2]; done) | (simp [h1, h2]; omega), L.out _ _⟩

set_option maxRecDepth 100000 in
theorem ref_older (w : World) (a b : Ver.S) : Calls Try.prog 12 #[stpA a, stpA b] w fun e w' => e = .returned (.bool (decide (Ver.Older a b))) ∧ Laid w w' := by
  have L := Lib.hid (laid_two w)
  have R := Lib.hid (fun W => ref_vbefore W a.v b.v)
  obtain ⟨t, x, y⟩ := a
  obtain ⟨t', x', y'⟩ := b
  have E : Hid (decide (Ver.Older ⟨t, x, y⟩ ⟨t', x', y'⟩) = if t = t' then decide (Ver.Before ⟨x, y⟩ ⟨x', y'⟩) else decide (t < t')) := Lib.hid (by
    rw [Bool.eq_iff_iff, decide_eq_true_iff]
    unfold Ver.Older
    by_cases h : t = t'
    · simp [h]
    · simp [h])
  simp only at E R ⊢
  by_cases h : t = t'
  · subst h
    have E : Hid (decide (Ver.Older ⟨t, x, y⟩ ⟨t, x', y'⟩) = decide (Ver.Before ⟨x, y⟩ ⟨x', y'⟩)) := Lib.hid (by have := E.out; rwa [if_pos rfl] at this)
    generalize decide (Ver.Before ⟨x, y⟩ ⟨x', y'⟩) = r at *
    go_enter Try.func12, Try.ntmps12
    go_wp2_with fail
    refine (R.out _).mono ?_
    rintro e w1 ⟨rfl, hl⟩
    have HL := Lib.hid ((L.out _ _).trans hl)
    clear hl
    go_wp2_with fail
    go_ret
    exact ⟨by rw [E.out]; rfl, HL.out⟩
  · have E : Hid (decide (Ver.Older ⟨t, x, y⟩ ⟨t', x', y'⟩) = decide (t < t')) := Lib.hid (by have := E.out; rwa [if_neg h] at this)
    go_enter Try.func12, Try.ntmps12
    go_wp2_with fail
    go_ret
    exact ⟨by rw [E.out]; rfl, L.out _ _⟩
end Go.Proofs.Ytpmcjanfgamkoaa
