/- The landed vers: counts, Check (split off VerSml: these want nothing of the library). -/
import Derived.Test.YtlgaljlbjbfdgaaVerRef
set_option linter.unusedSimpArgs false
set_option linter.unusedVariables false
namespace Go.Proofs.Ytlgaljlbjbfdgaa
open Go.RowKit Go.Sort

set_option maxRecDepth 100000 in
theorem ver_counts (w : World) (n : Int) (h : n ≤ 9223372036854775807) : Calls Try.prog 31 #[.int .i64 n] w fun e w' => e = .returned (.bool (decide ((1 : Int) ≤ n))) ∧ w = w' := by
  by_cases h1 : (1 : Int) ≤ n
  · have E : Hid (decide ((1 : Int) ≤ n) = true) := Lib.hid (decide_eq_true h1)
    go_enter Try.func31, Try.ntmps31
    go_wp2_with fail
    go_ret
    exact ⟨by rw [E.out]; first | rfl | (simp; omega), rfl⟩
  · have E : Hid (decide ((1 : Int) ≤ n) = false) := Lib.hid (decide_eq_false h1)
    go_enter Try.func31, Try.ntmps31
    go_wp2_with fail
    go_ret
    exact ⟨by rw [E.out]; first | rfl | (simp; omega), rfl⟩

set_option maxRecDepth 100000 in
theorem ver_check (w : World) (v : Ver.V) (hb : Ver.Bd v) : Calls Try.prog 25 #[verA v] w fun e w' => e = .returned (.int .i64 (Ver.checkV v)) ∧ Laid w w' := by
  have L := Lib.hid (laid_one w)
  obtain ⟨x, y⟩ := v
  have CO := Lib.hid (fun W => ver_counts W y (by have := hb.2; unfold Ver.I64 at this; exact this.2))
  have E0 : Hid (Ver.checkV ⟨x, y⟩ = if (1 : Int) ≤ x ∧ x ≤ 64 ∧ (1 : Int) ≤ y then 0 else 2) := Lib.hid rfl
  clear hb
  by_cases h1 : x < 1
  · have E : Hid (Ver.checkV ⟨x, y⟩ = 2) := Lib.hid (by rw [E0.out, if_neg (by omega)])
    go_enter Try.func25, Try.ntmps25
    go_wp2_with fail
    go_ret
    exact ⟨by rw [E.out]; rfl, L.out _⟩
  · by_cases h2 : 64 < x
    · have E : Hid (Ver.checkV ⟨x, y⟩ = 2) := Lib.hid (by rw [E0.out, if_neg (by omega)])
      go_enter Try.func25, Try.ntmps25
      go_wp2_with fail
      go_ret
      exact ⟨by rw [E.out]; rfl, L.out _⟩
    · by_cases h3 : (1 : Int) ≤ y
      · have E : Hid (Ver.checkV ⟨x, y⟩ = 0) := Lib.hid (by rw [E0.out, if_pos (by omega)])
        have CO : Hid (∀ W, Calls Try.prog 31 #[.int .i64 y] W fun e w' => e = .returned (.bool true) ∧ W = w') := Lib.hid (fun W => by have := CO.out W; rwa [decide_eq_true h3] at this)
        go_enter Try.func25, Try.ntmps25
        go_wp2_with (go_at_call 31; refine (CO.out _).mono ?_; rintro e w' ⟨rfl, rfl⟩)
        go_ret
        exact ⟨by rw [E.out]; rfl, L.out _⟩
      · have E : Hid (Ver.checkV ⟨x, y⟩ = 2) := Lib.hid (by rw [E0.out, if_neg (by omega)])
        have CO : Hid (∀ W, Calls Try.prog 31 #[.int .i64 y] W fun e w' => e = .returned (.bool false) ∧ W = w') := Lib.hid (fun W => by have := CO.out W; rwa [decide_eq_false h3] at this)
        go_enter Try.func25, Try.ntmps25
        go_wp2_with (go_at_call 31; refine (CO.out _).mono ?_; rintro e w' ⟨rfl, rfl⟩)
        go_ret
        exact ⟨by rw [E.out]; rfl, L.out _⟩
end Go.Proofs.Ytlgaljlbjbfdgaa
