/- The landed vers: counts, Check, CheckStamp, Before, order, Compare. -/
import Derived.Test.YtpmcjanfgamkoaaVerRef
import Derived.Test.YtpmcjanfgamkoaaShelf
set_option linter.unusedSimpArgs false
set_option linter.unusedVariables false
namespace Go.Proofs.Ytpmcjanfgamkoaa
open Go.RowKit Go.Sort

set_option maxRecDepth 100000 in
theorem ver_counts (w : World) (n : Int) (h : n ≤ 9223372036854775807) : Calls Try.prog 21 #[.int .i64 n] w fun e w' => e = .returned (.bool (decide ((1 : Int) ≤ n))) ∧ w = w' := by
  by_cases h1 : (1 : Int) ≤ n
  · have E : Hid (decide ((1 : Int) ≤ n) = true) := Lib.hid (decide_eq_true h1)
    go_enter Try.func21, Try.ntmps21
    go_wp2_with fail
    go_ret
    exact ⟨by rw [E.out]; first | rfl | (simp; omega), rfl⟩
  · have E : Hid (decide ((1 : Int) ≤ n) = false) := Lib.hid (decide_eq_false h1)
    go_enter Try.func21, Try.ntmps21
    go_wp2_with fail
    go_ret
    exact ⟨by rw [E.out]; first | rfl | (simp; omega), rfl⟩

set_option maxRecDepth 100000 in
theorem ver_check (w : World) (v : Ver.V) (hb : Ver.Bd v) : Calls Try.prog 7 #[verA v] w fun e w' => e = .returned (.int .i64 (Ver.checkV v)) ∧ Laid w w' := by
  have L := Lib.hid (laid_one w)
  obtain ⟨x, y⟩ := v
  have CO := Lib.hid (fun W => ver_counts W y (by have := hb.2; unfold Ver.I64 at this; exact this.2))
  have E0 : Hid (Ver.checkV ⟨x, y⟩ = if (1 : Int) ≤ x ∧ x ≤ 64 ∧ (1 : Int) ≤ y then 0 else 2) := Lib.hid rfl
  clear hb
  by_cases h1 : x < 1
  · have E : Hid (Ver.checkV ⟨x, y⟩ = 2) := Lib.hid (by rw [E0.out, if_neg (by omega)])
    go_enter Try.func7, Try.ntmps7
    go_wp2_with fail
    go_ret
    exact ⟨by rw [E.out]; rfl, L.out _⟩
  · by_cases h2 : 64 < x
    · have E : Hid (Ver.checkV ⟨x, y⟩ = 2) := Lib.hid (by rw [E0.out, if_neg (by omega)])
      go_enter Try.func7, Try.ntmps7
      go_wp2_with fail
      go_ret
      exact ⟨by rw [E.out]; rfl, L.out _⟩
    · by_cases h3 : (1 : Int) ≤ y
      · have E : Hid (Ver.checkV ⟨x, y⟩ = 0) := Lib.hid (by rw [E0.out, if_pos (by omega)])
        have CO : Hid (∀ W, Calls Try.prog 21 #[.int .i64 y] W fun e w' => e = .returned (.bool true) ∧ W = w') := Lib.hid (fun W => by have := CO.out W; rwa [decide_eq_true h3] at this)
        go_enter Try.func7, Try.ntmps7
        go_wp2_with (go_at_call 21; refine (CO.out _).mono ?_; rintro e w' ⟨rfl, rfl⟩)
        go_ret
        exact ⟨by rw [E.out]; rfl, L.out _⟩
      · have E : Hid (Ver.checkV ⟨x, y⟩ = 2) := Lib.hid (by rw [E0.out, if_neg (by omega)])
        have CO : Hid (∀ W, Calls Try.prog 21 #[.int .i64 y] W fun e w' => e = .returned (.bool false) ∧ W = w') := Lib.hid (fun W => by have := CO.out W; rwa [decide_eq_false h3] at this)
        go_enter Try.func7, Try.ntmps7
        go_wp2_with (go_at_call 21; refine (CO.out _).mono ?_; rintro e w' ⟨rfl, rfl⟩)
        go_ret
        exact ⟨by rw [E.out]; rfl, L.out _⟩

set_option maxRecDepth 100000 in
theorem ver_stamp (w : World) (s : Ver.S) (hb : Ver.BdS s) : Calls Try.prog 8 #[stpA s] w fun e w' => e = .returned (.int .i64 (Ver.checkS s)) ∧ Laid w w' := by
  have L := Lib.hid (laid_one w)
  obtain ⟨t, x, y⟩ := s
  have CH := Lib.hid (fun W => ver_check W ⟨x, y⟩ hb.1)
  have CO := Lib.hid (fun W => ver_counts W t (by have := hb.2; unfold Ver.I64 at this; exact this.2))
  clear hb
  by_cases h3 : (1 : Int) ≤ t
  · have E : Hid (Ver.checkS ⟨t, x, y⟩ = Ver.checkV ⟨x, y⟩) := Lib.hid (by unfold Ver.checkS Ver.checkV Ver.RightS; simp [h3])
    have CO : Hid (∀ W, Calls Try.prog 21 #[.int .i64 t] W fun e w' => e = .returned (.bool true) ∧ W = w') := Lib.hid (fun W => by have := CO.out W; rwa [decide_eq_true h3] at this)
    generalize Ver.checkV ⟨x, y⟩ = r at *
    go_enter Try.func8, Try.ntmps8
    go_wp2_with (first | (go_at_call 21; refine (CO.out _).mono ?_; rintro e w' ⟨rfl, rfl⟩) | (go_at_call 7; refine (CH.out _).mono ?_; rintro e w1 ⟨rfl, hl⟩; have HL := Lib.hid ((L.out _).trans hl); clear hl))
    go_ret
    exact ⟨by rw [E.out]; rfl, HL.out⟩
  · have E : Hid (Ver.checkS ⟨t, x, y⟩ = 2) := Lib.hid (by unfold Ver.checkS Ver.RightS; simp [h3])
    have CO : Hid (∀ W, Calls Try.prog 21 #[.int .i64 t] W fun e w' => e = .returned (.bool false) ∧ W = w') := Lib.hid (fun W => by have := CO.out W; rwa [decide_eq_false h3] at this)
    go_enter Try.func8, Try.ntmps8
    go_wp2_with (go_at_call 21; refine (CO.out _).mono ?_; rintro e w' ⟨rfl, rfl⟩)
    go_ret
    exact ⟨by rw [E.out]; rfl, L.out _⟩

set_option maxRecDepth 100000 in
theorem ver_before (w : World) (a b : Ver.V) : Calls Try.prog 17 #[verA a, verA b] w fun e w' => e = .returned (.bool (decide (Ver.Before a b))) ∧ Laid w w' := by
  have L := Lib.hid (laid_two w)
  obtain ⟨x, y⟩ := a
  obtain ⟨x', y'⟩ := b
  have E := Lib.hid (before_alt x y x' y')
  by_cases h1 : x < x'
  · go_enter Try.func17, Try.ntmps17
    go_wp2_with fail
    go_ret
    exact ⟨by rw [E.out]; first | (simp [h1]; done) | (simp [h1]; omega), L.out _ _⟩
  · by_cases h2 : x = x'
    · subst h2
      go_enter Try.func17, Try.ntmps17
      go_wp2_with fail
      go_ret
      exact ⟨by rw [E.out]; first | (simp [h1]; done) | (simp [h1]; omega), L.out _ _⟩
    · go_enter Try.func17, Try.ntmps17
      go_wp2_with fail
      go_ret
      exact ⟨by rw [E.out]; first | (simp [h1, h2]; done) | (simp [h1, h2]; omega), L.out _ _⟩

/-- Which of two versions is ahead. -/
def Ver.order (a b : Ver.V) : Int := if a = b then 0 else if Ver.Before a b then -1 else 1

set_option maxRecDepth 100000 in
theorem ver_order (w : World) (a b : Ver.V) : Calls Try.prog 25 #[verA a, verA b] w fun e w' => e = .returned (.int .i64 (Ver.order a b)) ∧ Laid w w' := by
  have L := Lib.hid (laid_two w)
  have BE := Lib.hid (fun W => ver_before W a b)
  by_cases h0 : a = b
  · subst h0
    have E : Hid (Ver.order a a = 0) := Lib.hid (by unfold Ver.order; rw [if_pos rfl])
    obtain ⟨x, y⟩ := a
    go_enter Try.func25, Try.ntmps25
    go_wp2_with fail
    go_ret
    exact ⟨by rw [E.out]; rfl, L.out _ _⟩
  · have hne : a.by_ = b.by_ → ¬ a.n = b.n := fun h k => h0 (Ver.v_ext h k)
    have main : ∀ r : Bool, r = decide (Ver.Before a b) → Ver.order a b = (if r then -1 else 1) → Calls Try.prog 25 #[verA a, verA b] w fun e w' => e = .returned (.int .i64 (Ver.order a b)) ∧ Laid w w' := by
      intro r hr hE
      have BE : Hid (∀ W, Calls Try.prog 17 #[verA a, verA b] W fun e w' => e = .returned (.bool r) ∧ Laid W w') := Lib.hid (fun W => by have := BE.out W; rwa [← hr] at this)
      have E := Lib.hid hE
      obtain ⟨x, y⟩ := a
      obtain ⟨x', y'⟩ := b
      simp only at hne
      clear hE hr h0
      by_cases h1 : x = x'
      · have h2 := hne h1
        subst h1
        clear hne
        cases r
        all_goals
          go_enter Try.func25, Try.ntmps25
          go_wp2_with (go_at_call 17; refine (BE.out _).mono ?_; rintro e w1 ⟨rfl, hl⟩; have HL := Lib.hid ((L.out _ _).trans hl); clear hl)
          go_ret
          exact ⟨by rw [E.out]; rfl, HL.out⟩
      · clear hne
        cases r
        all_goals
          go_enter Try.func25, Try.ntmps25
          go_wp2_with (go_at_call 17; refine (BE.out _).mono ?_; rintro e w1 ⟨rfl, hl⟩; have HL := Lib.hid ((L.out _ _).trans hl); clear hl)
          go_ret
          exact ⟨by rw [E.out]; rfl, HL.out⟩
    by_cases hb : Ver.Before a b
    · exact main true (decide_eq_true hb).symm (by unfold Ver.order; rw [if_neg h0, if_pos hb, if_pos rfl])
    · exact main false (decide_eq_false hb).symm (by unfold Ver.order; rw [if_neg h0, if_neg hb, if_neg (by decide)])

set_option maxRecDepth 100000 in
theorem ver_compare (w : World) (a b : Ver.S) : Calls Try.prog 13 #[stpA a, stpA b] w fun e w' => e = .returned (.int .i64 (Ver.compare a b)) ∧ Laid w w' := by
  have L := Lib.hid (laid_two w)
  have OR := Lib.hid (fun W => ver_order W a.v b.v)
  have CM := Lib.hid (fun W => AnyG.cmp_Compare_int Try.cmpInt a.time b.time W)
  have E : Hid (Ver.compare a b = if a.time = b.time then Ver.order a.v b.v else Lib.compareInt a.time b.time) := Lib.hid (by
    obtain ⟨t, x⟩ := a
    obtain ⟨t', x'⟩ := b
    unfold Ver.compare Ver.order Ver.Older Lib.compareInt
    by_cases h : t = t'
    · subst h
      simp
      by_cases h1 : x = x'
      · subst h1; simp [Ver.before_irrefl]
      · by_cases h2 : Ver.Before x x' <;> simp [h1, h2]
    · by_cases h2 : t < t'
      · simp [h, h2]
      · have : t' < t := by omega
        simp [h, h2, this])
  obtain ⟨t, x, y⟩ := a
  obtain ⟨t', x', y'⟩ := b
  simp only at OR CM E ⊢
  by_cases h : t = t'
  · subst h
    have E : Hid (Ver.compare ⟨t, x, y⟩ ⟨t, x', y'⟩ = Ver.order ⟨x, y⟩ ⟨x', y'⟩) := Lib.hid (by have := E.out; rwa [if_pos rfl] at this)
    generalize Ver.order ⟨x, y⟩ ⟨x', y'⟩ = r at *
    go_enter Try.func13, Try.ntmps13
    go_wp2_with (go_at_call 25; refine (OR.out _).mono ?_; rintro e w1 ⟨rfl, hl⟩; have HL := Lib.hid ((L.out _ _).trans hl); clear hl)
    go_ret
    exact ⟨by rw [E.out]; rfl, HL.out⟩
  · have E : Hid (Ver.compare ⟨t, x, y⟩ ⟨t', x', y'⟩ = Lib.compareInt t t') := Lib.hid (by have := E.out; rwa [if_neg h] at this)
    have CM : Hid (∀ W, Calls Try.prog 24 #[.int .i64 t, .int .i64 t'] W fun e w' => e = .returned (.int .i64 (Lib.compareInt t t')) ∧ w' = W) := Lib.hid (fun W => CM.out W)
    generalize Lib.compareInt t t' = r at *
    go_enter Try.func13, Try.ntmps13
    go_wp2_with (go_at_call 24; refine (CM.out _).mono ?_; rintro e w' ⟨rfl, rfl⟩)
    go_ret
    exact ⟨by rw [E.out]; rfl, L.out _ _⟩
end Go.Proofs.Ytpmcjanfgamkoaa
