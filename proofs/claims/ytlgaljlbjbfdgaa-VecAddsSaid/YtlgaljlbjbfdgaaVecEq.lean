/- '==' of two vectors. -/
import Derived.Test.YtlgaljlbjbfdgaaVecOk
import Derived.Laws.StructEq
set_option linter.unusedSimpArgs false
set_option linter.unusedVariables false
namespace Go.Proofs.Ytlgaljlbjbfdgaa
open Go.RowKit

set_option maxRecDepth 100000 in
theorem vec_part {x : List Int} (hx : x.length = 65) {i : Nat} (hi : i < 65) (w : World) : (part 3 (vecR x) (i * 1)).run Try.prog w = .ok (.int .i64 ((x[i]?).getD 0)) w := by
  have ha := Try.isAgg3
  have hg : (vecR x)[i]? = some (.int .i64 ((x[i]?).getD 0)) := vecR_get (by rw [List.getElem?_eq_getElem (by omega)]; rfl)
  simp [part, ha, hg]

set_option maxRecDepth 100000 in
/-- '==' of two vectors: number by number. -/
theorem vec_equalIn (m : Nat) (w : World) {x y : List Int} (hx : x.length = 65) (hy : y.length = 65) (hE : ∀ (w : World) (a b : Int), (Op.equalIn m 3 (.int .i64 a) (.int .i64 b)).run Try.prog w = .ok (a == b) w) : (Op.equalIn (m + 1) 23 (vecA x) (vecA y)).run Try.prog w = .ok (decide (x = y)) w := by
  have hu := Try.underlying23
  have hs := Try.sizeOf3
  have key : ∀ (n j : Nat), j + n = 65 → (∀ i, i < j → x[i]? = y[i]?) → ∀ w : World, ((forIn (List.range' j n) ((none : Option Bool), ()) (fun i (_ : Option Bool × Unit) => do
      let a ← part 3 (vecR x) (i * 1)
      let b ← part 3 (vecR y) (i * 1)
      let r ← Op.equalIn m 3 a b
      if (!r) = true then pure (ForInStep.done (some false, ())) else pure (ForInStep.yield (none, ())))).run Try.prog w) = .ok (if x = y then (none, ()) else (some false, ())) w := by
    intro n
    induction n with
    | zero =>
      intro j hj hp w
      have e : x = y := by
        apply List.ext_getElem?
        intro i
        by_cases hi : i < j
        · exact hp i hi
        · rw [List.getElem?_eq_none (by omega), List.getElem?_eq_none (by omega)]
      rw [if_pos e]
      simp
    | succ n ih =>
      intro j hj hp w
      rw [List.range'_succ, List.forIn_cons]
      simp only [Sem.run_bind, vec_part hx (show j < 65 by omega), vec_part hy (show j < 65 by omega), Result.andThen_ok, hE]
      by_cases h : (x[j]?).getD 0 = (y[j]?).getD 0
      · have h2 : ((x[j]?).getD 0 == (y[j]?).getD 0) = true := by simpa using h
        simp only [h2, Bool.not_true, Bool.false_eq_true, if_false, Sem.run_pure, Result.andThen_ok]
        refine ih (j + 1) (by omega) (fun i hi => ?_) w
        by_cases hij : i = j
        · subst hij
          rw [List.getElem?_eq_getElem (by omega), List.getElem?_eq_getElem (by omega)] at h ⊢
          simpa using h
        · exact hp i (by omega)
      · have h2 : ((x[j]?).getD 0 == (y[j]?).getD 0) = false := by simpa using h
        have hne : ¬ x = y := fun e => h (by rw [e])
        simp only [h2, Bool.not_false, if_true, Sem.run_pure, Result.andThen_ok, if_neg hne]
  simp only [Op.equalIn, Sem.run_bind, run_underlying hu, Result.andThen_ok, hs]
  simp only [Std.Legacy.Range.forIn_eq_forIn_range', Std.Legacy.Range.size, Nat.sub_zero, Nat.add_one_sub_one, Nat.div_one]
  rw [key 65 0 rfl (fun i hi => absurd hi (Nat.not_lt_zero i))]
  by_cases h : x = y
  · rw [if_pos h, decide_eq_true h]; rfl
  · rw [if_neg h, decide_eq_false h]; rfl

set_option maxRecDepth 100000 in
/-- As a walk meets it. -/
theorem vec_eq {x y : List Int} (hx : x.length = 65) (hy : y.length = 65) (w : World) : (Op.equalIn 10000 23 (vecA x) (vecA y)).run Try.prog w = .ok (decide (x = y)) w := by
  have u3 := Try.underlying3
  exact vec_equalIn 9999 w hx hy (fun w a b => run_equalIn_int w 9998 3 _ _ a b u3)
end Go.Proofs.Ytlgaljlbjbfdgaa
