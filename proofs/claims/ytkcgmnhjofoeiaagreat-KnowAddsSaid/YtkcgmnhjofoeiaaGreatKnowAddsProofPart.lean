/- What is contained behind a version is added, and a whole claim: KnowAdds's statement holds. -/
import Derived.Test.YtkcgmnhjofoeiaaGreatCom31
import Derived.Test.YtkcgmnhjofoeiaaGreatCom41
import Derived.Test.YtkcgmnhjofoeiaaGreatCom21
set_option maxRecDepth 100000
set_option linter.all false
namespace Go.Proofs.YtkcgmnhjofoeiaaGreat
open Go.RowKit
open Go.ChangeShapes Go.WideShapes Go.ChangeAt
open Go.ChangeMaps (open_string shut_string)
theorem knowAdds_lifted (os : Os) (started : os.Started) (H : Type) (enc : TypeId × Value → H) :
  ReturnsInHanded {} Tryz.checked os 3 .any (Rows.knowAddsSpec.pre6 enc Tryz.prog Tryz.f3 Rows.knowAddsRow.domain false) (Rows.knowAddsSpec.post enc Tryz.prog Tryz.f3 false true false false) := by
 refine returnsInHanded_of_change_sized (C := Tryz.checked) own started (by kernel_rfl) Tryz.func3
  (ChangeSpec.witness6 (enc := enc) (C := Tryz.checked) false ⟨#[], #[.agg (#[.slice none 0 0, .slice none 0 0, .slice none 0 0] ++ Array.replicate 65 (.int .i64 0) ++ #[.slice none 0 0, .int .i64 0, .int .i64 0, .int .i64 0, .int .i64 0, .slice none 0 0, .int .i64 0, .int .i64 0, .int .i64 0, .int .i64 0, .slice none 0 0])], []⟩ 8 (by kernel_rfl) (by kernel_rfl) (by kernel_rfl) (by kernel_rfl)) ?_
 intro W base args ds gs before hval0 hW _ hsz _
 have hval : ∀ (j : Nat) t v, Tryz.f3.params[j]? = some t → args[j]? = some v → Value.okWide Tryz.prog W .any base t v := hval0
 have hW0 := hW
 obtain ⟨p, q, hA0, hV, _, _, _⟩ := hW
 have hA : DataW.TrodAll enc Tryz.prog W 0 (fun _ => true) true Tryz.f3.params.toList args.toList ds p := hA0
 rw [Tryz.params3] at hA hval hsz
 obtain ⟨v0, vs0, d0, ds0, p0, q0, hargs, rfl, rfl, h0, r0⟩ := trodAll_cons hA
 obtain ⟨rfl, rfl, rfl⟩ := trodAll_nil r0
 obtain rfl : args = #[v0] := by cases args; simp_all
 obtain ⟨ka, kb, krs, km, fr, bi, bv, bc, bf, ai, av, ac, af, rfl, hk, hr, hb, ha⟩ := open_four15 (okWide_struct Tryz.underlying37 (hval 0 37 v0 rfl rfl)) h0
 obtain ⟨rfl, rfl⟩ := trodVars_none hV
 refine (kadds_walk know_ok vec_ok filter_ok hk hr hb ha).mono fun e W' ⟨he, hg⟩ => ?_
 subst he
 exact ⟨_, rfl, law_done (by kernel_rfl) rfl hW0 rfl (by rw [Tryz.params3]; decide +kernel) hg⟩
theorem knowAdds_over : Rows.knowAddsRow.holds Tryz.pinned (OpenSpec.ofChange Rows.knowAddsSpec) :=
 OpenClaim.holds_of_wide 3 Tryz.f3 rfl rfl rfl rfl rfl rfl rfl ⟨rfl, rfl, rfl, rfl, rfl⟩ rfl rfl rfl rfl rfl (by kernel_rfl) Tryz.func3 (by kernel_rfl)
  (of_decide_eq_true (by kernel_rfl)) (by unfold Func.isWrapper; first | (rw [if_pos (by decide +kernel)]; kernel_rfl) | (rw [if_neg (by decide +kernel)]; exact ⟨rfl, rfl⟩))
  (fun os started H enc _ => knowAdds_lifted os started H enc)
theorem knowAdds_holds : Rows.KnowAddsSaid := knowAdds_over
#print axioms knowAdds_holds
end Go.Proofs.YtkcgmnhjofoeiaaGreat
