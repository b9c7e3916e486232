/- The least vector of any versions, and one that has one more: VecAdds's statement holds. -/
import Derived.Test.YtlgaljlbjbfdgaaVecAdd
import Derived.Test.YtlgaljlbjbfdgaaVecEnd
import Derived.Test.YtlgaljlbjbfdgaaVecIn
namespace Go.Proofs.Ytlgaljlbjbfdgaa
open Go.RowKit

open Go.ChangeShapes Go.WideShapes Go.ChangeAt
open Go.ChangeMaps (open_string shut_string)

set_option maxRecDepth 100000 in
theorem vecAdds_lifted (os : Os) (started : os.Started) (H : Type) (enc : TypeId × Value → H) :
    ReturnsInHanded {} Try.checked os 4 .any (Rows.vecAddsSpec.pre6 enc Try.prog Try.f4 Rows.vecAddsRow.domain false) (Rows.vecAddsSpec.post enc Try.prog Try.f4 false true false false) := by
  refine returnsInHanded_of_change_sized (C := Try.checked) own started (by kernel_rfl) Try.func4
    (ChangeSpec.witness6 (enc := enc) (C := Try.checked) false ⟨#[], #[.agg (#[.slice none 0 0] ++ Array.replicate 69 (.int .i64 0))], []⟩ 8 (by kernel_rfl) (by kernel_rfl) (by kernel_rfl) (by kernel_rfl)) ?_
  intro W base args ds gs before hval0 hW _ hsz _
  have hval : ∀ (j : Nat) t v, Try.f4.params[j]? = some t → args[j]? = some v → Value.okWide Try.prog W .any base t v := hval0
  have hW0 := hW
  obtain ⟨p, q, hA0, hV, _, _, _⟩ := hW
  have hA : DataW.TrodAll enc Try.prog W 0 (fun _ => true) true Try.f4.params.toList args.toList ds p := hA0
  rw [Try.params4] at hA hval hsz
  obtain ⟨v0, vs0, d0, ds0, p0, q0, hargs, rfl, rfl, h0, r0⟩ := trodAll_cons hA
  obtain ⟨rfl, rfl, rfl⟩ := trodAll_nil r0
  obtain rfl : args = #[v0] := by cases args; simp_all
  obtain ⟨s, l, u, x, y, rfl, hu, hub, hs, h63, hlb, hxb, hyb⟩ := open_four (okWide_struct Try.underlying37 (hval 0 37 v0 rfl rfl)) h0
  obtain ⟨rfl, rfl⟩ := trodVars_none hV
  refine (vadds_walk vec_ok x y hu hs hlb hxb hyb).mono fun e W' ⟨he, hg⟩ => ?_
  subst he
  exact ⟨_, rfl, law_done (by kernel_rfl) rfl hW0 rfl (by rw [Try.params4]; decide +kernel) hg⟩

set_option maxRecDepth 100000 in
theorem vecAdds_over : Rows.vecAddsRow.holds Try.pinned (OpenSpec.ofChange Rows.vecAddsSpec) :=
  OpenClaim.holds_of_wide 4 Try.f4 rfl rfl rfl rfl rfl rfl rfl ⟨rfl, rfl, rfl, rfl, rfl⟩ rfl rfl rfl rfl rfl (by kernel_rfl) Try.func4 (by kernel_rfl)
    (of_decide_eq_true (by kernel_rfl)) (by unfold Func.isWrapper; first | (rw [if_pos (by decide +kernel)]; kernel_rfl) | (rw [if_neg (by decide +kernel)]; exact ⟨rfl, rfl⟩))
    (fun os started H enc _ => vecAdds_lifted os started H enc)

set_option maxRecDepth 100000 in
/-- The statement. -/
theorem vecAdds_holds : Rows.VecAddsSaid := vecAdds_over
#print axioms vecAdds_holds
end Go.Proofs.Ytlgaljlbjbfdgaa
