/- Which of two texts covers the other one: PathCovers's statement holds. -/
import Derived.Test.YtadgdppkokbphaaPthCovers
import Derived.Test.YtadgdppkokbphaaPthPkg
namespace Go.Proofs.Ytadgdppkokbphaa
open Go.RowKit

open Go.ChangeShapes Go.WideShapes Go.ChangeAt
open Go.ChangeMaps (open_string shut_string)

set_option maxRecDepth 100000 in
theorem pathCovers_lifted (os : Os) (started : os.Started) (H : Type) (enc : TypeId × Value → H) :
    ReturnsInHanded {} Try.checked os 5 .any (Rows.pathCoversSpec.pre6 enc Try.prog Try.f5 Rows.pathCoversRow.domain false) (Rows.pathCoversSpec.post enc Try.prog Try.f5 false true false false) := by
  refine returnsInHanded_of_change_sized (C := Try.checked) own started (by kernel_rfl) Try.func5
    (ChangeSpec.witness6 (enc := enc) (C := Try.checked) false ⟨#[], #[.string ⟨#[]⟩, .string ⟨#[]⟩], []⟩ 8 (by kernel_rfl) (by kernel_rfl) (by kernel_rfl) (by kernel_rfl)) ?_
  intro W base args ds gs before hval0 hW _ hsz _
  have hval : ∀ (j : Nat) t v, Try.f5.params[j]? = some t → args[j]? = some v → Value.okWide Try.prog W .any base t v := hval0
  have hW0 := hW
  obtain ⟨p, q, hA0, hV, _, _, _⟩ := hW
  have hA : DataW.TrodAll enc Try.prog W 0 (fun _ => true) true Try.f5.params.toList args.toList ds p := hA0
  rw [Try.params5] at hA hval hsz
  obtain ⟨v0, vs0, d0, ds0, p0, q0, hargs, rfl, rfl, h0, r0⟩ := trodAll_cons hA
  obtain ⟨v1, vs1, d1, ds1, p1, q1, rfl, rfl, rfl, h1, r1⟩ := trodAll_cons r0
  obtain ⟨rfl, rfl, rfl⟩ := trodAll_nil r1
  obtain rfl : args = #[v0, v1] := by cases args; simp_all
  obtain ⟨a, rfl, rfl, rfl, a0⟩ := open_string Try.underlying9 (hval 0 9 v0 rfl rfl) h0
  have a63 : a.size ≤ 9223372036854775807 := by unfold maxLen at a0; omega
  obtain ⟨b, rfl, rfl, rfl, b0⟩ := open_string Try.underlying9 (hval 1 9 v1 rfl rfl) h1
  have b63 : b.size ≤ 9223372036854775807 := by unfold maxLen at b0; omega
  obtain ⟨rfl, rfl⟩ := trodVars_none hV
  refine (pcovers_walk path_ok a b W).mono fun e W' ⟨he, hg⟩ => ?_
  subst he
  exact ⟨_, rfl, law_done (by kernel_rfl) rfl hW0 rfl (by rw [Try.params5]; decide +kernel) hg⟩

set_option maxRecDepth 100000 in
theorem pathCovers_over : Rows.pathCoversRow.holds Try.pinned (OpenSpec.ofChange Rows.pathCoversSpec) :=
  OpenClaim.holds_of_wide 5 Try.f5 rfl rfl rfl rfl rfl rfl rfl ⟨rfl, rfl, rfl, rfl, rfl⟩ rfl rfl rfl rfl rfl (by kernel_rfl) Try.func5 (by kernel_rfl)
    (of_decide_eq_true (by kernel_rfl)) (by unfold Func.isWrapper; first | (rw [if_pos (by decide +kernel)]; kernel_rfl) | (rw [if_neg (by decide +kernel)]; exact ⟨rfl, rfl⟩))
    (fun os started H enc _ => pathCovers_lifted os started H enc)

set_option maxRecDepth 100000 in
/-- The statement. -/
theorem pathCovers_holds : Rows.PathCoversSaid := pathCovers_over
#print axioms pathCovers_holds
end Go.Proofs.Ytadgdppkokbphaa
