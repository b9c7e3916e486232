/- The normal form of any ranges, and which sizes they have: SizesForm's statement holds. -/
import Derived.Test.YtenlcadndfbnaaaSzForm
import Derived.Test.YtenlcadndfbnaaaSzPkg
import Derived.Test.YtenlcadndfbnaaaSzIn
namespace Go.Proofs.Ytenlcadndfbnaaa
open Go.RowKit

open Go.ChangeShapes Go.WideShapes Go.ChangeAt
open Go.ChangeMaps (open_string shut_string)

set_option maxRecDepth 100000 in
theorem sizesForm_lifted (os : Os) (started : os.Started) (H : Type) (enc : TypeId × Value → H) :
    ReturnsInHanded {} Try.checked os 3 .any (Rows.sizesFormSpec.pre6 enc Try.prog Try.f3 Rows.sizesFormRow.domain false) (Rows.sizesFormSpec.post enc Try.prog Try.f3 false true false false) := by
  refine returnsInHanded_of_change_sized (C := Try.checked) own started (by kernel_rfl) Try.func3
    (ChangeSpec.witness6 (enc := enc) (C := Try.checked) false ⟨#[], #[.slice none 0 0, .int .i64 0], []⟩ 8 (by kernel_rfl) (by kernel_rfl) (by kernel_rfl) (by kernel_rfl)) ?_
  intro W base args ds gs before hval0 hW _ hsz _
  have hval : ∀ (j : Nat) t v, Try.f3.params[j]? = some t → args[j]? = some v → Value.okWide Try.prog W .any base t v := hval0
  have hW0 := hW
  obtain ⟨p, q, hA0, hV, _, _, _⟩ := hW
  have hA : DataW.TrodAll enc Try.prog W 0 (fun _ => true) true Try.f3.params.toList args.toList ds p := hA0
  rw [Try.params3] at hA hval hsz
  obtain ⟨v0, vs0, d0, ds0, p0, q0, hargs, rfl, rfl, h0, r0⟩ := trodAll_cons hA
  obtain ⟨v1, vs1, d1, ds1, p1, q1, rfl, rfl, rfl, h1, r1⟩ := trodAll_cons r0
  obtain ⟨rfl, rfl, rfl⟩ := trodAll_nil r1
  obtain rfl : args = #[v0, v1] := by cases args; simp_all
  obtain ⟨al, ain, a63, abd⟩ := open_rgl (okWide_slice Try.underlying22 (hval 0 22 v0 rfl rfl)) h0
  obtain ⟨n, rfl, rfl, rfl, nw⟩ := open_int Try.underlying3 (hval 1 3 v1 rfl rfl) h1
  have nb := bounds_i64 nw
  obtain ⟨rfl, rfl⟩ := trodVars_none hV
  refine (sform_walk sizes_ok n ain a63 abd (by omega) (by omega)).mono fun e W' ⟨he, hg⟩ => ?_
  subst he
  exact ⟨_, rfl, law_done (by kernel_rfl) rfl hW0 rfl (by rw [Try.params3]; decide +kernel) hg⟩

set_option maxRecDepth 100000 in
theorem sizesForm_over : Rows.sizesFormRow.holds Try.pinned (OpenSpec.ofChange Rows.sizesFormSpec) :=
  OpenClaim.holds_of_wide 3 Try.f3 rfl rfl rfl rfl rfl rfl rfl ⟨rfl, rfl, rfl, rfl, rfl⟩ rfl rfl rfl rfl rfl (by kernel_rfl) Try.func3 (by kernel_rfl)
    (of_decide_eq_true (by kernel_rfl)) (by unfold Func.isWrapper; first | (rw [if_pos (by decide +kernel)]; kernel_rfl) | (rw [if_neg (by decide +kernel)]; exact ⟨rfl, rfl⟩))
    (fun os started H enc _ => sizesForm_lifted os started H enc)

set_option maxRecDepth 100000 in
/-- The statement. -/
theorem sizesForm_holds : Rows.SizesFormSaid := sizesForm_over
#print axioms sizesForm_holds
end Go.Proofs.Ytenlcadndfbnaaa
