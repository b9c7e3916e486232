/- A time that is later than all, or that none is left: VersNext's statement holds. -/
import Derived.Test.YtpmcjanfgamkoaaVerChk
import Derived.Test.YtpmcjanfgamkoaaVerNxt
import Derived.Test.YtpmcjanfgamkoaaVerIn
namespace Go.Proofs.Ytpmcjanfgamkoaa
open Go.RowKit

open Go.ChangeShapes Go.WideShapes Go.ChangeAt
open Go.ChangeMaps (open_string shut_string)

set_option maxRecDepth 100000 in
theorem versNext_lifted (os : Os) (started : os.Started) (H : Type) (enc : TypeId × Value → H) :
    ReturnsInHanded {} Try.checked os 6 .any (Rows.versNextSpec.pre6 enc Try.prog Try.f6 Rows.versNextRow.domain false) (Rows.versNextSpec.post enc Try.prog Try.f6 false true false false) := by
  refine returnsInHanded_of_change_sized (C := Try.checked) own started (by kernel_rfl) Try.func6
    (ChangeSpec.witness6 (enc := enc) (C := Try.checked) false ⟨#[], #[.int .i64 0, .slice none 0 0], []⟩ 8 (by kernel_rfl) (by kernel_rfl) (by kernel_rfl) (by kernel_rfl)) ?_
  intro W base args ds gs before hval0 hW _ hsz _
  have hval : ∀ (j : Nat) t v, Try.f6.params[j]? = some t → args[j]? = some v → Value.okWide Try.prog W .any base t v := hval0
  have hW0 := hW
  obtain ⟨p, q, hA0, hV, _, _, _⟩ := hW
  have hA : DataW.TrodAll enc Try.prog W 0 (fun _ => true) true Try.f6.params.toList args.toList ds p := hA0
  rw [Try.params6] at hA hval hsz
  obtain ⟨v0, vs0, d0, ds0, p0, q0, hargs, rfl, rfl, h0, r0⟩ := trodAll_cons hA
  obtain ⟨v1, vs1, d1, ds1, p1, q1, rfl, rfl, rfl, h1, r1⟩ := trodAll_cons r0
  obtain ⟨rfl, rfl, rfl⟩ := trodAll_nil r1
  obtain rfl : args = #[v0, v1] := by cases args; simp_all
  obtain ⟨t, rfl, rfl, rfl, tw⟩ := open_int Try.underlying3 (hval 0 3 v0 rfl rfl) h0
  have tb : Ver.I64 t := by have := bounds_i64 tw; unfold Ver.I64; omega
  obtain ⟨ll, lin, l63, lbd⟩ := open_nums (okWide_slice Try.underlying44 (hval 1 44 v1 rfl rfl)) h1
  obtain ⟨rfl, rfl⟩ := trodVars_none hV
  refine (vnext_walk vers_ok t lin l63 tb lbd).mono fun e W' ⟨he, hg⟩ => ?_
  subst he
  exact ⟨_, rfl, law_done (by kernel_rfl) rfl hW0 rfl (by rw [Try.params6]; decide +kernel) hg⟩

set_option maxRecDepth 100000 in
theorem versNext_over : Rows.versNextRow.holds Try.pinned (OpenSpec.ofChange Rows.versNextSpec) :=
  OpenClaim.holds_of_wide 6 Try.f6 rfl rfl rfl rfl rfl rfl rfl ⟨rfl, rfl, rfl, rfl, rfl⟩ rfl rfl rfl rfl rfl (by kernel_rfl) Try.func6 (by kernel_rfl)
    (of_decide_eq_true (by kernel_rfl)) (by unfold Func.isWrapper; first | (rw [if_pos (by decide +kernel)]; kernel_rfl) | (rw [if_neg (by decide +kernel)]; exact ⟨rfl, rfl⟩))
    (fun os started H enc _ => versNext_lifted os started H enc)

set_option maxRecDepth 100000 in
/-- The statement. -/
theorem versNext_holds : Rows.VersNextSaid := versNext_over
#print axioms versNext_holds
end Go.Proofs.Ytpmcjanfgamkoaa
