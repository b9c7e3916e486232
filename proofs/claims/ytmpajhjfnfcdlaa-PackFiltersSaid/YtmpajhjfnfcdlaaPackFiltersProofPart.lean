/- Any filter's bytes, and what any bytes are as a filter: PackFilters's statement holds (written by gen/pcklaws.py). -/
import Derived.Test.YtmpajhjfnfcdlaaCom12
import Derived.Test.YtmpajhjfnfcdlaaCom13
import Derived.Test.YtmpajhjfnfcdlaaCom14
set_option maxRecDepth 100000
set_option linter.all false
namespace Go.Proofs.Ytmpajhjfnfcdlaa
open Go.RowKit
open Go.ChangeShapes Go.WideShapes Go.ChangeAt
open Go.ChangeMaps (open_string shut_string)
theorem packFilters_lifted (os : Os) (started : os.Started) (H : Type) (enc : TypeId × Value → H) :
  ReturnsInHanded {} Try.checked os 5 .any (Rows.packFiltersSpec.pre6 enc Try.prog Try.f5 Rows.packFiltersRow.domain false) (Rows.packFiltersSpec.post enc Try.prog Try.f5 false true false false) := by
 refine returnsInHanded_of_change_sized (C := Try.checked) own started (by kernel_rfl) Try.func5
  (ChangeSpec.witness6 (enc := enc) (C := Try.checked) false ⟨#[], #[.slice none 0 0, .string ⟨#[]⟩], []⟩ 8 (by kernel_rfl) (by kernel_rfl) (by kernel_rfl) (by kernel_rfl)) ?_
 intro W base args ds gs before hval0 hW _ hsz _
 have hval : ∀ (j : Nat) t v, Try.f5.params[j]? = some t → args[j]? = some v → Value.okWide Try.prog W .any base t v := hval0
 have hW0 := hW
 obtain ⟨p, q, hA0, hV, _, _, _⟩ := hW
 have hA : DataW.TrodAll enc Try.prog W 0 (fun _ => true) true Try.f5.params.toList args.toList ds p := hA0
 rw [Try.params5] at hA hval hsz
 obtain ⟨v0, vs0, d0, ds0, p0, q0, hargs, rfl, rfl, h0, r0⟩ := trodAll_cons hA
 obtain ⟨v1, vs1, d1, ds1, p1, q1, rfl, rfl, rfl, h1, r1⟩ := trodAll_cons r0
 obtain ⟨rfl, rfl, rfl⟩ := trodAll_nil r1
 obtain rfl : args = #[v0, v1] := by cases args; simp_all
 obtain ⟨fl, fin, f63, fbd⟩ := open_cll (okWide_slice Try.underlying60 (hval 0 60 v0 rfl rfl)) h0
 obtain ⟨s, rfl, rfl, rfl, s0⟩ := open_string Try.underlying9 (hval 1 9 v1 rfl rfl) h1
 have s63 : s.data.toList.length ≤ 9223372036854775807 := by rw [← Lib.size_eq]; unfold maxLen at s0; omega
 rw [← mk_of s]
 obtain ⟨rfl, rfl⟩ := trodVars_none hV
 refine (pack_filters_walk filter_ok vec_ok s.data.toList fin f63 fbd s63).mono fun e W' ⟨he, hg⟩ => ?_
 subst he
 exact ⟨_, rfl, law_done (by kernel_rfl) rfl hW0 rfl (by rw [Try.params5]; decide +kernel) hg⟩
theorem packFilters_over : Rows.packFiltersRow.holds Try.pinned (OpenSpec.ofChange Rows.packFiltersSpec) :=
 OpenClaim.holds_of_wide 5 Try.f5 rfl rfl rfl rfl rfl rfl rfl ⟨rfl, rfl, rfl, rfl, rfl⟩ rfl rfl rfl rfl rfl (by kernel_rfl) Try.func5 (by kernel_rfl)
  (of_decide_eq_true (by kernel_rfl)) (by unfold Func.isWrapper; first | (rw [if_pos (by decide +kernel)]; kernel_rfl) | (rw [if_neg (by decide +kernel)]; exact ⟨rfl, rfl⟩))
  (fun os started H enc _ => packFilters_lifted os started H enc)
theorem packFilters_holds : Rows.PackFiltersSaid := packFilters_over
#print axioms packFilters_holds
end Go.Proofs.Ytmpajhjfnfcdlaa
