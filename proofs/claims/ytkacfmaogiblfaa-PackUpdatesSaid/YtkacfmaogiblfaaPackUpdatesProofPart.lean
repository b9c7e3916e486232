/- Any update's and meta's bytes, and what any bytes are as either: PackUpdates's statement holds (written by gen/pcklaws.py). -/
import Derived.Test.YtkacfmaogiblfaaUom15
import Derived.Test.YtkacfmaogiblfaaUom19
import Derived.Test.YtkacfmaogiblfaaUom14
set_option maxRecDepth 100000
set_option linter.all false
namespace Go.Proofs.Ytkacfmaogiblfaa
open Go.RowKit
open Go.ChangeShapes Go.WideShapes Go.ChangeAt
open Go.ChangeMaps (open_string shut_string)
theorem packUpdates_lifted (os : Os) (started : os.Started) (H : Type) (enc : TypeId × Value → H) :
  ReturnsInHanded {} Try.checked os 3 .any (Rows.packUpdatesSpec.pre6 enc Try.prog Try.f3 Rows.packUpdatesRow.domain false) (Rows.packUpdatesSpec.post enc Try.prog Try.f3 false true false false) := by
 refine returnsInHanded_of_change_sized (C := Try.checked) own started (by kernel_rfl) Try.func3
  (ChangeSpec.witness6 (enc := enc) (C := Try.checked) false ⟨#[], #[.agg #[.int .i64 0, .int .i64 0, .int .i64 0, .int .i64 0, .int .i64 0, .string ⟨#[]⟩, .string ⟨#[]⟩, .bool false], .agg #[.int .i64 0, .int .i64 0, .int .i64 0, .int .i64 0, .int .i64 0, .string ⟨#[]⟩, .int .i64 0, .bool false], .string ⟨#[]⟩], []⟩ 8 (by kernel_rfl) (by kernel_rfl) (by kernel_rfl) (by kernel_rfl)) ?_
 intro W base args ds gs before hval0 hW _ hsz _
 have hval : ∀ (j : Nat) t v, Try.f3.params[j]? = some t → args[j]? = some v → Value.okWide Try.prog W .any base t v := hval0
 have hW0 := hW
 obtain ⟨p, q, hA0, hV, _, _, _⟩ := hW
 have hA : DataW.TrodAll enc Try.prog W 0 (fun _ => true) true Try.f3.params.toList args.toList ds p := hA0
 rw [Try.params3] at hA hval hsz
 obtain ⟨v0, vs0, d0, ds0, p0, q0, hargs, rfl, rfl, h0, r0⟩ := trodAll_cons hA
 obtain ⟨v1, vs1, d1, ds1, p1, q1, rfl, rfl, rfl, h1, r1⟩ := trodAll_cons r0
 obtain ⟨v2, vs2, d2, ds2, p2, q2, rfl, rfl, rfl, h2, r2⟩ := trodAll_cons r1
 obtain ⟨rfl, rfl, rfl⟩ := trodAll_nil r2
 obtain rfl : args = #[v0, v1, v2] := by cases args; simp_all
 obtain ⟨u, rfl, hu⟩ := open_up (okWide_struct Try.underlying27 (hval 0 27 v0 rfl rfl)) h0
 obtain ⟨m, rfl, hm⟩ := open_mt (okWide_struct Try.underlying29 (hval 1 29 v1 rfl rfl)) h1
 obtain ⟨s, rfl, rfl, rfl, s0⟩ := open_string Try.underlying9 (hval 2 9 v2 rfl rfl) h2
 have s63 : s.data.toList.length ≤ 9223372036854775807 := by rw [← Lib.size_eq]; unfold maxLen at s0; omega
 rw [← mk_of s]
 obtain ⟨rfl, rfl⟩ := trodVars_none hV
 refine (pack_updates_walk update_ok vec_ok s.data.toList hu hm s63).mono fun e W' ⟨he, hg⟩ => ?_
 subst he
 exact ⟨_, rfl, law_done (by kernel_rfl) rfl hW0 rfl (by rw [Try.params3]; decide +kernel) hg⟩
theorem packUpdates_over : Rows.packUpdatesRow.holds Try.pinned (OpenSpec.ofChange Rows.packUpdatesSpec) :=
 OpenClaim.holds_of_wide 3 Try.f3 rfl rfl rfl rfl rfl rfl rfl ⟨rfl, rfl, rfl, rfl, rfl⟩ rfl rfl rfl rfl rfl (by kernel_rfl) Try.func3 (by kernel_rfl)
  (of_decide_eq_true (by kernel_rfl)) (by unfold Func.isWrapper; first | (rw [if_pos (by decide +kernel)]; kernel_rfl) | (rw [if_neg (by decide +kernel)]; exact ⟨rfl, rfl⟩))
  (fun os started H enc _ => packUpdates_lifted os started H enc)
theorem packUpdates_holds : Rows.PackUpdatesSaid := packUpdates_over
#print axioms packUpdates_holds
end Go.Proofs.Ytkacfmaogiblfaa
