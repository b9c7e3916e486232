/- Any vector's and any items' bytes, and what any bytes are as either: PackVecs's statement holds (written by gen/pcklaws.py). -/
import Derived.Test.YtpafpegcodempaaCom13
import Derived.Test.YtpafpegcodempaaCom14
import Derived.Test.YtpafpegcodempaaCom15
set_option maxRecDepth 100000
set_option linter.all false
namespace Go.Proofs.Ytpafpegcodempaa
open Go.RowKit
open Go.ChangeShapes Go.WideShapes Go.ChangeAt
open Go.ChangeMaps (open_string shut_string)
theorem packVecs_lifted (os : Os) (started : os.Started) (H : Type) (enc : TypeId × Value → H) :
  ReturnsInHanded {} Try.checked os 3 .any (Rows.packVecsSpec.pre6 enc Try.prog Try.f3 Rows.packVecsRow.domain false) (Rows.packVecsSpec.post enc Try.prog Try.f3 false true false false) := by
 refine returnsInHanded_of_change_sized (C := Try.checked) own started (by kernel_rfl) Try.func3
  (ChangeSpec.witness6 (enc := enc) (C := Try.checked) false ⟨#[], #[.agg (Array.replicate 65 (.int .i64 0)), .slice none 0 0, .string ⟨#[]⟩], []⟩ 8 (by kernel_rfl) (by kernel_rfl) (by kernel_rfl) (by kernel_rfl)) ?_
 intro W base args ds gs before hval0 hW _ hsz _
 have hval : ∀ (j : Nat) t v, Try.f3.params[j]? = some t → args[j]? = some v → Value.okWide Try.prog W .any base t v := hval0
 have hW0 := hW
 obtain ⟨p, q, hA0, hV, _, _, _⟩ := hW
 have hA : DataW.TrodAll enc Try.prog W 0 (fun _ => true) true Try.f3.params.toList args.toList ds p := hA0
 rw [Try.params3] at hA hval hsz
 obtain ⟨v0, vs0, d0, ds0, p0, q0, hargs, rfl, rfl, h0, r0⟩ := trodAll_cons hA
 obtain ⟨v1, vs1, d1, ds1, p1, q1, rfl, rfl, rfl, h1, r1⟩ := trodAll_cons r0
 obtain ⟨v2, vs2, d2, ds2, p2, q2, rfl, rfl, rfl, h2, r2⟩ := trodAll_cons r1
 obtain ⟨rfl, rfl, rfl⟩ := trodAll_nil r2
 obtain rfl : args = #[v0, v1, v2] := by cases args; simp_all
 obtain ⟨vx, rfl, vlen, vbd⟩ := open_vec (hval 0 23 v0 rfl rfl) h0
 obtain ⟨ll, lin, l63, lbd⟩ := open_vers (okWide_slice Try.underlying24 (hval 1 24 v1 rfl rfl)) h1
 obtain ⟨s, rfl, rfl, rfl, s0⟩ := open_string Try.underlying9 (hval 2 9 v2 rfl rfl) h2
 have s63 : s.data.toList.length ≤ 9223372036854775807 := by rw [← Lib.size_eq]; unfold maxLen at s0; omega
 rw [← mk_of s]
 obtain ⟨rfl, rfl⟩ := trodVars_none hV
 refine (pack_vecs_walk vec_ok vers_ok iset_ok s.data.toList vlen (fun n hn => (vbd n hn).2) lin l63 lbd s63).mono fun e W' ⟨he, hg⟩ => ?_
 subst he
 exact ⟨_, rfl, law_done (by kernel_rfl) rfl hW0 rfl (by rw [Try.params3]; decide +kernel) hg⟩
theorem packVecs_over : Rows.packVecsRow.holds Try.pinned (OpenSpec.ofChange Rows.packVecsSpec) :=
 OpenClaim.holds_of_wide 3 Try.f3 rfl rfl rfl rfl rfl rfl rfl ⟨rfl, rfl, rfl, rfl, rfl⟩ rfl rfl rfl rfl rfl (by kernel_rfl) Try.func3 (by kernel_rfl)
  (of_decide_eq_true (by kernel_rfl)) (by unfold Func.isWrapper; first | (rw [if_pos (by decide +kernel)]; kernel_rfl) | (rw [if_neg (by decide +kernel)]; exact ⟨rfl, rfl⟩))
  (fun os started H enc _ => packVecs_lifted os started H enc)
theorem packVecs_holds : Rows.PackVecsSaid := packVecs_over
#print axioms packVecs_holds
end Go.Proofs.Ytpafpegcodempaa
