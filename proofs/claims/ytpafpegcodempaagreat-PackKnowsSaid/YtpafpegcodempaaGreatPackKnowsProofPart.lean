/- Any knowledge's bytes, and what any bytes are as it: PackKnows's statement holds (written by gen/pcklaws.py). -/
import Derived.Test.YtpafpegcodempaaGreatCom27
import Derived.Test.YtpafpegcodempaaGreatCom28
import Derived.Test.YtpafpegcodempaaGreatCom31
import Derived.Test.YtpafpegcodempaaGreatCom25
set_option maxRecDepth 100000
set_option linter.all false
set_option maxHeartbeats 12800000
namespace Go.Proofs.YtpafpegcodempaaGreat
open Go.RowKit
open Go.ChangeShapes Go.WideShapes Go.ChangeAt
open Go.ChangeMaps (open_string shut_string)
theorem packKnows_lifted (os : Os) (started : os.Started) (H : Type) (enc : TypeId × Value → H) :
  ReturnsInHanded {} Tryz.checked os 7 .any (Rows.packKnowsSpec.pre6 enc Tryz.prog Tryz.f7 Rows.packKnowsRow.domain false) (Rows.packKnowsSpec.post enc Tryz.prog Tryz.f7 false true false false) := by
 refine returnsInHanded_of_change_sized (C := Tryz.checked) own started (by kernel_rfl) Tryz.func7
  (ChangeSpec.witness6 (enc := enc) (C := Tryz.checked) false ⟨#[], #[.agg #[.slice none 0 0, .slice none 0 0], .string ⟨#[]⟩], []⟩ 8 (by kernel_rfl) (by kernel_rfl) (by kernel_rfl) (by kernel_rfl)) ?_
 intro W base args ds gs before hval0 hW _ hsz _
 have hval : ∀ (j : Nat) t v, Tryz.f7.params[j]? = some t → args[j]? = some v → Value.okWide Tryz.prog W .any base t v := hval0
 have hW0 := hW
 obtain ⟨p, q, hA0, hV, _, _, _⟩ := hW
 have hA : DataW.TrodAll enc Tryz.prog W 0 (fun _ => true) true Tryz.f7.params.toList args.toList ds p := hA0
 rw [Tryz.params7] at hA hval hsz
 obtain ⟨v0, vs0, d0, ds0, p0, q0, hargs, rfl, rfl, h0, r0⟩ := trodAll_cons hA
 obtain ⟨v1, vs1, d1, ds1, p1, q1, rfl, rfl, rfl, h1, r1⟩ := trodAll_cons r0
 obtain ⟨rfl, rfl, rfl⟩ := trodAll_nil r1
 obtain rfl : args = #[v0, v1] := by cases args; simp_all
 obtain ⟨ka, kb, krs, km, rfl, kin⟩ := open_know (okWide_struct Tryz.underlying28 (hval 0 28 v0 rfl rfl)) h0
 obtain ⟨s, rfl, rfl, rfl, s0⟩ := open_string Tryz.underlying9 (hval 1 9 v1 rfl rfl) h1
 have s63 : s.data.toList.length ≤ 9223372036854775807 := by rw [← Lib.size_eq]; unfold maxLen at s0; omega
 rw [← mk_of s]
 obtain ⟨rfl, rfl⟩ := trodVars_none hV
 refine (pack_knows_walk vec_ok vers_ok iset_ok filter_ok s.data.toList kin s63).mono fun e W' ⟨he, hg⟩ => ?_
 subst he
 exact ⟨_, rfl, law_done (by kernel_rfl) rfl hW0 rfl (by rw [Tryz.params7]; decide +kernel) hg⟩
theorem packKnows_and {a b : Bool} (h : a = true) (k : b = true) : (a && b) = true := by rw [h, k]; rfl
theorem packKnows_joined : joinedFacts Tryz.pinned.checked.prog 7 Tryz.f7 Rows.packKnowsSpec Rows.packKnowsRow = true := by
 unfold joinedFacts
 repeat' (with_reducible refine packKnows_and ?_ ?_)
 all_goals (as_aux_lemma => first | kernel_rfl | exact of_decide_eq_true (by kernel_rfl))
theorem packKnows_over : Rows.packKnowsRow.holds Tryz.pinned (OpenSpec.ofChange Rows.packKnowsSpec) :=
 OpenClaim.holds_of_wide 7 Tryz.f7 rfl rfl rfl rfl rfl rfl rfl ⟨rfl, rfl, rfl, rfl, rfl⟩ rfl rfl rfl rfl rfl (by kernel_rfl) Tryz.func7 packKnows_joined
  (of_decide_eq_true (by kernel_rfl)) (by unfold Func.isWrapper; first | (rw [if_pos (by decide +kernel)]; kernel_rfl) | (rw [if_neg (by decide +kernel)]; exact ⟨rfl, rfl⟩))
  (fun os started H enc _ => packKnows_lifted os started H enc)
theorem packKnows_holds : Rows.PackKnowsSaid := packKnows_over
#print axioms packKnows_holds
end Go.Proofs.YtpafpegcodempaaGreat
