/- The keys that begin with any text: StoreKeys's statement holds. -/
import Derived.Test.YtbfjageaheijbaaGreatCom12
import Derived.Test.YtbfjageaheijbaaGreatCom40
namespace Go.Proofs.YtbfjageaheijbaaGreat
open Go.RowKit

open Go.ChangeShapes Go.WideShapes Go.ChangeAt
open Go.ChangeMaps (open_string shut_string)

set_option maxRecDepth 100000 in
theorem storeKeys_lifted (os : Os) (started : os.Started) (H : Type) (enc : TypeId × Value → H) :
    ReturnsInHanded {} Tryz.checked os 5 .any (Rows.storeKeysSpec.pre6 enc Tryz.prog Tryz.f5 Rows.storeKeysRow.domain false) (Rows.storeKeysSpec.post enc Tryz.prog Tryz.f5 false true false false) := by
  refine returnsInHanded_of_change_sized (C := Tryz.checked) own started (by kernel_rfl) Tryz.func5
    (ChangeSpec.witness6 (enc := enc) (C := Tryz.checked) false ⟨#[], #[.slice none 0 0, .string ⟨#[]⟩], []⟩ 8 (by kernel_rfl) (by kernel_rfl) (by kernel_rfl) (by kernel_rfl)) ?_
  intro W base args ds gs before hval0 hW _ hsz _
  have hval : ∀ (j : Nat) t v, Tryz.f5.params[j]? = some t → args[j]? = some v → Value.okWide Tryz.prog W .any base t v := hval0
  have hW0 := hW
  obtain ⟨p, q, hA0, hV, _, _, _⟩ := hW
  have hA : DataW.TrodAll enc Tryz.prog W 0 (fun _ => true) true Tryz.f5.params.toList args.toList ds p := hA0
  rw [Tryz.params5] at hA hval hsz
  obtain ⟨v0, vs0, d0, ds0, p0, q0, hargs, rfl, rfl, h0, r0⟩ := trodAll_cons hA
  obtain ⟨v1, vs1, d1, ds1, p1, q1, rfl, rfl, rfl, h1, r1⟩ := trodAll_cons r0
  obtain ⟨rfl, rfl, rfl⟩ := trodAll_nil r1
  obtain rfl : args = #[v0, v1] := by cases args; simp_all
  obtain ⟨lA, ln, lc, l, rfl, hin, hll, hlc, hl63⟩ := open_changes h0 (okWide_slice Tryz.underlying33 (hval 0 33 v0 rfl rfl))
  obtain ⟨s, rfl, rfl, rfl, s0⟩ := open_string Tryz.underlying9 (hval 1 9 v1 rfl rfl) h1
  have s63 : s.size ≤ 9223372036854775807 := by unfold maxLen at s0; omega
  obtain ⟨rfl, rfl⟩ := trodVars_none hV
  refine (keys_walk disk_use store_ok lA ln lc l W hlc hl63 hll hin s s63).mono fun e W' ⟨he, hg⟩ => ?_
  subst he
  exact ⟨_, rfl, law_done (by kernel_rfl) rfl hW0 rfl (by rw [Tryz.params5]; decide +kernel) hg⟩

set_option maxRecDepth 100000 in
theorem storeKeys_over : Rows.storeKeysRow.holds Tryz.pinned (OpenSpec.ofChange Rows.storeKeysSpec) :=
  OpenClaim.holds_of_wide 5 Tryz.f5 rfl rfl rfl rfl rfl rfl rfl ⟨rfl, rfl, rfl, rfl, rfl⟩ rfl rfl rfl rfl rfl (by kernel_rfl) Tryz.func5 (by kernel_rfl)
    (of_decide_eq_true (by kernel_rfl)) (by unfold Func.isWrapper; first | (rw [if_pos (by decide +kernel)]; kernel_rfl) | (rw [if_neg (by decide +kernel)]; exact ⟨rfl, rfl⟩))
    (fun os started H enc _ => storeKeys_lifted os started H enc)

set_option maxRecDepth 100000 in
/-- The statement. -/
theorem storeKeys_holds : Rows.StoreKeysSaid := storeKeys_over
#print axioms storeKeys_holds
end Go.Proofs.YtbfjageaheijbaaGreat
