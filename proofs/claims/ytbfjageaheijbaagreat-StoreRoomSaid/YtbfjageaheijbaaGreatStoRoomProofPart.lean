/- It is full only if there is no room: StoreRoom's statement holds. -/
import Derived.Test.YtbfjageaheijbaaGreatCom42
import Derived.Test.YtbfjageaheijbaaGreatCom40
namespace Go.Proofs.YtbfjageaheijbaaGreat
open Go.RowKit

open Go.ChangeShapes Go.WideShapes Go.ChangeAt
open Go.ChangeMaps (open_string shut_string)

set_option maxRecDepth 100000 in
theorem storeRoom_lifted (os : Os) (started : os.Started) (H : Type) (enc : TypeId × Value → H) :
    ReturnsInHanded {} Tryz.checked os 4 .any (Rows.storeRoomSpec.pre6 enc Tryz.prog Tryz.f4 Rows.storeRoomRow.domain false) (Rows.storeRoomSpec.post enc Tryz.prog Tryz.f4 false true false false) := by
  refine returnsInHanded_of_change_sized (C := Tryz.checked) own started (by kernel_rfl) Tryz.func4
    (ChangeSpec.witness6 (enc := enc) (C := Tryz.checked) false ⟨#[], #[.slice none 0 0, .int .u8 0], []⟩ 8 (by kernel_rfl) (by kernel_rfl) (by kernel_rfl) (by kernel_rfl)) ?_
  intro W base args ds gs before hval0 hW _ hsz _
  have hval : ∀ (j : Nat) t v, Tryz.f4.params[j]? = some t → args[j]? = some v → Value.okWide Tryz.prog W .any base t v := hval0
  have hW0 := hW
  obtain ⟨p, q, hA0, hV, _, _, _⟩ := hW
  have hA : DataW.TrodAll enc Tryz.prog W 0 (fun _ => true) true Tryz.f4.params.toList args.toList ds p := hA0
  rw [Tryz.params4] at hA hval hsz
  obtain ⟨v0, vs0, d0, ds0, p0, q0, hargs, rfl, rfl, h0, r0⟩ := trodAll_cons hA
  obtain ⟨v1, vs1, d1, ds1, p1, q1, rfl, rfl, rfl, h1, r1⟩ := trodAll_cons r0
  obtain ⟨rfl, rfl, rfl⟩ := trodAll_nil r1
  obtain rfl : args = #[v0, v1] := by cases args; simp_all
  obtain ⟨lA, ln, lc, l, rfl, hlc, hl63, hin⟩ := open_lcs (okWide_slice Tryz.underlying47 (hval 0 47 v0 rfl rfl)) h0
  obtain ⟨n, rfl, rfl, rfl, nw⟩ := open_int Tryz.underlying5 (hval 1 5 v1 rfl rfl) h1
  have nb := bounds_u8 nw
  obtain ⟨nn, rfl⟩ := Int.eq_ofNat_of_zero_le nb.1
  obtain ⟨rfl, rfl⟩ := trodVars_none hV
  refine (room_walk disk_use store_ok lA ln lc l W hlc hl63 hin nn (by omega)).mono fun e W' ⟨he, hg⟩ => ?_
  subst he
  exact ⟨_, rfl, law_done (by kernel_rfl) rfl hW0 rfl (by rw [Tryz.params4]; decide +kernel) hg⟩

set_option maxRecDepth 100000 in
theorem storeRoom_over : Rows.storeRoomRow.holds Tryz.pinned (OpenSpec.ofChange Rows.storeRoomSpec) :=
  OpenClaim.holds_of_wide 4 Tryz.f4 rfl rfl rfl rfl rfl rfl rfl ⟨rfl, rfl, rfl, rfl, rfl⟩ rfl rfl rfl rfl rfl (by kernel_rfl) Tryz.func4 (by kernel_rfl)
    (of_decide_eq_true (by kernel_rfl)) (by unfold Func.isWrapper; first | (rw [if_pos (by decide +kernel)]; kernel_rfl) | (rw [if_neg (by decide +kernel)]; exact ⟨rfl, rfl⟩))
    (fun os started H enc _ => storeRoom_lifted os started H enc)

set_option maxRecDepth 100000 in
/-- The statement. -/
theorem storeRoom_holds : Rows.StoreRoomSaid := storeRoom_over
#print axioms storeRoom_holds
end Go.Proofs.YtbfjageaheijbaaGreat
