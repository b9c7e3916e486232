/- Records that are too long together are not laid: FrameBig's statement holds. -/
import Derived.Test.YtlccbebociknaaaFrmBig
import Derived.Test.YtlccbebociknaaaFrmOpen
import Derived.Test.YtlccbebociknaaaFrmPkg
namespace Go.Proofs.Ytlccbebociknaaa
open Go.RowKit

open Go.ChangeShapes Go.WideShapes Go.ChangeAt
open Go.ChangeMaps (open_string shut_string)

set_option maxRecDepth 100000 in
theorem frameBig_lifted (os : Os) (started : os.Started) (H : Type) (enc : TypeId × Value → H) :
    ReturnsInHanded {} Try.checked os 6 .any (Rows.frameBigSpec.pre6 enc Try.prog Try.f6 Rows.frameBigRow.domain false) (Rows.frameBigSpec.post enc Try.prog Try.f6 false true false false) := by
  refine returnsInHanded_of_change_sized (C := Try.checked) own started (by kernel_rfl) Try.func6
    (ChangeSpec.witness6 (enc := enc) (C := Try.checked) false ⟨#[], #[.int .u32 0, .int .u8 0], []⟩ 8 (by kernel_rfl) (by kernel_rfl) (by kernel_rfl) (by kernel_rfl)) ?_
  intro W base args ds gs before hval0 hW _ hsz _
  have hval : ∀ (j : Nat) t v, Try.f6.params[j]? = some t → args[j]? = some v → Value.okWide Try.prog W .any base t v := hval0
  have hW0 := hW
  obtain ⟨p, q, hA0, hV, _, _, _⟩ := hW
  have hA : DataW.TrodAll enc Try.prog W 0 (fun _ => true) true Try.f6.params.toList args.toList ds p := hA0
  rw [Try.params6] at hA hval hsz
  obtain ⟨v0, vs0, d0, ds0, p0, q0, hargs, rfl, rfl, h0, r0⟩ := trodAll_cons hA
  obtain ⟨v1, vs1, d1, ds1, p1, q1, rfl, rfl, rfl, h1, r1⟩ := trodAll_cons r0
  obtain ⟨rfl, rfl, rfl⟩ := trodAll_nil r1
  obtain rfl : args = #[v0, v1] := by cases args; simp_all
  obtain ⟨n, rfl, rfl, rfl, nw⟩ := open_int Try.underlying37 (hval 0 37 v0 rfl rfl) h0
  have nb := bounds_u32 nw
  obtain ⟨nn, rfl⟩ := Int.eq_ofNat_of_zero_le nb.1
  obtain ⟨b, rfl, rfl, rfl, bw⟩ := open_int Try.underlying5 (hval 1 5 v1 rfl rfl) h1
  have bb := bounds_u8 bw
  obtain ⟨bn, rfl⟩ := Int.eq_ofNat_of_zero_le bb.1
  obtain ⟨rfl, rfl⟩ := trodVars_none hV
  refine (frm_big frame_ok nn bn W).mono fun e W' ⟨he, hg⟩ => ?_
  subst he
  exact ⟨_, rfl, law_done (by kernel_rfl) rfl hW0 rfl (by rw [Try.params6]; decide +kernel) hg⟩

theorem frameBig_over : Rows.frameBigRow.holds Try.pinned (OpenSpec.ofChange Rows.frameBigSpec) :=
  OpenClaim.holds_of_wide 6 Try.f6 rfl rfl rfl rfl rfl rfl rfl ⟨rfl, rfl, rfl, rfl, rfl⟩ rfl rfl rfl rfl rfl (by kernel_rfl) Try.func6 (by kernel_rfl)
    (of_decide_eq_true (by kernel_rfl)) (by unfold Func.isWrapper; first | (rw [if_pos (by decide +kernel)]; kernel_rfl) | (rw [if_neg (by decide +kernel)]; exact ⟨rfl, rfl⟩))
    (fun os started H enc _ => frameBig_lifted os started H enc)

/-- The statement. -/
theorem frameBig_holds : Rows.FrameBigSaid := frameBig_over
#print axioms frameBig_holds
end Go.Proofs.Ytlccbebociknaaa
