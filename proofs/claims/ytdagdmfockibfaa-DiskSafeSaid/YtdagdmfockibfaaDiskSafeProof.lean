/- What was flushed is there behind any crash: DiskSafe's statement holds. -/
import Derived.Test.YtdagdmfockibfaaDiskSafe2
import Derived.Test.YtdagdmfockibfaaDiskPkg
namespace Go.Proofs.Ytdagdmfockibfaa
open Go.RowKit Dsk

theorem safe_any (s : Nat) (lA kA : Option Addr) (ln lc kn kc : Nat) (l : List Ac) (ks : List Int) (w : World) (hs : s < 256) (hlc : ln ≤ 9223372036854775807) (hl : ActsIn w lA ln l)
    (hk : Cells w (fun i => i < w.heap.size) (.slice kA kn kc) (ks.map (Value.int .i64))) (hI : Ints64 ks) :
    Calls Try.prog 4 #[.int .u8 (s : Int), .slice lA ln lc, .slice kA kn kc] w fun e w' => e = .returned (.bool true) ∧ Below w.heap.size w w' := by
  obtain ⟨At, H⟩ := disk_ok
  exact safe_walk H s lA kA ln lc kn kc l ks w hs hlc hl hk hI

open Go.ChangeShapes Go.WideShapes Go.ChangeAt
open Go.ChangeMaps (open_string shut_string)

set_option maxRecDepth 100000 in
theorem diskSafe_lifted (os : Os) (started : os.Started) (H : Type) (enc : TypeId × Value → H) :
    ReturnsInHanded {} Try.checked os 4 .any (Rows.diskSafeSpec.pre6 enc Try.prog Try.f4 Rows.diskSafeRow.domain false) (Rows.diskSafeSpec.post enc Try.prog Try.f4 false true false false) := by
  refine returnsInHanded_of_change_sized (C := Try.checked) own started (by kernel_rfl) Try.func4
    (ChangeSpec.witness6 (enc := enc) (C := Try.checked) false ⟨#[], #[.int .u8 0, .slice none 0 0, .slice none 0 0], []⟩ 8 (by kernel_rfl) (by kernel_rfl) (by kernel_rfl) (by kernel_rfl)) ?_
  intro W base args ds gs before hval0 hW _ hsz _
  have hval : ∀ (j : Nat) t v, Try.f4.params[j]? = some t → args[j]? = some v → Value.okWide Try.prog W .any base t v := hval0
  have hW0 := hW
  obtain ⟨p, q, hA0, hV, _, _, _⟩ := hW
  have hA : DataW.TrodAll enc Try.prog W 0 (fun _ => true) true Try.f4.params.toList args.toList ds p := hA0
  rw [Try.params4] at hA hval hsz
  obtain ⟨v0, vs0, d0, ds0, p0, q0, hargs, rfl, rfl, h0, r0⟩ := trodAll_cons hA
  obtain ⟨v1, vs1, d1, ds1, p1, q1, rfl, rfl, rfl, h1, r1⟩ := trodAll_cons r0
  obtain ⟨v2, vs2, d2, ds2, p2, q2, rfl, rfl, rfl, h2, r2⟩ := trodAll_cons r1
  obtain ⟨rfl, rfl, rfl⟩ := trodAll_nil r2
  obtain rfl : args = #[v0, v1, v2] := by cases args; simp_all
  obtain ⟨n, rfl, rfl, rfl, nw⟩ := open_int Try.underlying5 (hval 0 5 v0 rfl rfl) h0
  have nb := bounds_u8 nw
  obtain ⟨nn, rfl⟩ := Int.eq_ofNat_of_zero_le nb.1
  have nu := nb.2
  obtain ⟨aA, an, ac, al, rfl, ae, a63, ain⟩ := open_acts (okWide_slice Try.underlying22 (hval 1 22 v1 rfl rfl)) h1
  obtain ⟨kA, kn, kc, kl, rfl, kin, k64, ke⟩ := open_ints (okWide_slice Try.underlying32 (hval 2 32 v2 rfl rfl)) h2
  obtain ⟨rfl, rfl⟩ := trodVars_none hV
  refine (safe_any nn aA kA an ac kn kc al kl W (by omega) a63 ain kin k64).mono fun e W' ⟨he, hg⟩ => ?_
  subst he
  exact ⟨_, rfl, law_done (by kernel_rfl) rfl hW0 rfl (by rw [Try.params4]; decide +kernel) hg⟩

theorem diskSafe_over : Rows.diskSafeRow.holds Try.pinned (OpenSpec.ofChange Rows.diskSafeSpec) :=
  OpenClaim.holds_of_wide 4 Try.f4 rfl rfl rfl rfl rfl rfl rfl ⟨rfl, rfl, rfl, rfl, rfl⟩ rfl rfl rfl rfl rfl (by kernel_rfl) Try.func4 (by kernel_rfl)
    (of_decide_eq_true (by kernel_rfl)) (by unfold Func.isWrapper; first | (rw [if_pos (by decide +kernel)]; kernel_rfl) | (rw [if_neg (by decide +kernel)]; exact ⟨rfl, rfl⟩))
    (fun os started H enc _ => diskSafe_lifted os started H enc)

/-- The statement. -/
theorem diskSafe_holds : Rows.DiskSafeSaid := diskSafe_over
#print axioms diskSafe_holds
end Go.Proofs.Ytdagdmfockibfaa
