/- Of texts that differ in one bit alone the sums differ: CrcTurn's statement holds. -/
import Derived.Test.YtdepbgmhpfifmaaCrcTurn
import Derived.Test.YtdepbgmhpfifmaaCrcPkg
namespace Go.Proofs.Ytdepbgmhpfifmaa
open Go.RowKit

theorem turn_walk (s : ByteArray) (n bit : Nat) (w : World) (hn : n < 65536) (hbit : bit < 256) :
    Calls Try.prog 5 #[.string s, .int .u16 n, .int .u8 bit] w fun e w' => e = .returned (.bool true) ∧ Below w.heap.size w w' := by
  by_cases h0 : s.size = 0
  · exact turn_none crc_ok s n bit w h0
  · by_cases h : 4000 < s.size
    · exact turn_long crc_ok s n bit w h
    · exact turn_few crc_ok s n bit w h0 (by omega) hn hbit

open Go.ChangeShapes Go.WideShapes Go.ChangeAt
open Go.ChangeMaps (open_string shut_string)

set_option maxRecDepth 100000 in
theorem crcTurn_lifted (os : Os) (started : os.Started) (H : Type) (enc : TypeId × Value → H) :
    ReturnsInHanded {} Try.checked os 5 .any (Rows.crcTurnSpec.pre6 enc Try.prog Try.f5 Rows.crcTurnRow.domain false) (Rows.crcTurnSpec.post enc Try.prog Try.f5 false true false false) := by
  refine returnsInHanded_of_change_sized (C := Try.checked) own started (by kernel_rfl) Try.func5
    (ChangeSpec.witness6 (enc := enc) (C := Try.checked) false ⟨#[], #[.string ⟨#[]⟩, .int .u16 0, .int .u8 0], []⟩ 8 (by kernel_rfl) (by kernel_rfl) (by kernel_rfl) (by kernel_rfl)) ?_
  intro W base args ds gs before hval0 hW _ hsz _
  have hval : ∀ (j : Nat) t v, Try.f5.params[j]? = some t → args[j]? = some v → Value.okWide Try.prog W .any base t v := hval0
  have hW0 := hW
  obtain ⟨p, q, hA0, hV, _, _, _⟩ := hW
  have hA : DataW.TrodAll enc Try.prog W 0 (fun _ => true) true Try.f5.params.toList args.toList ds p := hA0
  rw [Try.params5] at hA hval hsz
  obtain ⟨v0, vs0, d0, ds0, p0, q0, hargs, rfl, rfl, h0, r0⟩ := trodAll_cons hA
  obtain ⟨v1, vs1, d1, ds1, p1, q1, rfl, rfl, rfl, h1, r1⟩ := trodAll_cons r0
  obtain ⟨v2, vs2, d2, ds2, p2, q2, rfl, rfl, rfl, h2, r2⟩ := trodAll_cons r1
  obtain ⟨rfl, rfl, rfl⟩ := trodAll_nil r2
  obtain rfl : args = #[v0, v1, v2] := by cases args; simp_all
  obtain ⟨s, rfl, rfl, rfl, s0⟩ := open_string Try.underlying9 (hval 0 9 v0 rfl rfl) h0
  have sb := sized_string (j := 0) (t := 9) (bytes := s.data.toList) hsz rfl rfl
  have ss : s.size ≤ 140737488351232 := by
    rw [Lib.size_eq]
    have : reachBytes = 140737488351232 := by decide
    omega
  obtain ⟨n, rfl, rfl, rfl, nw⟩ := open_int Try.underlying31 (hval 1 31 v1 rfl rfl) h1
  have nb := bounds_u16 nw
  obtain ⟨nn, rfl⟩ := Int.eq_ofNat_of_zero_le nb.1
  have nu := nb.2
  obtain ⟨b, rfl, rfl, rfl, bw⟩ := open_int Try.underlying5 (hval 2 5 v2 rfl rfl) h2
  have bb := bounds_u8 bw
  obtain ⟨bn, rfl⟩ := Int.eq_ofNat_of_zero_le bb.1
  have bu := bb.2
  obtain ⟨rfl, rfl⟩ := trodVars_none hV
  refine (turn_walk s nn bn W (by omega) (by omega)).mono fun e W' ⟨he, hg⟩ => ?_
  subst he
  exact ⟨_, rfl, law_done (by kernel_rfl) rfl hW0 rfl (by rw [Try.params5]; decide +kernel) hg⟩

theorem crcTurn_over : Rows.crcTurnRow.holds Try.pinned (OpenSpec.ofChange Rows.crcTurnSpec) :=
  OpenClaim.holds_of_wide 5 Try.f5 rfl rfl rfl rfl rfl rfl rfl ⟨rfl, rfl, rfl, rfl, rfl⟩ rfl rfl rfl rfl rfl (by kernel_rfl) Try.func5 (by kernel_rfl)
    (of_decide_eq_true (by kernel_rfl)) (by unfold Func.isWrapper; first | (rw [if_pos (by decide +kernel)]; kernel_rfl) | (rw [if_neg (by decide +kernel)]; exact ⟨rfl, rfl⟩))
    (fun os started H enc _ => crcTurn_lifted os started H enc)

/-- The statement. -/
theorem crcTurn_holds : Rows.CrcTurnSaid := crcTurn_over
#print axioms crcTurn_holds
end Go.Proofs.Ytdepbgmhpfifmaa
