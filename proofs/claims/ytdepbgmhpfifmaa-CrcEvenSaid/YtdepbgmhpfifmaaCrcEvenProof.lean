/- The sums of three texts of one length and of their sum: CrcEven's statement holds. -/
import Derived.Test.YtdepbgmhpfifmaaCrcEven
import Derived.Test.YtdepbgmhpfifmaaCrcPkg
namespace Go.Proofs.Ytdepbgmhpfifmaa
open Go.RowKit

open Go.ChangeShapes Go.WideShapes Go.ChangeAt
open Go.ChangeMaps (open_string shut_string)

set_option maxRecDepth 100000 in
theorem crcEven_lifted (os : Os) (started : os.Started) (H : Type) (enc : TypeId × Value → H) :
    ReturnsInHanded {} Try.checked os 4 .any (Rows.crcEvenSpec.pre6 enc Try.prog Try.f4 Rows.crcEvenRow.domain false) (Rows.crcEvenSpec.post enc Try.prog Try.f4 false true false false) := by
  refine returnsInHanded_of_change_sized (C := Try.checked) own started (by kernel_rfl) Try.func4
    (ChangeSpec.witness6 (enc := enc) (C := Try.checked) false ⟨#[], #[.string ⟨#[]⟩, .string ⟨#[]⟩, .string ⟨#[]⟩], []⟩ 8 (by kernel_rfl) (by kernel_rfl) (by kernel_rfl) (by kernel_rfl)) ?_
  intro W base args ds gs before hval0 hW _ hsz _
  have hval : ∀ (j : Nat) t v, Try.f4.params[j]? = some t → args[j]? = some v → Value.okWide Try.prog W .any base t v := hval0
  have hW0 := hW
  obtain ⟨p, q, hA0, hV, _, _, _⟩ := hW
  have hA : DataW.TrodAll enc Try.prog W 0 (fun _ => true) true Try.f4.params.toList args.toList ds p := hA0
  rw [Try.params4] at hA hval hsz
  obtain ⟨v0, vs0, d0, ds0, p0, q0, hargs, rfl, rfl, h0, r0⟩ := trodAll_cons hA
  obtain ⟨v1, vs1, d1, ds1, p1, q1, rfl, rfl, rfl, h1, r1⟩ := trodAll_cons r0
  obtain ⟨v2, vs2, d2, ds2, p2, q2, rfl, rfl, rfl, h2, r2⟩ := trodAll_cons r1
  obtain ⟨rfl, rfl, rfl⟩ := trodAll_nil r2
  obtain rfl : args = #[v0, v1, v2] := by cases args; simp_all
  obtain ⟨s, rfl, rfl, rfl, s0⟩ := open_string Try.underlying9 (hval 0 9 v0 rfl rfl) h0
  have sb := sized_string (j := 0) (t := 9) (bytes := s.data.toList) hsz rfl rfl
  have ss : s.size ≤ 140737488351232 := by
    rw [Lib.size_eq]
    have : reachBytes = 140737488351232 := by decide
    omega
  obtain ⟨g, rfl, rfl, rfl, g0⟩ := open_string Try.underlying9 (hval 1 9 v1 rfl rfl) h1
  have gb := sized_string (j := 1) (t := 9) (bytes := g.data.toList) hsz rfl rfl
  have gs : g.size ≤ 140737488351232 := by
    rw [Lib.size_eq]
    have : reachBytes = 140737488351232 := by decide
    omega
  obtain ⟨u, rfl, rfl, rfl, u0⟩ := open_string Try.underlying9 (hval 2 9 v2 rfl rfl) h2
  have ub := sized_string (j := 2) (t := 9) (bytes := u.data.toList) hsz rfl rfl
  have us : u.size ≤ 140737488351232 := by
    rw [Lib.size_eq]
    have : reachBytes = 140737488351232 := by decide
    omega
  obtain ⟨rfl, rfl⟩ := trodVars_none hV
  refine (even_walk crc_ok s g u W ss).mono fun e W' ⟨he, hg⟩ => ?_
  subst he
  exact ⟨_, rfl, law_done (by kernel_rfl) rfl hW0 rfl (by rw [Try.params4]; decide +kernel) hg⟩

theorem crcEven_over : Rows.crcEvenRow.holds Try.pinned (OpenSpec.ofChange Rows.crcEvenSpec) :=
  OpenClaim.holds_of_wide 4 Try.f4 rfl rfl rfl rfl rfl rfl rfl ⟨rfl, rfl, rfl, rfl, rfl⟩ rfl rfl rfl rfl rfl (by kernel_rfl) Try.func4 (by kernel_rfl)
    (of_decide_eq_true (by kernel_rfl)) (by unfold Func.isWrapper; first | (rw [if_pos (by decide +kernel)]; kernel_rfl) | (rw [if_neg (by decide +kernel)]; exact ⟨rfl, rfl⟩))
    (fun os started H enc _ => crcEven_lifted os started H enc)

/-- The statement. -/
theorem crcEven_holds : Rows.CrcEvenSaid := crcEven_over
#print axioms crcEven_holds
end Go.Proofs.Ytdepbgmhpfifmaa
