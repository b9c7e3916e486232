/- What was laid is read as it was, whatever stands behind it, and what is a number stands in one way alone: LebBack's statement holds, for every list of fields and all bytes. -/
import Derived.Test.YtnjmdbgpabekaaaBackFew
import Derived.Test.YtnjmdbgpabekaaaBackMany
import Derived.Test.YtnjmdbgpabekaaaOpen
namespace Go.Proofs.Ytnjmdbgpabekaaa
open Go.RowKit

theorem back_walk {w : World} {A : Option Addr} {len cap : Nat} {all : List Fl} {s : ByteArray} (hin : FieldsIn w A len all) (hlc : len ≤ cap) (hl63 : len ≤ 9223372036854775807) (hs : s.size ≤ 140737488351232) :
    Calls Try.prog 5 #[.slice A len cap, .string s] w fun e w' => e = .returned (.bool true) ∧ Below w.heap.size w w' := by
  by_cases h : 40 < len
  · by_cases hok : (layOf (all.take 40)).2 = 0
    · exact back_many_ok hin hlc (by omega) hs h hok
    · exact back_many_bad hin hlc (by omega) hs h hok
  · by_cases hok : (layOf all).2 = 0
    · exact back_few_ok hin (by omega) hs h hok
    · exact back_few_bad hin (by omega) hs h hok

open Go.ChangeShapes Go.WideShapes Go.ChangeAt
open Go.ChangeMaps (open_string shut_string)

set_option maxRecDepth 100000 in
theorem lebBack_lifted (os : Os) (started : os.Started) (H : Type) (enc : TypeId × Value → H) :
    ReturnsInHanded {} Try.checked os 5 .any (Rows.lebBackSpec.pre6 enc Try.prog Try.f5 Rows.lebBackRow.domain false) (Rows.lebBackSpec.post enc Try.prog Try.f5 false true false false) := by
  refine returnsInHanded_of_change_sized (C := Try.checked) own started (by kernel_rfl) Try.func5
    (ChangeSpec.witness6 (enc := enc) (C := Try.checked) false ⟨#[], #[.slice none 0 0, .string ⟨#[]⟩], []⟩ 8 (by kernel_rfl) (by kernel_rfl) (by kernel_rfl) (by kernel_rfl)) ?_
  intro W base args ds gs before hval0 hW _ hsz _
  have hval : ∀ (j : Nat) t v, Try.f5.params[j]? = some t → args[j]? = some v → Value.okWide Try.prog W .any base t v := hval0
  have hW0 := hW
  obtain ⟨p, q, hA0, hV, _, _, _⟩ := hW
  have hA : DataW.TrodAll enc Try.prog W 0 (fun _ => true) true Try.f5.params.toList args.toList ds p := hA0
  rw [Try.params5] at hA hval hsz
  obtain ⟨v0, vs0, d0, ds0, p0, q0, hargs, rfl, rfl, h0, r0⟩ := trodAll_cons hA
  obtain ⟨v1, vs1, d1, ds1, p1, q1, rfl, rfl, rfl, h1, r1⟩ := trodAll_cons r0
  obtain ⟨rfl, rfl, rfl⟩ := trodAll_nil r1
  obtain rfl : args = #[v0, v1] := by cases args; simp_all
  obtain ⟨A, len, cap, fs, rfl, hlc, hl63, hin⟩ := open_fields (okWide_slice Try.underlying22 (hval 0 22 v0 rfl rfl)) h0
  obtain ⟨s, rfl, rfl, rfl, hs0⟩ := open_string Try.underlying9 (hval 1 9 v1 rfl rfl) h1
  have hsb := sized_string (j := 1) (t := 9) (bytes := s.data.toList) hsz rfl rfl
  have hss : s.size ≤ 140737488351232 := by
    rw [Lib.size_eq]
    have : reachBytes = 140737488351232 := by decide
    omega
  obtain ⟨rfl, rfl⟩ := trodVars_none hV
  refine (back_walk hin hlc hl63 hss).mono fun e W' ⟨he, hg⟩ => ?_
  subst he
  exact ⟨_, rfl, law_done (by kernel_rfl) rfl hW0 rfl (by rw [Try.params5]; decide +kernel) hg⟩

theorem lebBack_over : Rows.lebBackRow.holds Try.pinned (OpenSpec.ofChange Rows.lebBackSpec) :=
  OpenClaim.holds_of_wide 5 Try.f5 rfl rfl rfl rfl rfl rfl rfl ⟨rfl, rfl, rfl, rfl, rfl⟩ rfl rfl rfl rfl rfl (by kernel_rfl) Try.func5 (by kernel_rfl)
    (of_decide_eq_true (by kernel_rfl)) (by unfold Func.isWrapper; first | (rw [if_pos (by decide +kernel)]; kernel_rfl) | (rw [if_neg (by decide +kernel)]; exact ⟨rfl, rfl⟩))
    (fun os started H enc _ => lebBack_lifted os started H enc)

/-- The statement. -/
theorem lebBack_holds : Rows.LebBackSaid := lebBack_over
#print axioms lebBack_holds
end Go.Proofs.Ytnjmdbgpabekaaa
