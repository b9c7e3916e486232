/- The filter of any text, or that it is none: FlangParses's statement holds (its row lists package variables as the program's text lays them: of these the proof reads the powers of ten, ErrSyntax and ErrRange). -/
import Derived.Test.YtabnfaonlkipbaaGreatDoorCom17
import Derived.Test.YtabnfaonlkipbaaGreatDoorCom27
import Derived.Test.YtabnfaonlkipbaaGreatDoorTie
import Derived.Test.YtabnfaonlkipbaaGreatDoorCards
import Derived.SevenTiedAt
import Derived.Lay
import Derived.LaidMore
namespace Go.Proofs.YtabnfaonlkipbaaGreatDoor
open Go.RowKit

open Go.ChangeShapes Go.WideShapes Go.ChangeAt
open Go.ChangeMaps (open_string shut_string)

set_option maxRecDepth 100000 in
theorem flangParses_lifted (os : Os) (started : os.Started) (H : Type) (enc : TypeId × Value → H) :
    ReturnsInHanded {} Tryz.checked os 4 .any (fun w args => (Rows.flangParsesSpec.pre enc Tryz.prog Tryz.f4 Rows.flangParsesRow.domain false w args ∧ laidMetH Tryz.prog Rows.flangParsesRow.laid w) ∧ sizedMet enc Tryz.prog Tryz.f4 (OpenSpec.ofChange Rows.flangParsesSpec) false w args) (Rows.flangParsesSpec.post enc Tryz.prog Tryz.f4 false true false false) := by
  refine flg_returns (C := Tryz.checked) (X := fun w _ => laidMetH Tryz.prog Rows.flangParsesRow.laid w) (fun _ _ _ hh h => h.of_heap hh) own started (by kernel_rfl) Tryz.func4
    (ChangeSpec.witness_shaped (enc := enc) (C := Tryz.checked) (os := os) (X := fun w _ => laidMetH Tryz.prog Rows.flangParsesRow.laid w) false (World.laidAll Tryz.prog os Rows.flangParsesRow.laid) #[.string ⟨#[]⟩] 8 rfl (World.shaped_of_ZipB (by kernel_rfl) (by kernel_rfl)) (by kernel_rfl) (by kernel_rfl) (by kernel_rfl)
      (by rw [MakeChecks.laidMetH_plain _ _ _ (by kernel_rfl)]; exact laidMet_laidAll _ (by kernel_rfl) (by kernel_rfl))) ?_
  intro W base args ds gs before hval0 hW hsz hL hsh
  have hTb : Flg.Tabs W := by
    have hM : laidMet Tryz.prog Rows.flangParsesRow.laid W := by rw [← MakeChecks.laidMetH_plain _ _ _ (by kernel_rfl)]; exact hL
    have hE : ([("math/bits.deBruijn32tab", Rows.laid_math_bits_deBruijn32tab), ("math/bits.deBruijn64tab", Rows.laid_math_bits_deBruijn64tab), ("internal/strconv.uint64pow10", Lib.tabData .u64 Lib.pow10Tab), ("unicode/utf8.acceptRanges", Rows.laid_unicode_utf8_acceptRanges), ("strconv.ErrRange", Flg.outData), ("strconv.ErrSyntax", Flg.badData), ("unicode/utf8.first", Rows.laid_unicode_utf8_first)] : List (String × DataW Unit)) = Rows.flangParsesRow.laid := by kernel_rfl
    have hM2 : laidMet Tryz.prog [("math/bits.deBruijn32tab", Rows.laid_math_bits_deBruijn32tab), ("math/bits.deBruijn64tab", Rows.laid_math_bits_deBruijn64tab), ("internal/strconv.uint64pow10", Lib.tabData .u64 Lib.pow10Tab), ("unicode/utf8.acceptRanges", Rows.laid_unicode_utf8_acceptRanges), ("strconv.ErrRange", Flg.outData), ("strconv.ErrSyntax", Flg.badData), ("unicode/utf8.first", Rows.laid_unicode_utf8_first)] W := by rw [hE]; exact hM
    exact flg_tabs hM2.tail.tail hM2.tail.tail.tail.tail hM2.tail.tail.tail.tail.tail hsh
  have hval : ∀ (j : Nat) t v, Tryz.f4.params[j]? = some t → args[j]? = some v → Value.okWide Tryz.prog W .any base t v := hval0
  have hW0 := hW
  obtain ⟨p, q, hA0, hV, _, _, _⟩ := hW
  have hA : DataW.TrodAll enc Tryz.prog W 0 (fun _ => true) true Tryz.f4.params.toList args.toList ds p := hA0
  rw [Tryz.params4] at hA hval hsz
  obtain ⟨v0, vs0, d0, ds0, p0, q0, hargs, rfl, rfl, h0, r0⟩ := trodAll_cons hA
  obtain ⟨rfl, rfl, rfl⟩ := trodAll_nil r0
  obtain rfl : args = #[v0] := by cases args; simp_all
  obtain ⟨s, rfl, rfl, rfl, s0⟩ := open_string Tryz.underlying9 (hval 0 9 v0 rfl rfl) h0
  have s63 : s.data.toList.length ≤ 9223372036854775807 := by rw [← Lib.size_eq]; unfold maxLen at s0; omega
  rw [← mk_of s]
  obtain ⟨rfl, rfl⟩ := trodVars_none hV
  refine (fparses_walk flang_ok hTb s63).mono fun e W' ⟨he, hg⟩ => ?_
  subst he
  exact ⟨_, rfl, law_done (by kernel_rfl) rfl hW0 rfl (by rw [Tryz.params4]; decide +kernel) hg⟩

set_option maxRecDepth 100000 in
theorem flangParses_over : Rows.flangParsesRow.holds Tryz.pinned (OpenSpec.ofChange Rows.flangParsesSpec) :=
  OpenClaim.holds_of_wide 4 Tryz.f4 rfl rfl rfl rfl rfl rfl rfl ⟨rfl, rfl, rfl, rfl, rfl⟩ rfl rfl rfl rfl rfl (by kernel_rfl) Tryz.func4 (by kernel_rfl)
    (of_decide_eq_true (by kernel_rfl)) (by unfold Func.isWrapper; first | (rw [if_pos (by decide +kernel)]; kernel_rfl) | (rw [if_neg (by decide +kernel)]; exact ⟨rfl, rfl⟩))
    (fun os started H enc _ => flangParses_lifted os started H enc)

set_option maxRecDepth 100000 in
/-- The statement: the card, tied to the program's text. -/
theorem flangParses_holds : Rows.FlangParsesCardSaid :=
  Claim7.holds_tied_plain_at .later [] [.data, .data, .data, .data, .sentinel, .sentinel, .pinned] true (true, "2671c26b3ad06fa5a849b7ed1bf9bfb42bf73980b98a4111658e8d5d79c293b3") true
    flangParses_over (fun _ h => by cases h) (by kernel_rfl) (fun _ h => by cases h) flangParses_row_tie rfl ⟨rfl, rfl⟩ (by kernel_rfl) rfl
    (fun f fn hf hfn => by
      obtain rfl : f = 4 := Option.some.inj ((show Tryz.prog.funcNamed "lighterage/lighteragelaw11.FlangParses" = some 4 by kernel_rfl).symm.trans hf) |>.symm
      obtain rfl : fn = Tryz.f4 := (Option.some.inj (Tryz.func4.symm.trans hfn)).symm
      exact ⟨by kernel_rfl, fun j t ht => by
        rw [Tryz.params4] at ht
        have hm : t ∈ [9] := by simpa using Array.mem_of_getElem? ht
        have hall : ([9].all fun u => !Tryz.prog.wantsStandIn u) = true := by kernel_rfl
        exact (show Tryz.prog.wantsStandIn t = false by simpa using List.all_eq_true.1 hall t hm)⟩)
    (by kernel_rfl)
#print axioms flangParses_holds
end Go.Proofs.YtabnfaonlkipbaaGreatDoor
