/- Any filter's text, or what is wrong with it, and what it is parsed as: FlangPrints's statement holds (its row lists package variables as the program's text lays them: of these the proof reads the powers of ten, ErrSyntax and ErrRange). -/
import Derived.Test.YtabnfaonlkipbaaGreatDoorCom17
import Derived.Test.YtabnfaonlkipbaaGreatDoorCom27
import Derived.Test.YtabnfaonlkipbaaGreatDoorTie
import Derived.Test.YtabnfaonlkipbaaGreatDoorCards
import Derived.SevenTiedAt
import Derived.Lay
import Derived.LaidMore
namespace Go.Proofs.YtabnfaonlkipbaaGreatDoor
open Go.RowKit

open Go.ChangeShapes Go.WideShapes Go.ChangeAt
open Go.ChangeMaps (open_string shut_string)

set_option maxRecDepth 100000 in
theorem flangPrints_lifted (os : Os) (started : os.Started) (H : Type) (enc : TypeId × Value → H) :
    ReturnsInHanded {} Tryz.checked os 3 .any (fun w args => (Rows.flangPrintsSpec.pre enc Tryz.prog Tryz.f3 Rows.flangPrintsRow.domain false w args ∧ laidMetH Tryz.prog Rows.flangPrintsRow.laid w) ∧ sizedMet enc Tryz.prog Tryz.f3 (OpenSpec.ofChange Rows.flangPrintsSpec) false w args) (Rows.flangPrintsSpec.post enc Tryz.prog Tryz.f3 false true false false) := by
  refine flg_returns (C := Tryz.checked) (X := fun w _ => laidMetH Tryz.prog Rows.flangPrintsRow.laid w) (fun _ _ _ hh h => h.of_heap hh) own started (by kernel_rfl) Tryz.func3
    (ChangeSpec.witness_shaped (enc := enc) (C := Tryz.checked) (os := os) (X := fun w _ => laidMetH Tryz.prog Rows.flangPrintsRow.laid w) false (World.laidAll Tryz.prog os Rows.flangPrintsRow.laid) #[.slice none 0 0] 8 rfl (World.shaped_of_ZipB (by kernel_rfl) (by kernel_rfl)) (by kernel_rfl) (by kernel_rfl) (by kernel_rfl)
      (by rw [MakeChecks.laidMetH_plain _ _ _ (by kernel_rfl)]; exact laidMet_laidAll _ (by kernel_rfl) (by kernel_rfl))) ?_
  intro W base args ds gs before hval0 hW hsz hL hsh
  have hTb : Flg.Tabs W := by
    have hM : laidMet Tryz.prog Rows.flangPrintsRow.laid W := by rw [← MakeChecks.laidMetH_plain _ _ _ (by kernel_rfl)]; exact hL
    have hE : ([("math/bits.deBruijn32tab", Rows.laid_math_bits_deBruijn32tab), ("math/bits.deBruijn64tab", Rows.laid_math_bits_deBruijn64tab), ("internal/strconv.uint64pow10", Lib.tabData .u64 Lib.pow10Tab), ("unicode/utf8.acceptRanges", Rows.laid_unicode_utf8_acceptRanges), ("strconv.ErrRange", Flg.outData), ("strconv.ErrSyntax", Flg.badData), ("unicode/utf8.first", Rows.laid_unicode_utf8_first)] : List (String × DataW Unit)) = Rows.flangPrintsRow.laid := by kernel_rfl
    have hM2 : laidMet Tryz.prog [("math/bits.deBruijn32tab", Rows.laid_math_bits_deBruijn32tab), ("math/bits.deBruijn64tab", Rows.laid_math_bits_deBruijn64tab), ("internal/strconv.uint64pow10", Lib.tabData .u64 Lib.pow10Tab), ("unicode/utf8.acceptRanges", Rows.laid_unicode_utf8_acceptRanges), ("strconv.ErrRange", Flg.outData), ("strconv.ErrSyntax", Flg.badData), ("unicode/utf8.first", Rows.laid_unicode_utf8_first)] W := by rw [hE]; exact hM
    exact flg_tabs hM2.tail.tail hM2.tail.tail.tail.tail hM2.tail.tail.tail.tail.tail hsh
  have hval : ∀ (j : Nat) t v, Tryz.f3.params[j]? = some t → args[j]? = some v → Value.okWide Tryz.prog W .any base t v := hval0
  have hW0 := hW
  obtain ⟨p, q, hA0, hV, _, _, _⟩ := hW
  have hA : DataW.TrodAll enc Tryz.prog W 0 (fun _ => true) true Tryz.f3.params.toList args.toList ds p := hA0
  rw [Tryz.params3] at hA hval hsz
  obtain ⟨v0, vs0, d0, ds0, p0, q0, hargs, rfl, rfl, h0, r0⟩ := trodAll_cons hA
  obtain ⟨rfl, rfl, rfl⟩ := trodAll_nil r0
  obtain rfl : args = #[v0] := by cases args; simp_all
  obtain ⟨fl, fin, f63, fbd⟩ := open_cll (okWide_slice Tryz.underlying22 (hval 0 22 v0 rfl rfl)) h0
  obtain ⟨rfl, rfl⟩ := trodVars_none hV
  refine (fprints_walk flang_ok filter_ok hTb fin f63 fbd).mono fun e W' ⟨he, hg⟩ => ?_
  subst he
  exact ⟨_, rfl, law_done (by kernel_rfl) rfl hW0 rfl (by rw [Tryz.params3]; decide +kernel) hg⟩

set_option maxRecDepth 100000 in
theorem flangPrints_over : Rows.flangPrintsRow.holds Tryz.pinned (OpenSpec.ofChange Rows.flangPrintsSpec) :=
  OpenClaim.holds_of_wide 3 Tryz.f3 rfl rfl rfl rfl rfl rfl rfl ⟨rfl, rfl, rfl, rfl, rfl⟩ rfl rfl rfl rfl rfl (by kernel_rfl) Tryz.func3 (by kernel_rfl)
    (of_decide_eq_true (by kernel_rfl)) (by unfold Func.isWrapper; first | (rw [if_pos (by decide +kernel)]; kernel_rfl) | (rw [if_neg (by decide +kernel)]; exact ⟨rfl, rfl⟩))
    (fun os started H enc _ => flangPrints_lifted os started H enc)

set_option maxRecDepth 100000 in
/-- The statement: the card, tied to the program's text. -/
theorem flangPrints_holds : Rows.FlangPrintsCardSaid :=
  Claim7.holds_tied_plain_at .later [] [.data, .data, .data, .data, .sentinel, .sentinel, .pinned] true (true, "2671c26b3ad06fa5a849b7ed1bf9bfb42bf73980b98a4111658e8d5d79c293b3") true
    flangPrints_over (fun _ h => by cases h) (by kernel_rfl) (fun _ h => by cases h) flangPrints_row_tie rfl ⟨rfl, rfl⟩ (by kernel_rfl) rfl
    (fun f fn hf hfn => by
      obtain rfl : f = 3 := Option.some.inj ((show Tryz.prog.funcNamed "lighterage/lighteragelaw11.FlangPrints" = some 3 by kernel_rfl).symm.trans hf) |>.symm
      obtain rfl : fn = Tryz.f3 := (Option.some.inj (Tryz.func3.symm.trans hfn)).symm
      exact ⟨by kernel_rfl, fun j t ht => by
        rw [Tryz.params3] at ht
        have hm : t ∈ [22] := by simpa using Array.mem_of_getElem? ht
        have hall : ([22].all fun u => !Tryz.prog.wantsStandIn u) = true := by kernel_rfl
        exact (show Tryz.prog.wantsStandIn t = false by simpa using List.all_eq_true.1 hall t hm)⟩)
    (by kernel_rfl)
#print axioms flangPrints_holds
end Go.Proofs.YtabnfaonlkipbaaGreatDoor
