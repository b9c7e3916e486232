/- Where there is no journal: JournalNone's statement holds. -/
import Derived.Test.YtcgplonnhginiaaCom9
import Derived.Test.YtcgplonnhginiaaCom10
import Derived.Test.YtcgplonnhginiaaCom33
/- Where there is no journal: the law's walk. -/
set_option linter.unusedSimpArgs false
set_option linter.unusedVariables false
namespace Go.Proofs.Ytcgplonnhginiaa
open Go.RowKit Dsk Jnl

/-- Two disks of the call's own. -/
structure Two (At : World → (Nat → Prop) → Value → D → Prop) (W : World) (v1 v2 : Value) (d1 d2 : D) (w : World) : Prop where
  out : ∃ F1 F2, At w F1 v1 d1 ∧ At w F2 v2 d2 ∧ (∀ i, F1 i → ¬ F2 i) ∧ (∀ i, F1 i → W.heap.size ≤ i) ∧ ∀ i, F2 i → W.heap.size ≤ i
  bel : Below W.heap.size W w

section
variable {At : World → (Nat → Prop) → Value → D → Prop} {Own : World → (Nat → Prop) → Value → Value → Nat → J → Prop} {W w w' : World} {v1 v2 : Value} {d1 d2 d' : D}

set_option maxRecDepth 100000 in
theorem Two.swap (h : Two At W v1 v2 d1 d2 w) : Two At W v2 v1 d2 d1 w := by
  obtain ⟨⟨F1, F2, h1, h2, h3, h4, h5⟩, h6⟩ := h
  exact ⟨⟨F2, F1, h2, h1, fun i a b => h3 i b a, h5, h4⟩, h6⟩

set_option maxRecDepth 100000 in
theorem Two.call (U : DiskUse At) {fn : Nat} {args : Array Value} {P : Ending → Prop} (h : Two At W v1 v2 d1 d2 w) (hc : ∀ F, At w F v1 d1 → Calls Try.prog fn args w fun e w' => P e ∧ Doing At w F v1 d' w') :
    Calls Try.prog fn args w fun e w' => P e ∧ Two At W v1 v2 d' d2 w' := by
  obtain ⟨⟨F1, F2, h1, h2, h3, h4, h5⟩, h6⟩ := h
  have hlt := U.lt h2
  refine (hc F1 h1).mono fun e w' ⟨k1, k3, k2⟩ => ⟨k1, ⟨Grow F1 w w', F2, k3, U.kept h2 k2 (fun i hi hf => h3 i hf hi), fun i hi hf => ?_, fun i hi => ?_, h5⟩, below_kept h6 k2 h4⟩
  · rcases hi with hi | hi
    · exact h3 i hi hf
    · have := hlt i hf; omega
  · rcases hi with hi | hi
    · exact h4 i hi
    · exact Nat.le_trans h6.size hi.1

set_option maxRecDepth 100000 in
theorem Two.below (U : DiskUse At) (h : Two At W v1 v2 d1 d2 w) (k : Below w.heap.size w w') : Two At W v1 v2 d1 d2 w' := by
  obtain ⟨⟨F1, F2, h1, h2, h3, h4, h5⟩, h6⟩ := h
  have kb := Kept.ofBelow k (fun _ => False)
  exact ⟨⟨F1, F2, U.kept h1 kb (fun _ _ h => h), U.kept h2 kb (fun _ _ h => h), h3, h4, h5⟩, h6.trans (k.mono h6.size)⟩

set_option maxRecDepth 100000 in
theorem Two.made (U : DiskUse At) (h : Dw At W (fun _ => False) v1 d1 w) (hn : At w' (Newly w w') v2 d2) (k : Below w.heap.size w w') : Two At W v1 v2 d1 d2 w' := by
  obtain ⟨⟨F, h1, h4⟩, h6, -⟩ := h
  have hlt := U.lt h1
  exact ⟨⟨F, Newly w w', U.kept h1 (Kept.ofBelow k (fun _ => False)) (fun _ _ h => h), hn, fun i hi hf => by have := hlt i hi; have := hf.1; omega, fun i hi => (h4 i hi).1, fun i hi => Nat.le_trans h6.size hi.1⟩, h6.trans (k.mono h6.size)⟩

set_option maxRecDepth 100000 in
theorem opens_new : Jnl.opens 9 (Jnl.now (Dsk.new 9)) = (8, none, []) := by
  have e : ∀ k, k < 9 → Jnl.now (Dsk.new 9) k = fill (text []) := fun k hk => new_last 9 k hk
  unfold Jnl.opens Jnl.cur
  rw [e 0 (by decide), e 1 (by decide), zeros_none]

set_option maxRecDepth 100000 in
theorem none_calls (U : DiskUse At) (H : JournalOk At Own) (w : World) : Calls Try.prog 7 #[.int .i64 (3 : Int)] w fun e w' => ∃ p, e = .returned (.tuple #[.pointer (some p), .int .i64 0]) ∧ Dw At w (fun _ => False) (.pointer (some p)) (Dsk.new 3) w' := dw_new U 3 w (by decide) (by decide)

set_option maxRecDepth 100000 in
set_option maxHeartbeats 3200000 in
theorem none_walk (U : DiskUse At) (H : JournalOk At Own) (s : ByteArray) (w : World) (hs : s.size ≤ 9223372036854775807) : Calls Try.prog 6 #[.string s] w fun e w' => e = .returned (.bool true) ∧ Below w.heap.size w w' := by
  have C0 := Lib.hid (dw_new U 3 w (by decide) (by decide))
  have C1 : Hid (∀ W p, Dw At w (fun _ => False) (.pointer (some p)) (Dsk.new 3) W → Calls Try.prog 7 #[.int .i64 9] W fun e w' => ∃ q, e = .returned (.tuple #[.pointer (some q), .int .i64 0]) ∧ Two At w (.pointer (some p)) (.pointer (some q)) (Dsk.new 3) (Dsk.new 9) w') := Lib.hid (fun W p h => by
    refine (U.new_ok 9 W (by decide) (by decide)).mono ?_
    rintro e w' ⟨v, rfl, h3, h4⟩
    obtain ⟨q, rfl⟩ := U.ptr h3
    exact ⟨q, rfl, Two.made U h h3 h4⟩)
  have C2 : Hid (∀ W, Calls Try.prog 10 #[.pointer none] W fun e w' => ∃ A c, e = .returned (.tuple #[.pointer none, .slice A 0 c, .int .i64 1]) ∧ Below W.heap.size W w') := Lib.hid (fun W => H.open_none W)
  have C3 : Hid (∀ W p q, Two At w (.pointer (some p)) (.pointer (some q)) (Dsk.new 3) (Dsk.new 9) W → Calls Try.prog 10 #[.pointer (some p)] W fun e w' => (∃ A c, e = .returned (.tuple #[.pointer none, .slice A 0 c, .int .i64 2])) ∧ Two At w (.pointer (some p)) (.pointer (some q)) (Dsk.new 3) (Dsk.new 9) w') := Lib.hid (fun W p q h =>
    h.call U (fun F hF => (H.open_few hF (new_fine 3 (by decide)) (by decide) (by decide)).mono (fun e w' ⟨A, c, he, hd⟩ => ⟨⟨A, c, he⟩, hd⟩)))
  have C4 : Hid (∀ W p q, Two At w (.pointer (some p)) (.pointer (some q)) (Dsk.new 3) (Dsk.new 9) W → Calls Try.prog 10 #[.pointer (some q)] W fun e w' => (∃ A c, e = .returned (.tuple #[.pointer none, .slice A 0 c, .int .i64 8])) ∧ Two At w (.pointer (some p)) (.pointer (some q)) (Dsk.new 3) (Dsk.new 9) w') := Lib.hid (fun W p q h => by
    have hsd : Sound 9 (Dsk.new 9) 0 := ⟨shape_new 9, new_fine 9 (by decide), by decide, fun k hk => by unfold Jnl.now; rw [new_last 9 k hk]; exact fill_full _ (by decide)⟩
    exact (h.swap.call U (fun F hF => (H.refused hF hsd (by decide) rfl opens_new).mono (fun e w' ⟨A, c, he, hd⟩ => ⟨⟨A, c, he⟩, hd⟩))).mono (fun e w' ⟨k1, k2⟩ => ⟨k1, k2.swap⟩))
  have C5 : Hid (∀ W p q, Two At w (.pointer (some p)) (.pointer (some q)) (Dsk.new 3) (Dsk.new 9) W → Calls Try.prog 8 #[.pointer (some p)] W fun e w' => e = .returned (.int .i64 2) ∧ Two At w (.pointer (some p)) (.pointer (some q)) (Dsk.new 3) (Dsk.new 9) w') := Lib.hid (fun W p q h =>
    h.call U (fun F hF => H.format_few hF (new_fine 3 (by decide)) (by decide) (by decide)))
  have C6 := Lib.hid (fun W => H.format_none W)
  have Caw := Lib.hid (fun W => jnl_awake U H W)
  have Cap := Lib.hid (fun W lv => H.none_append W lv)
  have Crw := Lib.hid (fun W lv => H.none_rewrite W lv)
  have Cro := Lib.hid (fun W => H.none_room W)
  have Cus := Lib.hid (fun W => H.none_used W)
  have Cse := Lib.hid (fun W => H.none_seq W)
  have Cbr := Lib.hid (fun W => H.none_broken W)
  have Tb : Hid (∀ W W' p q, Two At w (.pointer (some p)) (.pointer (some q)) (Dsk.new 3) (Dsk.new 9) W → Below W.heap.size W W' → Two At w (.pointer (some p)) (.pointer (some q)) (Dsk.new 3) (Dsk.new 9) W') := Lib.hid (fun W W' p q h k => h.below U k)
  by_cases hl : 100 < s.size
  · have hb : decide ((s.size : Int) > 100) = true := by simp; omega
    clear hl
    go_enter Try.func6, Try.ntmps6
    go_wp2_with fail
    refine C0.out.mono ?_
    rintro e w1 ⟨p, rfl, h1⟩
    have H1 := Lib.hid h1
    clear h1
    go_wp2_with fail
    refine (C1.out _ _ H1.out).mono ?_
    rintro e w2 ⟨q, rfl, h2⟩
    have H2 := Lib.hid h2
    clear h2
    go_wp2_with fail
    refine (Caw.out _).mono ?_
    rintro e w3 ⟨rfl, h3⟩
    have H3 := Lib.hid (H2.out.bel.trans (h3.mono H2.out.bel.size))
    clear h3
    go_wp2_with fail
    go_ret
    exact ⟨rfl, H3.out⟩
  · have hb : decide ((s.size : Int) > 100) = false := by simp; omega
    clear hl
    go_enter Try.func6, Try.ntmps6
    go_wp2_with fail
    refine C0.out.mono ?_
    rintro e w1 ⟨p, rfl, h1⟩
    have H1 := Lib.hid h1
    clear h1
    go_wp2_with fail
    refine (C1.out _ _ H1.out).mono ?_
    rintro e w2 ⟨q, rfl, h2⟩
    have H2 := Lib.hid h2
    clear h2
    go_wp2_with fail
    refine (C2.out _).mono ?_
    rintro e w3 ⟨A3, c3, rfl, h3⟩
    have H3 := Lib.hid (Tb.out _ _ _ _ H2.out h3)
    clear h3
    go_wp2_with fail
    refine (C3.out _ _ _ H3.out).mono ?_
    rintro e w4 ⟨⟨A4, c4, rfl⟩, h4⟩
    have H4 := Lib.hid h4
    clear h4
    go_wp2_with fail
    refine (C4.out _ _ _ H4.out).mono ?_
    rintro e w5 ⟨⟨A5, c5, rfl⟩, h5⟩
    have H5 := Lib.hid h5
    clear h5
    go_wp2_with fail
    refine (Caw.out _).mono ?_
    rintro e w6 ⟨rfl, h6⟩
    have H6 := Lib.hid (Tb.out _ _ _ _ H5.out h6)
    clear h6
    go_wp2_with fail
    refine (C6.out _).mono ?_
    rintro e w7 ⟨rfl, h7⟩
    have H7 := Lib.hid (Tb.out _ _ _ _ H6.out h7)
    clear h7
    go_wp2_with fail
    refine (C5.out _ _ _ H7.out).mono ?_
    rintro e w8 ⟨rfl, h8⟩
    have H8 := Lib.hid h8.bel
    clear h8
    go_wp2_with fail
    refine (Cap.out _ _).mono ?_
    rintro e w9 ⟨rfl, h9⟩
    have H9 := Lib.hid ((H8.out.alloc H8.out.size _).trans (h9.mono (Nat.le_trans H8.out.size (by simp))))
    clear h9
    go_wp2_with fail
    refine (Crw.out _ _).mono ?_
    rintro e wa ⟨rfl, ha⟩
    have Ha := Lib.hid ((H9.out.alloc H9.out.size _).trans (ha.mono (Nat.le_trans H9.out.size (by simp))))
    clear ha
    go_wp2_with fail
    refine (Cro.out _).mono ?_
    rintro e wb ⟨rfl, hb⟩
    have Hb := Lib.hid (Ha.out.trans (hb.mono Ha.out.size))
    clear hb
    go_wp2_with fail
    refine (Cus.out _).mono ?_
    rintro e wc ⟨rfl, hc⟩
    have Hc := Lib.hid (Hb.out.trans (hc.mono Hb.out.size))
    clear hc
    go_wp2_with fail
    refine (Cse.out _).mono ?_
    rintro e wd ⟨rfl, hd⟩
    have Hd := Lib.hid (Hc.out.trans (hd.mono Hc.out.size))
    clear hd
    go_wp2_with fail
    refine (Cbr.out _).mono ?_
    rintro e we ⟨rfl, he⟩
    have He := Lib.hid (Hd.out.trans (he.mono Hd.out.size))
    clear he
    go_wp2_with fail
    go_ret
    exact ⟨rfl, He.out⟩
end
end Go.Proofs.Ytcgplonnhginiaa
namespace Go.Proofs.Ytcgplonnhginiaa
open Go.RowKit

open Go.ChangeShapes Go.WideShapes Go.ChangeAt
open Go.ChangeMaps (open_string shut_string)

set_option maxRecDepth 100000 in
theorem journalNone_lifted (os : Os) (started : os.Started) (H : Type) (enc : TypeId × Value → H) :
    ReturnsInHanded {} Try.checked os 6 .any (Rows.journalNoneSpec.pre6 enc Try.prog Try.f6 Rows.journalNoneRow.domain false) (Rows.journalNoneSpec.post enc Try.prog Try.f6 false true false false) := by
  refine returnsInHanded_of_change_sized (C := Try.checked) own started (by kernel_rfl) Try.func6
    (ChangeSpec.witness6 (enc := enc) (C := Try.checked) false ⟨#[], #[.string ⟨#[]⟩], []⟩ 8 (by kernel_rfl) (by kernel_rfl) (by kernel_rfl) (by kernel_rfl)) ?_
  intro W base args ds gs before hval0 hW _ hsz _
  have hval : ∀ (j : Nat) t v, Try.f6.params[j]? = some t → args[j]? = some v → Value.okWide Try.prog W .any base t v := hval0
  have hW0 := hW
  obtain ⟨p, q, hA0, hV, _, _, _⟩ := hW
  have hA : DataW.TrodAll enc Try.prog W 0 (fun _ => true) true Try.f6.params.toList args.toList ds p := hA0
  rw [Try.params6] at hA hval hsz
  obtain ⟨v0, vs0, d0, ds0, p0, q0, hargs, rfl, rfl, h0, r0⟩ := trodAll_cons hA
  obtain ⟨rfl, rfl, rfl⟩ := trodAll_nil r0
  obtain rfl : args = #[v0] := by cases args; simp_all
  obtain ⟨s, rfl, rfl, rfl, s0⟩ := open_string Try.underlying9 (hval 0 9 v0 rfl rfl) h0
  have s63 : s.size ≤ 9223372036854775807 := by unfold maxLen at s0; omega
  obtain ⟨rfl, rfl⟩ := trodVars_none hV
  refine (none_walk disk_use journal_ok s W s63).mono fun e W' ⟨he, hg⟩ => ?_
  subst he
  exact ⟨_, rfl, law_done (by kernel_rfl) rfl hW0 rfl (by rw [Try.params6]; decide +kernel) hg⟩

set_option maxRecDepth 100000 in
theorem journalNone_over : Rows.journalNoneRow.holds Try.pinned (OpenSpec.ofChange Rows.journalNoneSpec) :=
  OpenClaim.holds_of_wide 6 Try.f6 rfl rfl rfl rfl rfl rfl rfl ⟨rfl, rfl, rfl, rfl, rfl⟩ rfl rfl rfl rfl rfl (by kernel_rfl) Try.func6 (by kernel_rfl)
    (of_decide_eq_true (by kernel_rfl)) (by unfold Func.isWrapper; first | (rw [if_pos (by decide +kernel)]; kernel_rfl) | (rw [if_neg (by decide +kernel)]; exact ⟨rfl, rfl⟩))
    (fun os started H enc _ => journalNone_lifted os started H enc)

set_option maxRecDepth 100000 in
/-- The statement. -/
theorem journalNone_holds : Rows.JournalNoneSaid := journalNone_over
#print axioms journalNone_holds
end Go.Proofs.Ytcgplonnhginiaa
