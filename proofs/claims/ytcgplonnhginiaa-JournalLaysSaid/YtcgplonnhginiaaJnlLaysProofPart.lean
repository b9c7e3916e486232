/- Where records stand: JournalLays's statement holds. -/
import Derived.Test.YtcgplonnhginiaaCom34
import Derived.Test.YtcgplonnhginiaaCom33
import Derived.Test.YtcgplonnhginiaaCom10
/- JournalLays's walk, out of the contracts. -/
set_option linter.unusedSimpArgs false
set_option linter.unusedVariables false
namespace Go.Proofs.Ytcgplonnhginiaa
open Go.RowKit Dsk Jnl
section
variable {At : World → (Nat → Prop) → Value → D → Prop} {Own : World → (Nat → Prop) → Value → Value → Nat → J → Prop}

set_option maxRecDepth 100000 in
theorem half_step (X : Nat → ByteArray) (m : Nat) : mk (halfB X 2 m) ++ X (2 + m) = mk (halfB X 2 (m + 1)) := by
  conv => lhs; rw [← mk_of (X (2 + m))]
  rw [mk_append]; rfl

set_option maxRecDepth 100000 in
theorem empty_eq (b : List UInt8) : ((mk b).toList == ([] : List UInt8)) = decide (b = []) := by
  rw [Lib.toList_data, mk_data]
  by_cases h : b = []
  · rw [decide_eq_true h, h]; rfl
  · rw [decide_eq_false h]; exact beq_eq_false_iff_ne.2 h

set_option maxRecDepth 100000 in
set_option maxHeartbeats 6400000 in
theorem lays_walk (U : DiskUse At) (H : JournalOk At Own) (s : Nat) (lA : Option Addr) (ln lc : Nat) (l : List Ln) (w : World) (hs : s < 256) (hlc : ln ≤ 9223372036854775807) (hl : LinesIn w lA ln l) :
    Calls Try.prog 4 #[.int .u8 (s : Int), .slice lA ln lc] w fun e w' => e = .returned (.bool true) ∧ Below w.heap.size w w' := by
  obtain ⟨hll, hok, hat⟩ := hl
  obtain ⟨n, hn⟩ : ∃ n : Nat, n = s % 40 + 4 := ⟨_, rfl⟩
  have hn4 : 4 ≤ n := by omega
  have hn43 : n ≤ 43 := by omega
  obtain ⟨h, hh⟩ : ∃ h : Nat, h = Jnl.hof n := ⟨_, rfl⟩
  have hh1 : h = (n - 2) / 2 := hh
  have hns : (s : Int) % 40 + 4 = (n : Int) := by omega
  have hnh : ((n : Int) - 2) / 2 = (h : Int) := by omega
  have hh20 : (h : Int) ≤ 20 := by omega
  have hh0 : (1 : Int) ≤ (h : Int) := by omega
  have hnlo : (4 : Int) ≤ (n : Int) := by omega
  have hnhi : (n : Int) ≤ 43 := by omega
  have hsi : (s : Int) < 256 := by omega
  have hlc' : (ln : Int) ≤ 9223372036854775807 := by omega
  have Hh := Lib.hid hh
  have UU := Lib.hid U
  have HH := Lib.hid H
  have Hat := Lib.hid hat
  have Hok := Lib.hid hok
  have Hll := Lib.hid hll
  obtain ⟨f1, l1⟩ := format_new hn4
  have fin1 : (Jnl.format (Dsk.new n)).2.Fine 3 := format_fine (new_fine n (by omega))
  have cal1 : Calm (Jnl.format (Dsk.new n)).2 := calm_format (calm_new n)
  have C0 := Lib.hid (dw_new U n w (by omega) (by omega))
  have Caw := Lib.hid (fun W => jnl_awake U H W)
  have C1 : Hid (∀ W p, Dw At w (fun _ => False) (.pointer (some p)) (Dsk.new n) W → Calls Try.prog 8 #[.pointer (some p)] W fun e w' => e = .returned (.int .i64 0) ∧ Dw At w (fun _ => False) (.pointer (some p)) (Jnl.format (Dsk.new n)).2 w' ∧ SameZ (fun _ => False) W w') := Lib.hid (fun W p h => by
    rw [← f1]
    have hsd : Sound n (Dsk.new n) 0 := ⟨shape_new n, new_fine n (by omega), hn4, fun k hk => by unfold Jnl.now; rw [new_last n k hk]; exact fill_full _ (by decide)⟩
    exact h.call (fun F hF => H.format hF hsd (by decide)))
  have Db : Hid (∀ W W' p, Dw At w (fun _ => False) (.pointer (some p)) (Jnl.format (Dsk.new n)).2 W → Below W.heap.size W W' → Dw At w (fun _ => False) (.pointer (some p)) (Jnl.format (Dsk.new n)).2 W') := Lib.hid (fun W W' p h k => (h.below U k).1)
  have C2 : Hid (∀ W p, Dw At w (fun _ => False) (.pointer (some p)) (Jnl.format (Dsk.new n)).2 W → Calls Try.prog 10 #[.pointer (some p)] W fun e w' => ∃ q lv, e = .returned (.tuple #[.pointer (some q), lv, .int .i64 0]) ∧ LaidJ At Own w (.pointer (some p)) (.pointer (some q)) n 0 (Jnl.format (Dsk.new n)).2 ⟨1, 0, [], false⟩ [] w') := Lib.hid (fun W p h => by
    refine (h.opened U H l1 fin1 (by decide) hn4).mono ?_
    rintro e w' ⟨q, lv, G, rfl, k1, -, -, -⟩
    exact ⟨q, lv, rfl, k1.old U H, l1, cal1, fin1, rfl, by decide, hn4, hn43⟩)
  clear f1 l1 fin1 cal1 hat hok hll U H hn hh hh1
  generalize (Jnl.format (Dsk.new n)).2 = d0 at *
  go_enter Try.func4, Try.ntmps4
  go_wp2_with fail
  refine C0.out.mono ?_
  rintro e w1 ⟨p, rfl, h1⟩
  have H1 := Lib.hid h1
  clear h1
  go_wp2_with fail
  refine (C1.out _ _ H1.out).mono ?_
  rintro e w2 ⟨rfl, h2, -⟩
  have H2 := Lib.hid h2
  clear h2
  go_wp2_with fail
  refine (Caw.out _).mono ?_
  rintro e w3 ⟨rfl, h3⟩
  have H3 := Lib.hid (Db.out _ _ _ H2.out h3)
  clear h3
  go_wp2_with fail
  refine (C2.out _ _ H3.out).mono ?_
  rintro e w4 ⟨q, lv, rfl, h4⟩
  have H4 := Lib.hid h4
  clear h4 H1 H2 H3 C0 C1 C2 Db Caw
  go_wp2_with fail
  go_loopw [12, 13, 14] (fun al sq i wr => ∃ (k : Nat) (d : D) (j : J) (r : List (List UInt8)), k ≤ ln ∧ k ≤ 25 ∧ i = .int .i64 (k : Int) ∧ al = .string (mk j.bytes) ∧ sq = .int .i64 (j.seq : Int) ∧ LaidJ At Own w (.pointer (some p)) (.pointer (some q)) n k d j r wr) (fun _ _ i _ => 25 - (intOf i).toNat)
  case atStart => exact ⟨0, d0, _, [], Nat.zero_le _, by decide, rfl, rfl, rfl, H4.out⟩
  case round =>
    clear H4
    obtain ⟨k, d, j, r, hk, hk25, rfl, rfl, rfl, hla⟩ := hrel
    have Hla := Lib.hid hla
    have hj1 := hla.live.fits
    have hsq := hla.seq
    rw [← Hh.out] at hj1
    have ht1 : ((mk j.bytes).size : Int) ≤ 64 * (h : Int) := by rw [mk_len]; omega
    have hsq1 : (j.seq : Int) ≤ 26 := by omega
    have Hlen : Hid ((mk j.bytes).size = j.bytes.length) := Lib.hid (mk_len _)
    clear hj1 hsq
    by_cases hgo : k < ln ∧ k < 25
    · obtain ⟨hkl, hk2⟩ := hgo
      obtain ⟨b, off, rfl, hb, hcs⟩ := Hat.out (by omega)
      obtain ⟨x, hx⟩ : ∃ x, l[k]? = some x := ⟨_, List.getElem?_eq_getElem (by rw [Hll.out]; exact hkl)⟩
      have hxok := Hok.out x (List.mem_of_getElem? hx)
      have hcw := hcs k x hx
      obtain ⟨xA, xl, xc, a⟩ := x
      have hcells : Cells w (fun i => i < w.heap.size) (.slice xA xl xc) (texts a) := hxok.cells
      have hal : a.length ≤ 9223372036854775807 := hxok.len
      have Hc := Lib.hid hcells
      have hce : wr.cell? ⟨b, off + k, none⟩ = some (.slice xA xl xc) := (hla.jw.bel.cell (p := ⟨b, off + k, none⟩) hb).trans hcw
      have Hcw : Hid (∀ w', Below w.heap.size w w' → w'.cell? ⟨b, off + k, none⟩ = some (.slice xA xl xc)) := Lib.hid (fun w' hb' => (hb'.cell (p := ⟨b, off + k, none⟩) hb).trans hcw)
      have Csl := Lib.hid (slight_any (hcells.below hla.jw.bel) hal)
      have hk0 : (0 : Int) ≤ (k : Int) := by omega
      have hk1 : (k : Int) < (ln : Int) := by omega
      have hk3 : (k : Int) < 25 := by omega
      have Bel := Lib.hid hla.jw.bel
      clear hla hcs hx hxok hcw hcells
      by_cases hsl : Slight a
      · have Csl1 : Hid (Calls Try.prog 11 #[.slice xA xl xc] wr fun e w' => e = .returned (.bool true) ∧ w' = wr) := Lib.hid (by have := Csl.out; rw [decide_eq_true hsl] at this; exact this)
        have hsa : SlightAll a := ⟨hsl.1, hsl.2⟩
        have Hsa := Lib.hid hsa
        have Call := Lib.hid (ref_all (Hc.out.below Bel.out) (by have := hsa.few; omega) (fun t ht => by have := hsa.each t ht; omega))
        have hzs : ((mk (Frm.all a)).size : Int) ≤ 2556 := by rw [mk_len]; have := hsa.all; omega
        have Hz : Hid ((mk (Frm.all a)).size = (Frm.all a).length) := Lib.hid (mk_len _)
        clear hsl hsa Csl
        by_cases hfit : j.bytes.length + (Frm.all a).length ≤ 64 * Jnl.hof n
        · have hg1 : decide (((mk j.bytes).size : Int) + ((mk (Frm.all a)).size : Int) > 64 * (h : Int)) = false := by rw [Hlen.out, Hz.out, Hh.out]; simp; omega
          have Cap : Hid (∀ W, Below wr.heap.size wr W → Calls Try.prog 14 #[.pointer (some q), .slice xA xl xc] W fun e w' => e = .returned (.int .i64 0) ∧ ∃ d', LaidJ At Own w (.pointer (some p)) (.pointer (some q)) n (k + 1) d' ⟨j.seq + (if a = [] then 0 else 1), 0, j.bytes ++ Frm.all a, false⟩ (r ++ a) w') := Lib.hid (fun W hb' => (Hla.out.below UU.out HH.out hb').append UU.out HH.out (by omega) Hc.out Hsa.out hfit)
          clear hfit
          by_cases hemp : a = []
          · have he1 : ((mk (Frm.all a)).toList == ([] : List UInt8)) = true := by rw [empty_eq]; exact decide_eq_true (all_none.2 hemp)
            have he2 : ((mk (Frm.all a)).toList != ([] : List UInt8)) = false := by rw [bne, he1]; rfl
            rw [if_pos hemp] at Cap
            have Cseq : Hid (∀ d' W, LaidJ At Own w (.pointer (some p)) (.pointer (some q)) n (k + 1) d' ⟨j.seq + 0, 0, j.bytes ++ Frm.all a, false⟩ (r ++ a) W → Calls Try.prog 19 #[.pointer (some q)] W fun e w' => e = .returned (.int .i64 ((j.seq : Int))) ∧ LaidJ At Own w (.pointer (some p)) (.pointer (some q)) n (k + 1) d' ⟨j.seq, 0, j.bytes ++ Frm.all a, false⟩ (r ++ a) w') := Lib.hid (fun d' W hW => hW.askSeq HH.out)
            have Cused : Hid (∀ d' W, LaidJ At Own w (.pointer (some p)) (.pointer (some q)) n (k + 1) d' ⟨j.seq, 0, j.bytes ++ Frm.all a, false⟩ (r ++ a) W → Calls Try.prog 20 #[.pointer (some q)] W fun e w' => e = .returned (.int .i64 ((mk j.bytes ++ mk (Frm.all a)).size : Int)) ∧ LaidJ At Own w (.pointer (some p)) (.pointer (some q)) n (k + 1) d' ⟨j.seq, 0, j.bytes ++ Frm.all a, false⟩ (r ++ a) w') := Lib.hid (fun d' W hW => by rw [mk_append, mk_len]; exact hW.askUsed HH.out)
            have Croom : Hid (∀ d' W, LaidJ At Own w (.pointer (some p)) (.pointer (some q)) n (k + 1) d' ⟨j.seq, 0, j.bytes ++ Frm.all a, false⟩ (r ++ a) W → Calls Try.prog 21 #[.pointer (some q)] W fun e w' => e = .returned (.int .i64 (64 * (h : Int) - ((mk j.bytes ++ mk (Frm.all a)).size : Int))) ∧ LaidJ At Own w (.pointer (some p)) (.pointer (some q)) n (k + 1) d' ⟨j.seq, 0, j.bytes ++ Frm.all a, false⟩ (r ++ a) w') := Lib.hid (fun d' W hW => by rw [mk_append, mk_len, Hh.out]; exact hW.askRoom HH.out)
            have hzz : (mk j.bytes ++ mk (Frm.all a)).size = (mk j.bytes).size + (mk (Frm.all a)).size := ByteArray.size_append
            have hov : ¬ 9223372036854775807 < (mk j.bytes).size + (mk (Frm.all a)).size := by omega
            have Hst : Hid (mk j.bytes ++ mk (Frm.all a) = mk (j.bytes ++ Frm.all a)) := Lib.hid (mk_append _ _)
            clear hemp
            generalize mk (Frm.all a) = z at *
            generalize mk j.bytes = al at *
            go_wp2_with fail
            refine Csl1.out.mono ?_
            rintro e w' ⟨rfl, rfl⟩
            go_wp2_with fail
            refine Call.out.mono ?_
            rintro e w5 ⟨rfl, h5⟩
            have hce5 := Hcw.out w5 (Bel.out.trans (h5.mono Bel.out.size))
            have Cap5 := Lib.hid (Cap.out w5 h5)
            clear h5
            go_wp2_with fail
            refine Cap5.out.mono ?_
            rintro e w6 ⟨rfl, d6, h6⟩
            have H6 := Lib.hid h6
            clear h6
            go_wp2_with fail
            refine (Cseq.out _ _ H6.out).mono ?_
            rintro e w7 ⟨rfl, h7⟩
            have H7 := Lib.hid h7
            clear h7
            go_wp2_with fail
            refine (Cused.out _ _ H7.out).mono ?_
            rintro e w8 ⟨rfl, h8⟩
            have H8 := Lib.hid h8
            clear h8
            go_wp2_with fail
            refine (Croom.out _ _ H8.out).mono ?_
            rintro e w9 ⟨rfl, h9⟩
            have H9 := Lib.hid h9
            clear h9
            go_wp2_with fail
            go_roundw
            case rel => exact ⟨k + 1, d6, ⟨j.seq, 0, j.bytes ++ Frm.all a, false⟩, r ++ a, by omega, by omega, by go_num, by rw [Hst.out], by first | rfl | go_num, H9.out⟩
            case measure => simp [intOf]; omega
          · have he1 : ((mk (Frm.all a)).toList == ([] : List UInt8)) = false := by rw [empty_eq]; exact decide_eq_false (fun e => hemp (all_none.1 e))
            have he2 : ((mk (Frm.all a)).toList != ([] : List UInt8)) = true := by rw [bne, he1]; rfl
            rw [if_neg hemp] at Cap
            have Cseq : Hid (∀ d' W, LaidJ At Own w (.pointer (some p)) (.pointer (some q)) n (k + 1) d' ⟨j.seq + 1, 0, j.bytes ++ Frm.all a, false⟩ (r ++ a) W → Calls Try.prog 19 #[.pointer (some q)] W fun e w' => e = .returned (.int .i64 ((j.seq : Int) + 1)) ∧ LaidJ At Own w (.pointer (some p)) (.pointer (some q)) n (k + 1) d' ⟨j.seq + 1, 0, j.bytes ++ Frm.all a, false⟩ (r ++ a) w') := Lib.hid (fun d' W hW => hW.askSeq HH.out)
            have Cused : Hid (∀ d' W, LaidJ At Own w (.pointer (some p)) (.pointer (some q)) n (k + 1) d' ⟨j.seq + 1, 0, j.bytes ++ Frm.all a, false⟩ (r ++ a) W → Calls Try.prog 20 #[.pointer (some q)] W fun e w' => e = .returned (.int .i64 ((mk j.bytes ++ mk (Frm.all a)).size : Int)) ∧ LaidJ At Own w (.pointer (some p)) (.pointer (some q)) n (k + 1) d' ⟨j.seq + 1, 0, j.bytes ++ Frm.all a, false⟩ (r ++ a) w') := Lib.hid (fun d' W hW => by rw [mk_append, mk_len]; exact hW.askUsed HH.out)
            have Croom : Hid (∀ d' W, LaidJ At Own w (.pointer (some p)) (.pointer (some q)) n (k + 1) d' ⟨j.seq + 1, 0, j.bytes ++ Frm.all a, false⟩ (r ++ a) W → Calls Try.prog 21 #[.pointer (some q)] W fun e w' => e = .returned (.int .i64 (64 * (h : Int) - ((mk j.bytes ++ mk (Frm.all a)).size : Int))) ∧ LaidJ At Own w (.pointer (some p)) (.pointer (some q)) n (k + 1) d' ⟨j.seq + 1, 0, j.bytes ++ Frm.all a, false⟩ (r ++ a) w') := Lib.hid (fun d' W hW => by rw [mk_append, mk_len, Hh.out]; exact hW.askRoom HH.out)
            have hzz : (mk j.bytes ++ mk (Frm.all a)).size = (mk j.bytes).size + (mk (Frm.all a)).size := ByteArray.size_append
            have hov : ¬ 9223372036854775807 < (mk j.bytes).size + (mk (Frm.all a)).size := by omega
            have Hst : Hid (mk j.bytes ++ mk (Frm.all a) = mk (j.bytes ++ Frm.all a)) := Lib.hid (mk_append _ _)
            clear hemp
            generalize mk (Frm.all a) = z at *
            generalize mk j.bytes = al at *
            go_wp2_with fail
            refine Csl1.out.mono ?_
            rintro e w' ⟨rfl, rfl⟩
            go_wp2_with fail
            refine Call.out.mono ?_
            rintro e w5 ⟨rfl, h5⟩
            have hce5 := Hcw.out w5 (Bel.out.trans (h5.mono Bel.out.size))
            have Cap5 := Lib.hid (Cap.out w5 h5)
            clear h5
            go_wp2_with fail
            refine Cap5.out.mono ?_
            rintro e w6 ⟨rfl, d6, h6⟩
            have H6 := Lib.hid h6
            clear h6
            go_wp2_with fail
            refine (Cseq.out _ _ H6.out).mono ?_
            rintro e w7 ⟨rfl, h7⟩
            have H7 := Lib.hid h7
            clear h7
            go_wp2_with fail
            refine (Cused.out _ _ H7.out).mono ?_
            rintro e w8 ⟨rfl, h8⟩
            have H8 := Lib.hid h8
            clear h8
            go_wp2_with fail
            refine (Croom.out _ _ H8.out).mono ?_
            rintro e w9 ⟨rfl, h9⟩
            have H9 := Lib.hid h9
            clear h9
            go_wp2_with fail
            go_roundw
            case rel => exact ⟨k + 1, d6, ⟨j.seq + 1, 0, j.bytes ++ Frm.all a, false⟩, r ++ a, by omega, by omega, by go_num, by rw [Hst.out], by first | rfl | go_num, H9.out⟩
            case measure => simp [intOf]; omega
        · have hg1 : decide (((mk j.bytes).size : Int) + ((mk (Frm.all a)).size : Int) > 64 * (h : Int)) = true := by rw [Hlen.out, Hz.out, Hh.out]; simp; omega
          have Cap : Hid (∀ W, Below wr.heap.size wr W → Calls Try.prog 14 #[.pointer (some q), .slice xA xl xc] W fun e w' => e = .returned (.int .i64 10) ∧ LaidJ At Own w (.pointer (some p)) (.pointer (some q)) n (k + 1) d j r w') := Lib.hid (fun W hb' => (Hla.out.below UU.out HH.out hb').full UU.out HH.out (by omega) Hc.out Hsa.out (by omega))
          clear hfit
          generalize mk (Frm.all a) = z at *
          generalize hgal : mk j.bytes = al at *
          go_wp2_with fail
          refine Csl1.out.mono ?_
          rintro e w' ⟨rfl, rfl⟩
          go_wp2_with fail
          refine Call.out.mono ?_
          rintro e w5 ⟨rfl, h5⟩
          have hce5 := Hcw.out w5 (Bel.out.trans (h5.mono Bel.out.size))
          have Cap5 := Lib.hid (Cap.out w5 h5)
          clear h5
          go_wp2_with fail
          refine Cap5.out.mono ?_
          rintro e w6 ⟨rfl, h6⟩
          have H6 := Lib.hid h6
          clear h6
          go_wp2_with fail
          go_roundw
          case rel => exact ⟨k + 1, d, j, r, by omega, by omega, by go_num, by rw [hgal], rfl, H6.out⟩
          case measure => simp [intOf]; omega
      · have Csl0 : Hid (Calls Try.prog 11 #[.slice xA xl xc] wr fun e w' => e = .returned (.bool false) ∧ w' = wr) := Lib.hid (by have := Csl.out; rw [decide_eq_false hsl] at this; exact this)
        clear hsl Csl
        generalize hgal : mk j.bytes = al at *
        go_wp2_with fail
        refine Csl0.out.mono ?_
        rintro e w' ⟨rfl, rfl⟩
        go_wp2_with fail
        go_roundw
        case rel => exact ⟨k + 1, d, j, r, by omega, by omega, by go_num, by rw [hgal], rfl, Hla.out.next⟩
        case measure => simp [intOf]; omega
    · have hx : (decide (k < ln) = true ∧ decide ((k : Int) < 25) = false) ∨ decide (k < ln) = false := by
        by_cases h1 : k < ln
        · exact Or.inl ⟨by simp; omega, by simp; omega⟩
        · exact Or.inr (by simp; omega)
      have Crd : Hid (∀ m W, m < h → LaidJ At Own w (.pointer (some p)) (.pointer (some q)) n k d j r W → Calls Try.prog 22 #[.pointer (some p), .int .i64 (2 + (m : Int))] W fun e w' => e = .returned (.tuple #[.string (Jnl.now d (2 + m)), .int .i64 0]) ∧ LaidJ At Own w (.pointer (some p)) (.pointer (some q)) n k d j r w') := Lib.hid (fun m W hm hW => by
        have h1 := hof_fits hn4
        have hof := Hh.out
        have := hW.read UU.out HH.out (by omega) (i := 2 + m) (by omega)
        rw [show (((2 + m : Nat) : Nat) : Int) = 2 + (m : Int) by omega] at this
        exact this)
      have Crs : Hid (∀ W, LaidJ At Own w (.pointer (some p)) (.pointer (some q)) n k d j r W → Calls Try.prog 22 #[.pointer (some p), .int .i64 ((j.seq : Int) % 2)] W fun e w' => e = .returned (.tuple #[.string (fill (mk (head j.seq 0 j.bytes.length))), .int .i64 0]) ∧ LaidJ At Own w (.pointer (some p)) (.pointer (some q)) n k d j r w') := Lib.hid (fun W hW => by
        have := hW.read UU.out HH.out (by omega) (i := j.seq % 2) (by omega)
        rw [laid_stands hW, show (((j.seq % 2 : Nat) : Nat) : Int) = (j.seq : Int) % 2 by omega] at this
        exact this)
      have Chd : Hid (∀ W, Calls Try.prog 24 #[.int .i64 (j.seq : Int), .int .i64 0, .int .i64 ((mk j.bytes).size : Int)] W fun e w' => e = .returned (.string (mk (head j.seq 0 j.bytes.length))) ∧ Below W.heap.size W w') := Lib.hid (fun W => by
        have := ref_head j.seq 0 j.bytes.length W (by omega) (by decide) (by rw [← Hlen.out]; omega)
        rw [Hlen.out]
        exact this)
      have hhl : (mk (head j.seq 0 j.bytes.length)).size ≤ 64 := by rw [mk_len]; have := head_len j.seq 0 j.bytes.length; omega
      have Cfl : Hid (∀ W, Calls Try.prog 23 #[.string (mk (head j.seq 0 j.bytes.length))] W fun e w' => e = .returned (.string (fill (mk (head j.seq 0 j.bytes.length)))) ∧ W = w') := Lib.hid (fun W => ref_fill _ W hhl)
      obtain ⟨g1, g2⟩ := laid_held hla
      have hful := hla.live.now.full
      rw [← Hh.out] at g1 g2
      have hgs : ((mk (halfB (Jnl.now d) 2 h)).size : Int) = 64 * (h : Int) := by rw [mk_len, g1]; omega
      have heq0 : (((mk (halfB (Jnl.now d) 2 h)).size : Int) == 64 * (h : Int)) = true := by rw [hgs]; exact beq_self_eq_true _
      have hle : ((mk j.bytes).size : Int) ≤ ((mk (halfB (Jnl.now d) 2 h)).size : Int) := by omega
      have hcut : (((mk (halfB (Jnl.now d) 2 h)).extract 0 (mk j.bytes).size).toList == (mk j.bytes).toList) = true := by
        rw [cut_to, mk_data, mk_len, g2]; exact beq_self_eq_true _
      have Hsz : Hid (∀ m, m ≤ h → (mk (halfB (Jnl.now d) 2 m)).size ≤ 1280) := Lib.hid (fun m hm => by
        have h1 := hof_fits hn4
        have hof := Hh.out
        rw [mk_len, (halfB_at _ 2 m (fun i hi => hful _ (by omega))).1]; omega)
      have Hs1 : Hid (∀ m, m < h → (Jnl.now d (2 + m)).size = 64) := Lib.hid (fun m hm => by
        have h1 := hof_fits hn4
        have hof := Hh.out
        rw [Lib.size_eq]; exact hful _ (by omega))
      obtain ⟨G, q0, q1, q2, q3, q4, q5⟩ : ∃ G : Nat → ByteArray, G 0 = ⟨#[]⟩ ∧ (∀ m, G m ++ Jnl.now d (2 + m) = G (m + 1)) ∧ (∀ m, m ≤ h → (G m).size ≤ 1280) ∧ (((G h).size : Int) == 64 * (h : Int)) = true ∧ ((mk j.bytes).size : Int) ≤ ((G h).size : Int) ∧
          (((G h).extract 0 (mk j.bytes).size).toList == (mk j.bytes).toList) = true := ⟨fun m => mk (halfB (Jnl.now d) 2 m), rfl, half_step _, Hsz.out, heq0, hle, hcut⟩
      have Q0 := Lib.hid q0
      have Q1 := Lib.hid q1
      have Q2 := Lib.hid q2
      have hlast : ((fill (mk (head j.seq 0 j.bytes.length))).toList == (fill (mk (head j.seq 0 j.bytes.length))).toList) = true := beq_self_eq_true _
      have hsq0 : (0 : Int) ≤ (j.seq : Int) := by omega
      clear hla g1 g2 hful hgo hhl hgs heq0 hle hcut Hsz q0 q1 q2
      generalize Jnl.now d = X at *
      generalize mk (head j.seq 0 j.bytes.length) = hd at *
      generalize fill hd = fh at *
      generalize mk j.bytes = al at *
      rcases hx with ⟨x1, x2⟩ | x1
      all_goals
        go_wp2_with fail
        go_loopw [17, 18] (fun g i wr => ∃ m : Nat, m ≤ h ∧ i = .int .i64 (m : Int) ∧ g = .string (G m) ∧ LaidJ At Own w (.pointer (some p)) (.pointer (some q)) n k d j r wr) (fun _ i _ => h - (intOf i).toNat)
        case atStart => exact ⟨0, Nat.zero_le _, rfl, by rw [Q0.out], Hla.out⟩
        case round =>
          obtain ⟨m, hm, rfl, rfl, hlm⟩ := hrel
          have Hlm := Lib.hid hlm
          clear hlm
          by_cases hlt : m < h
          · have c1 : (m : Int) < (h : Int) := by omega
            have c2 := Hs1.out m hlt
            have c3 := Q2.out m hm
            have c4 : ¬ 9223372036854775807 < (G m).size + (X (2 + m)).size := by omega
            have Cm := Lib.hid (fun W hW => Crd.out m W hlt hW)
            have C1 := Lib.hid (Q1.out m)
            go_wp2_with fail
            refine (Cm.out _ Hlm.out).mono ?_
            rintro e w10 ⟨rfl, h10⟩
            have H10 := Lib.hid h10
            clear h10
            go_wp2_with fail
            go_roundw
            case rel => exact ⟨m + 1, by omega, by go_num, by rw [C1.out], H10.out⟩
            case measure => simp [intOf]; omega
          · obtain rfl : m = h := by omega
            go_wp2_with fail
            refine (Crs.out _ Hlm.out).mono ?_
            rintro e w10 ⟨rfl, h10⟩
            have H10 := Lib.hid h10.jw.bel
            clear h10
            go_wp2_with fail
            refine (Chd.out _).mono ?_
            rintro e w11 ⟨rfl, h11⟩
            have H11 := Lib.hid h11
            clear h11
            go_wp2_with fail
            refine (Cfl.out _).mono ?_
            rintro e w12 ⟨rfl, rfl⟩
            go_wp2_with fail
            go_ret
            exact ⟨rfl, H10.out.trans (H11.out.mono H10.out.size)⟩
end
end Go.Proofs.Ytcgplonnhginiaa
namespace Go.Proofs.Ytcgplonnhginiaa
open Go.RowKit

open Go.ChangeShapes Go.WideShapes Go.ChangeAt
open Go.ChangeMaps (open_string shut_string)

set_option maxRecDepth 100000 in
theorem journalLays_lifted (os : Os) (started : os.Started) (H : Type) (enc : TypeId × Value → H) :
    ReturnsInHanded {} Try.checked os 4 .any (Rows.journalLaysSpec.pre6 enc Try.prog Try.f4 Rows.journalLaysRow.domain false) (Rows.journalLaysSpec.post enc Try.prog Try.f4 false true false false) := by
  refine returnsInHanded_of_change_sized (C := Try.checked) own started (by kernel_rfl) Try.func4
    (ChangeSpec.witness6 (enc := enc) (C := Try.checked) false ⟨#[], #[.int .u8 0, .slice none 0 0], []⟩ 8 (by kernel_rfl) (by kernel_rfl) (by kernel_rfl) (by kernel_rfl)) ?_
  intro W base args ds gs before hval0 hW _ hsz _
  have hval : ∀ (j : Nat) t v, Try.f4.params[j]? = some t → args[j]? = some v → Value.okWide Try.prog W .any base t v := hval0
  have hW0 := hW
  obtain ⟨p, q, hA0, hV, _, _, _⟩ := hW
  have hA : DataW.TrodAll enc Try.prog W 0 (fun _ => true) true Try.f4.params.toList args.toList ds p := hA0
  rw [Try.params4] at hA hval hsz
  obtain ⟨v0, vs0, d0, ds0, p0, q0, hargs, rfl, rfl, h0, r0⟩ := trodAll_cons hA
  obtain ⟨v1, vs1, d1, ds1, p1, q1, rfl, rfl, rfl, h1, r1⟩ := trodAll_cons r0
  obtain ⟨rfl, rfl, rfl⟩ := trodAll_nil r1
  obtain rfl : args = #[v0, v1] := by cases args; simp_all
  obtain ⟨n, rfl, rfl, rfl, nw⟩ := open_int Try.underlying5 (hval 0 5 v0 rfl rfl) h0
  have nb := bounds_u8 nw
  obtain ⟨nn, rfl⟩ := Int.eq_ofNat_of_zero_le nb.1
  obtain ⟨lA, ln, lc, l, rfl, hlc, hl63, hin⟩ := open_lines (okWide_slice Try.underlying42 (hval 1 42 v1 rfl rfl)) h1
  obtain ⟨rfl, rfl⟩ := trodVars_none hV
  refine (lays_walk disk_use journal_ok nn lA ln lc l W (by omega) hl63 hin).mono fun e W' ⟨he, hg⟩ => ?_
  subst he
  exact ⟨_, rfl, law_done (by kernel_rfl) rfl hW0 rfl (by rw [Try.params4]; decide +kernel) hg⟩

set_option maxRecDepth 100000 in
theorem journalLays_over : Rows.journalLaysRow.holds Try.pinned (OpenSpec.ofChange Rows.journalLaysSpec) :=
  OpenClaim.holds_of_wide 4 Try.f4 rfl rfl rfl rfl rfl rfl rfl ⟨rfl, rfl, rfl, rfl, rfl⟩ rfl rfl rfl rfl rfl (by kernel_rfl) Try.func4 (by kernel_rfl)
    (of_decide_eq_true (by kernel_rfl)) (by unfold Func.isWrapper; first | (rw [if_pos (by decide +kernel)]; kernel_rfl) | (rw [if_neg (by decide +kernel)]; exact ⟨rfl, rfl⟩))
    (fun os started H enc _ => journalLays_lifted os started H enc)

set_option maxRecDepth 100000 in
/-- The statement. -/
theorem journalLays_holds : Rows.JournalLaysSaid := journalLays_over
#print axioms journalLays_holds
end Go.Proofs.Ytcgplonnhginiaa
