/- The walk of LebLays. -/
import Derived.Test.YtnjmdbgpabekaaaLays
namespace Go.Proofs.Ytnjmdbgpabekaaa
open Go.RowKit

set_option maxRecDepth 100000 in
set_option maxHeartbeats 1600000 in
theorem lays_few {w : World} {A : Option Addr} {len cap : Nat} {all : List Fl} (hin : FieldsIn w A len all) (hl63 : (len : Int) ≤ 9223372036854775807) (h40 : ¬ 40 < len) :
    Calls Try.prog 3 #[.slice A len cap] w fun e w' => e = .returned (.bool true) ∧ Below w.heap.size w w' := by
  have hb40 : decide ((40 : Int) < (len : Int)) = false := by simp; omega
  have hcut := hin
  have hlen40 : len ≤ 40 := by omega
  generalize all = fs at hcut
  have Hin := Lib.hid hcut
  clear hin hcut h40
  go_enter Try.func3, Try.ntmps3
  go_wp2_with fail
  go_loopw [3, 4, 5] (fun x y i wr => ∃ (k : Nat) (want : ByteArray) (e : Int), k ≤ len ∧ x = .string want ∧ y = .int .i64 e ∧ i = .int .i64 k ∧ LaysRel w fs k want e wr) (fun _ _ i _ => len - (intOf i).toNat)
  case atStart => exact ⟨0, ⟨#[]⟩, 0, Nat.zero_le _, rfl, rfl, rfl, lays_start w fs⟩
  case round =>
    obtain ⟨k, want, e, hk, rfl, rfl, rfl, hrel⟩ := hrel
    have hbel := hrel.1
    by_cases hlt : k < len
    · obtain ⟨hfl, hfit, hmem⟩ := Hin.out
      obtain ⟨b, off, hA, hb, hfa⟩ := hmem (by omega)
      subst hA
      obtain ⟨f, hf⟩ : ∃ f, fs[k]? = some f := ⟨fs[k]'(by omega), List.getElem?_eq_getElem _⟩
      obtain ⟨c0, c1, c2⟩ := (hfa.below hbel hb) k f hf
      have hft := hfit k f hf
      have Hf := Lib.hid hf
      have Hrel := Lib.hid hrel
      have hwsz : want.size ≤ 400000 + 9 * k := hrel.2.1
      clear hf hrel hfit hmem hfl hfa hbel
      obtain ⟨num, txt, isT⟩ := f
      by_cases hbig : 131072 < txt.size
      · have hd : decide ((131072 : Int) < (txt.size : Int)) = true := by simp; omega
        clear hbig hwsz hft
        go_wp2_with (go_at_call 7; refine (awake_any _).mono ?_; rintro e w1 ⟨rfl, hb1⟩)
        go_ret
        exact ⟨rfl, Hrel.out.1.trans (hb1.mono Hrel.out.1.size)⟩
      · have hd : decide ((131072 : Int) < (txt.size : Int)) = false := by simp; omega
        have hts : txt.size ≤ 131072 := by omega
        cases isT with
        | true =>
          have hpos : 0 ≤ Fl.head ⟨num, txt, true⟩ := by show (0 : Int) ≤ (txt.size : Int); omega
          by_cases hw : 262144 < want.size
          · have hd2 : decide ((want.size : Int) ≤ 262144) = false := by simp; omega
            have Hnew := Lib.hid (lays_skip Hrel.out Hf.out hpos hw)
            clear hbig hwsz hft hw hts hpos
            go_wp2_with fail
            go_roundw
            case rel => exact ⟨k + 1, want, e, by omega, rfl, rfl, by go_num, Hnew.out⟩
            case measure => simp [intOf]; omega
          · have hd2 : decide ((want.size : Int) ≤ 262144) = true := by simp; omega
            have hbl : (Leb.enc txt.size ++ txt.data.toList).length ≤ 131081 := by
              have := (Leb.enc_len txt.size).2
              rw [List.length_append, ← Lib.size_eq]; omega
            have hbs : Hid (Fl.bytes ⟨num, txt, true⟩ = Leb.enc txt.size ++ txt.data.toList) := rfl
            have hnew : ∀ W, Below wr.heap.size wr W → LaysRel w fs (k + 1) (want ++ ⟨(Leb.enc txt.size ++ txt.data.toList).toArray⟩) e W := fun W hW =>
              lays_more Hrel.out Hf.out hW hpos (by rw [hbs.out]; omega)
            have Hnew := Lib.hid hnew
            have htx : ∀ W, Calls Try.prog 8 #[.string txt] W fun e w' => e = .returned (.string ⟨(Leb.enc txt.size ++ txt.data.toList).toArray⟩) ∧ Below W.heap.size W w' := fun W => ref_text txt W (by omega)
            have hsz2 : (⟨(Leb.enc txt.size ++ txt.data.toList).toArray⟩ : ByteArray).size ≤ 131081 := by rw [mk_size]; exact hbl
            have hws2 : (want.size : Int) ≤ 262144 := by omega
            generalize (⟨(Leb.enc txt.size ++ txt.data.toList).toArray⟩ : ByteArray) = tb at *
            have Htx := Lib.hid htx
            have hs3 : want.size + tb.size ≤ 9223372036854775807 := by omega
            clear hbig hwsz hft hw hts hpos hnew hbl htx hsz2 hws2
            go_wp2_with (go_at_call 8; refine (Htx.out _).mono ?_; rintro e w1 ⟨rfl, hb1⟩)
            go_roundw
            case rel => exact ⟨k + 1, _, e, by omega, rfl, rfl, by go_num, Hnew.out _ hb1⟩
            case measure => simp [intOf]; omega
        | false =>
          by_cases hneg : num < 0
          · have Hnew := Lib.hid (lays_neg Hrel.out Hf.out (show Fl.head ⟨num, txt, false⟩ < 0 from hneg))
            have hd3 : decide (num < 0) = true := by simpa using hneg
            clear hbig hwsz hft hts hneg
            go_wp2_with fail
            go_roundw
            case rel => exact ⟨k + 1, want, 3, by omega, rfl, rfl, by go_num, Hnew.out⟩
            case measure => simp [intOf]; omega
          · obtain ⟨m, rfl⟩ := Int.eq_ofNat_of_zero_le (show 0 ≤ num by omega)
            have hd3 : decide ((m : Int) < 0) = false := by simp
            have hm63 : m < 9223372036854775808 := by
              have h1 : (m : Int) < 9223372036854775808 := hft.1
              omega
            have hbl := (Leb.enc_len m).2
            have hbs : Hid (Fl.bytes ⟨(m : Int), txt, false⟩ = Leb.enc m) := by
              show Leb.enc m ++ _ = _
              exact List.append_nil _
            have hnew : ∀ W, Below wr.heap.size wr W → LaysRel w fs (k + 1) (want ++ ⟨(Leb.enc m).toArray⟩) e W := fun W hW => by
              have := lays_more Hrel.out Hf.out hW (show (0 : Int) ≤ (m : Int) by omega) (by rw [hbs.out]; omega)
              rw [hbs.out] at this
              exact this
            have Hnew := Lib.hid hnew
            have htx : ∀ W, Calls Try.prog 9 #[.int .i64 m] W fun e w' => e = .returned (.string ⟨(Leb.enc m).toArray⟩) ∧ Below W.heap.size W w' := fun W => ref_number m W hm63
            have hsz2 : (⟨(Leb.enc m).toArray⟩ : ByteArray).size ≤ 9 := by rw [mk_size]; exact hbl
            have hws2 : (want.size : Int) ≤ 400400 := by omega
            generalize (⟨(Leb.enc m).toArray⟩ : ByteArray) = tb at *
            have Htx := Lib.hid htx
            have hs3 : want.size + tb.size ≤ 9223372036854775807 := by omega
            clear hbig hwsz hft hts hneg hnew hbl htx hm63 hsz2 hws2
            go_wp2_with (go_at_call 9; refine (Htx.out _).mono ?_; rintro e w1 ⟨rfl, hb1⟩)
            go_roundw
            case rel => exact ⟨k + 1, _, e, by omega, rfl, rfl, by go_num, Hnew.out _ hb1⟩
            case measure => simp [intOf]; omega
    · obtain rfl : len = k := by omega
      have hfl := Hin.out.1
      have hlay := lay_in (cap := cap) (Hin.out.below hbel) (by omega)
      rw [← hfl] at hrel
      have hend := lays_end hrel
      have Hbel := Lib.hid hbel
      have Hlay := Lib.hid hlay
      clear hrel hbel hlay hfl
      rcases hend with ⟨rfl, he⟩ | ⟨rfl, hsz, he⟩ | ⟨rfl, hsz, he⟩
      · have hl2 : Calls Try.prog 10 #[.slice A len cap] wr fun e w' => e = .returned (.tuple #[.string ⟨#[]⟩, .int .i64 3]) ∧ Below wr.heap.size wr w' := by
          refine Hlay.out.mono ?_
          rintro e w' ⟨rfl, hb⟩
          rw [he]
          exact ⟨rfl, hb⟩
        have Hl2 := Lib.hid hl2
        clear hl2 he
        go_wp2_with (first
          | (go_at_call 10; refine (Hl2.out).mono ?_; rintro e w1 ⟨rfl, hb1⟩)
          | (go_at_call 7; refine (awake_any _).mono ?_; rintro e w2 ⟨rfl, hb2⟩))
        go_ret
        exact ⟨rfl, (Hbel.out.trans (hb1.mono Hbel.out.size)).trans (hb2.mono (Nat.le_trans Hbel.out.size hb1.size))⟩
      · have hd2 : decide ((65536 : Int) < (want.size : Int)) = false := by simp; omega
        have hl2 : Calls Try.prog 10 #[.slice A len cap] wr fun e w' => e = .returned (.tuple #[.string want, .int .i64 0]) ∧ Below wr.heap.size wr w' := by
          refine Hlay.out.mono ?_
          rintro e w' ⟨rfl, hb⟩
          rw [he]
          refine ⟨?_, hb⟩
          show Ending.returned (.tuple #[.string ⟨want.data.toList.toArray⟩, .int .i64 0]) = _
          rw [mk_of]
        have Hl2 := Lib.hid hl2
        clear hl2 he hsz
        go_wp2_with (first
          | (go_at_call 10; refine (Hl2.out).mono ?_; rintro e w1 ⟨rfl, hb1⟩)
          | (go_at_call 7; refine (awake_any _).mono ?_; rintro e w2 ⟨rfl, hb2⟩))
        go_ret
        exact ⟨rfl, (Hbel.out.trans (hb1.mono Hbel.out.size)).trans (hb2.mono (Nat.le_trans Hbel.out.size hb1.size))⟩
      · have hd2 : decide ((65536 : Int) < (want.size : Int)) = true := by simp; omega
        have hl2 : Calls Try.prog 10 #[.slice A len cap] wr fun e w' => e = .returned (.tuple #[.string ⟨#[]⟩, .int .i64 4]) ∧ Below wr.heap.size wr w' := by
          refine Hlay.out.mono ?_
          rintro e w' ⟨rfl, hb⟩
          rw [he]
          exact ⟨rfl, hb⟩
        have Hl2 := Lib.hid hl2
        clear hl2 he hsz
        go_wp2_with (first
          | (go_at_call 10; refine (Hl2.out).mono ?_; rintro e w1 ⟨rfl, hb1⟩)
          | (go_at_call 7; refine (awake_any _).mono ?_; rintro e w2 ⟨rfl, hb2⟩))
        go_ret
        exact ⟨rfl, (Hbel.out.trans (hb1.mono Hbel.out.size)).trans (hb2.mono (Nat.le_trans Hbel.out.size hb1.size))⟩

set_option maxRecDepth 100000 in
set_option maxHeartbeats 1600000 in
theorem lays_many {w : World} {A : Option Addr} {len cap : Nat} {all : List Fl} (hin : FieldsIn w A len all) (hlc : len ≤ cap) (hl63 : (len : Int) ≤ 9223372036854775807) (h40 : 40 < len) :
    Calls Try.prog 3 #[.slice A len cap] w fun e w' => e = .returned (.bool true) ∧ Below w.heap.size w w' := by
  have hb40 : decide ((40 : Int) < (len : Int)) = true := by simp; omega
  have hcut := hin.cut (n := 40) (by omega)
  have hc40 : (40 : Int) ≤ (cap : Int) := by omega
  generalize all.take 40 = fs at hcut
  have Hin := Lib.hid hcut
  clear hin hcut h40
  go_enter Try.func3, Try.ntmps3
  go_wp2_with fail
  go_loopw [3, 4, 5] (fun x y i wr => ∃ (k : Nat) (want : ByteArray) (e : Int), k ≤ 40 ∧ x = .string want ∧ y = .int .i64 e ∧ i = .int .i64 k ∧ LaysRel w fs k want e wr) (fun _ _ i _ => 40 - (intOf i).toNat)
  case atStart => exact ⟨0, ⟨#[]⟩, 0, Nat.zero_le _, rfl, rfl, rfl, lays_start w fs⟩
  case round =>
    obtain ⟨k, want, e, hk, rfl, rfl, rfl, hrel⟩ := hrel
    have hbel := hrel.1
    by_cases hlt : k < 40
    · obtain ⟨hfl, hfit, hmem⟩ := Hin.out
      obtain ⟨b, off, hA, hb, hfa⟩ := hmem (by omega)
      subst hA
      obtain ⟨f, hf⟩ : ∃ f, fs[k]? = some f := ⟨fs[k]'(by omega), List.getElem?_eq_getElem _⟩
      obtain ⟨c0, c1, c2⟩ := (hfa.below hbel hb) k f hf
      have hft := hfit k f hf
      have Hf := Lib.hid hf
      have Hrel := Lib.hid hrel
      have hwsz : want.size ≤ 400000 + 9 * k := hrel.2.1
      clear hf hrel hfit hmem hfl hfa hbel
      obtain ⟨num, txt, isT⟩ := f
      by_cases hbig : 131072 < txt.size
      · have hd : decide ((131072 : Int) < (txt.size : Int)) = true := by simp; omega
        clear hbig hwsz hft
        go_wp2_with (go_at_call 7; refine (awake_any _).mono ?_; rintro e w1 ⟨rfl, hb1⟩)
        go_ret
        exact ⟨rfl, Hrel.out.1.trans (hb1.mono Hrel.out.1.size)⟩
      · have hd : decide ((131072 : Int) < (txt.size : Int)) = false := by simp; omega
        have hts : txt.size ≤ 131072 := by omega
        cases isT with
        | true =>
          have hpos : 0 ≤ Fl.head ⟨num, txt, true⟩ := by show (0 : Int) ≤ (txt.size : Int); omega
          by_cases hw : 262144 < want.size
          · have hd2 : decide ((want.size : Int) ≤ 262144) = false := by simp; omega
            have Hnew := Lib.hid (lays_skip Hrel.out Hf.out hpos hw)
            clear hbig hwsz hft hw hts hpos
            go_wp2_with fail
            go_roundw
            case rel => exact ⟨k + 1, want, e, by omega, rfl, rfl, by go_num, Hnew.out⟩
            case measure => simp [intOf]; omega
          · have hd2 : decide ((want.size : Int) ≤ 262144) = true := by simp; omega
            have hbl : (Leb.enc txt.size ++ txt.data.toList).length ≤ 131081 := by
              have := (Leb.enc_len txt.size).2
              rw [List.length_append, ← Lib.size_eq]; omega
            have hbs : Hid (Fl.bytes ⟨num, txt, true⟩ = Leb.enc txt.size ++ txt.data.toList) := rfl
            have hnew : ∀ W, Below wr.heap.size wr W → LaysRel w fs (k + 1) (want ++ ⟨(Leb.enc txt.size ++ txt.data.toList).toArray⟩) e W := fun W hW =>
              lays_more Hrel.out Hf.out hW hpos (by rw [hbs.out]; omega)
            have Hnew := Lib.hid hnew
            have htx : ∀ W, Calls Try.prog 8 #[.string txt] W fun e w' => e = .returned (.string ⟨(Leb.enc txt.size ++ txt.data.toList).toArray⟩) ∧ Below W.heap.size W w' := fun W => ref_text txt W (by omega)
            have hsz2 : (⟨(Leb.enc txt.size ++ txt.data.toList).toArray⟩ : ByteArray).size ≤ 131081 := by rw [mk_size]; exact hbl
            have hws2 : (want.size : Int) ≤ 262144 := by omega
            generalize (⟨(Leb.enc txt.size ++ txt.data.toList).toArray⟩ : ByteArray) = tb at *
            have Htx := Lib.hid htx
            have hs3 : want.size + tb.size ≤ 9223372036854775807 := by omega
            clear hbig hwsz hft hw hts hpos hnew hbl htx hsz2 hws2
            go_wp2_with (go_at_call 8; refine (Htx.out _).mono ?_; rintro e w1 ⟨rfl, hb1⟩)
            go_roundw
            case rel => exact ⟨k + 1, _, e, by omega, rfl, rfl, by go_num, Hnew.out _ hb1⟩
            case measure => simp [intOf]; omega
        | false =>
          by_cases hneg : num < 0
          · have Hnew := Lib.hid (lays_neg Hrel.out Hf.out (show Fl.head ⟨num, txt, false⟩ < 0 from hneg))
            have hd3 : decide (num < 0) = true := by simpa using hneg
            clear hbig hwsz hft hts hneg
            go_wp2_with fail
            go_roundw
            case rel => exact ⟨k + 1, want, 3, by omega, rfl, rfl, by go_num, Hnew.out⟩
            case measure => simp [intOf]; omega
          · obtain ⟨m, rfl⟩ := Int.eq_ofNat_of_zero_le (show 0 ≤ num by omega)
            have hd3 : decide ((m : Int) < 0) = false := by simp
            have hm63 : m < 9223372036854775808 := by
              have h1 : (m : Int) < 9223372036854775808 := hft.1
              omega
            have hbl := (Leb.enc_len m).2
            have hbs : Hid (Fl.bytes ⟨(m : Int), txt, false⟩ = Leb.enc m) := by
              show Leb.enc m ++ _ = _
              exact List.append_nil _
            have hnew : ∀ W, Below wr.heap.size wr W → LaysRel w fs (k + 1) (want ++ ⟨(Leb.enc m).toArray⟩) e W := fun W hW => by
              have := lays_more Hrel.out Hf.out hW (show (0 : Int) ≤ (m : Int) by omega) (by rw [hbs.out]; omega)
              rw [hbs.out] at this
              exact this
            have Hnew := Lib.hid hnew
            have htx : ∀ W, Calls Try.prog 9 #[.int .i64 m] W fun e w' => e = .returned (.string ⟨(Leb.enc m).toArray⟩) ∧ Below W.heap.size W w' := fun W => ref_number m W hm63
            have hsz2 : (⟨(Leb.enc m).toArray⟩ : ByteArray).size ≤ 9 := by rw [mk_size]; exact hbl
            have hws2 : (want.size : Int) ≤ 400400 := by omega
            generalize (⟨(Leb.enc m).toArray⟩ : ByteArray) = tb at *
            have Htx := Lib.hid htx
            have hs3 : want.size + tb.size ≤ 9223372036854775807 := by omega
            clear hbig hwsz hft hts hneg hnew hbl htx hm63 hsz2 hws2
            go_wp2_with (go_at_call 9; refine (Htx.out _).mono ?_; rintro e w1 ⟨rfl, hb1⟩)
            go_roundw
            case rel => exact ⟨k + 1, _, e, by omega, rfl, rfl, by go_num, Hnew.out _ hb1⟩
            case measure => simp [intOf]; omega
    · obtain rfl : k = 40 := by omega
      have hfl := Hin.out.1
      have hlay := lay_in (cap := cap) (Hin.out.below hbel) (by omega)
      rw [← hfl] at hrel
      have hend := lays_end hrel
      have Hbel := Lib.hid hbel
      have Hlay := Lib.hid hlay
      clear hrel hbel hlay hfl
      rcases hend with ⟨rfl, he⟩ | ⟨rfl, hsz, he⟩ | ⟨rfl, hsz, he⟩
      · have hl2 : Calls Try.prog 10 #[.slice A 40 cap] wr fun e w' => e = .returned (.tuple #[.string ⟨#[]⟩, .int .i64 3]) ∧ Below wr.heap.size wr w' := by
          refine Hlay.out.mono ?_
          rintro e w' ⟨rfl, hb⟩
          rw [he]
          exact ⟨rfl, hb⟩
        have Hl2 := Lib.hid hl2
        clear hl2 he
        go_wp2_with (first
          | (go_at_call 10; refine (Hl2.out).mono ?_; rintro e w1 ⟨rfl, hb1⟩)
          | (go_at_call 7; refine (awake_any _).mono ?_; rintro e w2 ⟨rfl, hb2⟩))
        go_ret
        exact ⟨rfl, (Hbel.out.trans (hb1.mono Hbel.out.size)).trans (hb2.mono (Nat.le_trans Hbel.out.size hb1.size))⟩
      · have hd2 : decide ((65536 : Int) < (want.size : Int)) = false := by simp; omega
        have hl2 : Calls Try.prog 10 #[.slice A 40 cap] wr fun e w' => e = .returned (.tuple #[.string want, .int .i64 0]) ∧ Below wr.heap.size wr w' := by
          refine Hlay.out.mono ?_
          rintro e w' ⟨rfl, hb⟩
          rw [he]
          refine ⟨?_, hb⟩
          show Ending.returned (.tuple #[.string ⟨want.data.toList.toArray⟩, .int .i64 0]) = _
          rw [mk_of]
        have Hl2 := Lib.hid hl2
        clear hl2 he hsz
        go_wp2_with (first
          | (go_at_call 10; refine (Hl2.out).mono ?_; rintro e w1 ⟨rfl, hb1⟩)
          | (go_at_call 7; refine (awake_any _).mono ?_; rintro e w2 ⟨rfl, hb2⟩))
        go_ret
        exact ⟨rfl, (Hbel.out.trans (hb1.mono Hbel.out.size)).trans (hb2.mono (Nat.le_trans Hbel.out.size hb1.size))⟩
      · have hd2 : decide ((65536 : Int) < (want.size : Int)) = true := by simp; omega
        have hl2 : Calls Try.prog 10 #[.slice A 40 cap] wr fun e w' => e = .returned (.tuple #[.string ⟨#[]⟩, .int .i64 4]) ∧ Below wr.heap.size wr w' := by
          refine Hlay.out.mono ?_
          rintro e w' ⟨rfl, hb⟩
          rw [he]
          exact ⟨rfl, hb⟩
        have Hl2 := Lib.hid hl2
        clear hl2 he hsz
        go_wp2_with (first
          | (go_at_call 10; refine (Hl2.out).mono ?_; rintro e w1 ⟨rfl, hb1⟩)
          | (go_at_call 7; refine (awake_any _).mono ?_; rintro e w2 ⟨rfl, hb2⟩))
        go_ret
        exact ⟨rfl, (Hbel.out.trans (hb1.mono Hbel.out.size)).trans (hb2.mono (Nat.le_trans Hbel.out.size hb1.size))⟩

end Go.Proofs.Ytnjmdbgpabekaaa
