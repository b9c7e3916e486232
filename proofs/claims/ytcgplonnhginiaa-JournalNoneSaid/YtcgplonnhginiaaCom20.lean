/- 'number': the number that the reader's bytes begin with, byte by byte. -/
import Derived.Test.YtcgplonnhginiaaCom19
import Derived.Test.YtcgplonnhginiaaCom3
import Derived.Test.YtcgplonnhginiaaCom6
import Derived.Deep.QuietTactic
import Derived.BigQuiet
import Derived.Laws.BitsAllLaws
import Derived.Lib.BufferWrite
import Derived.Lib.UnsafeStr
import Derived.Laws.MakeOwn
import Derived.Laws.ResultCell
import Derived.OwnWalk
import Derived.Outline
namespace Go.Proofs.Ytcgplonnhginiaa
open Go.RowKit

/-- What 'number' leaves: what 'Leb.first' says, and the reader's bytes cut. -/
def NumPost (w : World) (b : Nat) (r : ByteArray) (e0 : Int) (e : Ending) (w' : World) : Prop :=
  ∃ j, e = .returned (.tuple #[.int .i64 (Leb.first r.data.toList).1, .int .i64 (Leb.first r.data.toList).2.2]) ∧ Rd w' b (r.extract j r.size) e0 ∧ w.grownBy w' (some b) ∧
    ((Leb.first r.data.toList).2.2 = 0 → j = (Leb.first r.data.toList).2.1)

/-- At the head of round k. -/
def NumRel (w : World) (b : Nat) (r : ByteArray) (e0 : Int) (k acc : Nat) (wr : World) : Prop :=
  k ≤ r.size ∧ Rd wr b (r.extract k r.size) e0 ∧ w.grownBy wr (some b) ∧ acc < 128 ^ k ∧ Leb.dec (9 - k) k acc (r.data.toList.drop k) = Leb.first r.data.toList

/-! ### What the round reckons -/

set_option maxRecDepth 100000 in
theorem or64 (acc d k : Nat) (hk : k < 9) (ha : acc < 128 ^ k) (hd : d < 128) :
    bits .or .i64 (acc : Int) (wrap64 ((d : Int) * 2 ^ (7 * k))) = ((acc + d * 128 ^ k : Nat) : Int) := by
  have e : (128 : Nat) ^ k = 2 ^ (7 * k) := by rw [Nat.pow_mul]
  have hpow : (128 : Nat) ^ (k + 1) ≤ 128 ^ 9 := Nat.pow_le_pow_right (by omega) (by omega)
  have h9 : (128 : Nat) ^ 9 = 9223372036854775808 := by decide
  have hs : (128 : Nat) ^ (k + 1) = 128 ^ k * 128 := Nat.pow_succ _ _
  have hdm : d * 128 ^ k ≤ 127 * 128 ^ k := Nat.mul_le_mul_right _ (by omega)
  have hb : d * 128 ^ k < 9223372036854775808 := by omega
  have hcast : ((d : Int) * 2 ^ (7 * k)) = ((d * 128 ^ k : Nat) : Int) := by rw [e]; push_cast; rfl
  have hor : acc ||| (d * 128 ^ k) = acc + d * 128 ^ k := by
    have := Leb.or_low acc d k ha
    rw [Nat.shiftLeft_eq, ← e] at this
    exact this
  have h1 : (BitVec.ofInt 64 (acc : Int)).toNat = acc := by
    rw [BitVec.ofInt_natCast, BitVec.toNat_ofNat]; exact Nat.mod_eq_of_lt (by omega)
  have h2 : (BitVec.ofInt 64 ((d * 128 ^ k : Nat) : Int)).toNat = d * 128 ^ k := by
    rw [BitVec.ofInt_natCast, BitVec.toNat_ofNat]; exact Nat.mod_eq_of_lt (by omega)
  rw [hcast, IntWalk.wrap64_in _ ⟨by omega, by omega⟩]
  show IntKind.i64.wrap ((BitVec.ofInt 64 (acc : Int) ||| BitVec.ofInt 64 ((d * 128 ^ k : Nat) : Int)).toNat : Int) = _
  rw [BitVec.toNat_or, h1, h2, hor]
  exact IntWalk.i64_in _ ⟨by omega, by omega⟩

set_option maxRecDepth 100000 in
theorem and127 (x : Nat) (h : x < 256) : bits .and .u8 (x : Int) 127 = ((x % 128 : Nat) : Int) := by
  have := u8_and_nat x 127 h (by omega)
  rw [Leb.and_low] at this
  exact this

set_option maxRecDepth 100000 in
theorem and128 (x : Nat) (h : x < 256) : bits .and .u8 (x : Int) 128 = ((if x < 128 then 0 else 128 : Nat) : Int) := by
  have := u8_and_nat x 128 h (by omega)
  rw [Leb.and_high x h] at this
  exact this

set_option maxRecDepth 100000 in
theorem take_at {w : World} {b k : Nat} {r : ByteArray} {e0 : Int} {c : UInt8} (h : Rd w b (r.extract k r.size) e0) (hc : r.data.toList[k]? = some c) (hk : k < r.size) (hm : r.size ≤ 281474976710656) :
    Calls Try.prog 79 #[.pointer (some ⟨b, 0, none⟩)] w fun e w' =>
      e = .returned (.tuple #[.int .u8 c.toNat, .bool true]) ∧ Rd w' b (r.extract (k + 1) r.size) e0 ∧ w.grownBy w' (some b) := by
  have hs : (r.extract k r.size).size = r.size - k := by simp
  refine (take_some h (by omega) (by omega)).mono ?_
  rintro e w' ⟨rfl, h1, h2⟩
  rw [at_data (r.extract k r.size) (by omega) (c := c) (by rw [cut_data, List.getElem?_drop]; exact hc)]
  rw [cut_cut] at h1
  exact ⟨rfl, h1, h2⟩

set_option maxRecDepth 100000 in
set_option maxHeartbeats 800000 in
theorem number_any {w : World} {b : Nat} {r : ByteArray} {e0 : Int} (h : Rd w b r e0) (hm : r.size ≤ 281474976710656) :
    Calls Try.prog 78 #[.func (.func 79) #[.pointer (some ⟨b, 0, none⟩)] #[]] w (NumPost w b r e0) := by
  have h0 : NumRel w b r e0 0 0 w := ⟨Nat.zero_le _, by rw [show r.extract 0 r.size = r from by simp]; exact h, gb_refl _ _, by simp, by rw [List.drop_zero]; rfl⟩
  clear h
  go_enter Try.func78, Try.ntmps78
  go_wp2_with fail
  go_loopw [4, 8] (fun n i wr => ∃ k acc : Nat, k ≤ 9 ∧ i = .int .i64 k ∧ n = .int .i64 acc ∧ NumRel w b r e0 k acc wr) (fun _ i _ => (9 - intOf i).toNat)
  case atStart => exact ⟨0, 0, by omega, rfl, rfl, h0⟩
  case round =>
    obtain ⟨k, acc, hk, rfl, rfl, hrel⟩ := hrel
    by_cases h9 : k < 9
    · obtain ⟨hkr, hrd, hgb, hacc, hdec⟩ := hrel
      have Hdec := Lib.hid hdec
      clear hdec
      by_cases hlt : k < r.size
      · obtain ⟨c, hc⟩ : ∃ c : UInt8, r.data.toList[k]? = some c := ⟨r.data.toList[k]'(by rw [← Lib.size_eq]; exact hlt), List.getElem?_eq_getElem _⟩
        have hdrop : r.data.toList.drop k = c :: r.data.toList.drop (k + 1) := by
          obtain ⟨hl, he⟩ := List.getElem?_eq_some_iff.1 hc
          rw [List.drop_eq_getElem_cons hl, he]
        have hc256 := c.toNat_lt
        obtain ⟨f, hf⟩ : ∃ f, 9 - k = f + 1 := ⟨8 - k, by omega⟩
        have hdec' : Leb.first r.data.toList = if c = 0 ∧ 0 < k then (0, 0, 6) else if c.toNat < 128 then (acc + c.toNat % 128 * 128 ^ k, k + 1, 0) else Leb.dec (9 - (k + 1)) (k + 1) (acc + c.toNat % 128 * 128 ^ k) (r.data.toList.drop (k + 1)) := by
          rw [← Hdec.out, hdrop, hf, Leb.dec]
          have : 9 - (k + 1) = f := by omega
          rw [this]
        have Hdec2 := Lib.hid hdec'
        clear hdec' hdrop hf
        obtain ⟨x, hx⟩ : ∃ x : Nat, x = c.toNat := ⟨_, rfl⟩
        have hx256 : x < 256 := by omega
        have htk : Calls Try.prog 79 #[.pointer (some ⟨b, 0, none⟩)] wr fun e w' =>
            e = .returned (.tuple #[.int .u8 x, .bool true]) ∧ Rd w' b (r.extract (k + 1) r.size) e0 ∧ wr.grownBy w' (some b) := by rw [hx]; exact take_at hrd hc hlt hm
        have Htk := Lib.hid htk
        have Hx := Lib.hid hx
        obtain ⟨d, hd⟩ : ∃ d : Nat, d = x % 128 := ⟨_, rfl⟩
        have hd1 : d < 128 := by omega
        obtain ⟨n, hn⟩ : ∃ n : Nat, n = acc + d * 128 ^ k := ⟨_, rfl⟩
        have ha1 : bits .and .u8 (x : Int) 127 = (d : Int) := by rw [and127 x hx256, hd]
        have ho1 : bits .or .i64 (acc : Int) (wrap64 ((d : Int) * 2 ^ (7 * k))) = (n : Int) := by rw [or64 acc d k h9 hacc hd1, hn]
        have hn128 : n < 128 ^ (k + 1) := by
          rw [hn, Nat.pow_succ]
          have : d * 128 ^ k ≤ 127 * 128 ^ k := Nat.mul_le_mul_right _ (by omega)
          omega
        have Hn := Lib.hid hn
        have Hd := Lib.hid hd
        have Hacc := Lib.hid hacc
        have Hn128 := Lib.hid hn128
        have hne : ((0 : Int) == 0) = true := rfl
        clear hd hx htk hc hrd hn hacc hn128
        by_cases hx0 : x = 0 ∧ 0 < k
        · obtain ⟨h1, h2⟩ := hx0
          have hb0 : ((x : Int) == 0) = true := by rw [h1]; rfl
          have hc0 : c = 0 := by
            have := Hx.out
            rw [h1] at this
            exact UInt8.toNat_inj.1 this.symm
          have hfin : Hid (Leb.first r.data.toList = (0, 0, 6)) := by rw [Hdec2.out, if_pos ⟨hc0, h2⟩]; rfl
          clear h1 ha1 ho1
          go_wp2_with (go_at_call 79; refine (Htk.out).mono ?_; rintro e w' ⟨rfl, hrd', hgb'⟩)
          go_ret2
          exact ⟨k + 1, by rw [hfin.out]; rfl, hrd', gb_trans hgb hgb', by rw [hfin.out]; simp⟩
        · by_cases hx1 : x < 128
          · have ha2 : bits .and .u8 (x : Int) 128 = 0 := by rw [and128 x hx256, if_pos hx1]; rfl
            have hcz : ¬ (c = 0 ∧ 0 < k) := by
              rintro ⟨h1, h2⟩
              exact hx0 ⟨by rw [Hx.out, h1]; rfl, h2⟩
            have hfin : Hid (Leb.first r.data.toList = (n, k + 1, 0)) := by
              have e := Hn.out
              rw [Hd.out, Hx.out] at e
              rw [Hdec2.out, if_neg hcz, if_pos (by rw [← Hx.out]; exact hx1), ← e]; rfl
            by_cases hxz : x = 0
            · have hb0 : ((x : Int) == 0) = true := by rw [hxz]; rfl
              have hk0 : ¬ 0 < k := fun h => hx0 ⟨hxz, h⟩
              clear hx0 hcz hxz hx1
              go_wp2_with (go_at_call 79; refine (Htk.out).mono ?_; rintro e w' ⟨rfl, hrd', hgb'⟩)
              go_ret2
              exact ⟨k + 1, by rw [hfin.out]; rfl, hrd', gb_trans hgb hgb', by rw [hfin.out]; simp⟩
            · have hb0 : ((x : Int) == 0) = false := by simp; omega
              clear hx0 hcz hxz hx1
              go_wp2_with (go_at_call 79; refine (Htk.out).mono ?_; rintro e w' ⟨rfl, hrd', hgb'⟩)
              go_ret2
              exact ⟨k + 1, by rw [hfin.out]; rfl, hrd', gb_trans hgb hgb', by rw [hfin.out]; simp⟩
          · have ha2 : bits .and .u8 (x : Int) 128 = 128 := by rw [and128 x hx256, if_neg hx1]; rfl
            have hcz : ¬ (c = 0 ∧ 0 < k) := by
              rintro ⟨h1, h2⟩
              exact hx0 ⟨by rw [Hx.out, h1]; rfl, h2⟩
            have hfin : Hid (Leb.dec (9 - (k + 1)) (k + 1) n (r.data.toList.drop (k + 1)) = Leb.first r.data.toList) := by
              have e := Hn.out
              rw [Hd.out, Hx.out] at e
              rw [Hdec2.out, if_neg hcz, if_neg (by rw [← Hx.out]; exact hx1), ← e]; rfl
            have hb0 : ((x : Int) == 0) = false := by simp; omega
            clear hx0 hcz hx1
            go_wp2_with (go_at_call 79; refine (Htk.out).mono ?_; rintro e w' ⟨rfl, hrd', hgb'⟩)
            go_roundw
            case rel => exact ⟨k + 1, n, by omega, by go_num, rfl, by omega, hrd', gb_trans hgb hgb', Hn128.out, hfin.out⟩
            case measure => simp [intOf]; omega
      · have hs0 : (r.extract k r.size).size = 0 := by simp; omega
        have hfin : Hid (Leb.first r.data.toList = (0, 0, 5)) := by
          obtain ⟨f, hf⟩ : ∃ f, 9 - k = f + 1 := ⟨8 - k, by omega⟩
          have : r.data.toList.drop k = [] := List.drop_eq_nil_of_le (by rw [← Lib.size_eq]; omega)
          rw [← Hdec.out, this, hf]; rfl
        have Hs0 := Lib.hid hs0
        clear hs0 hacc
        go_wp2_with (go_at_call 79; refine (take_none hrd Hs0.out).mono ?_; rintro e w' ⟨rfl, rfl⟩)
        go_ret2
        exact ⟨k, by rw [hfin.out]; rfl, hrd, hgb, by rw [hfin.out]; simp⟩
    · obtain ⟨hkr, hrd, hgb, hacc, hdec⟩ := hrel
      obtain rfl : k = 9 := by omega
      have hfin : Hid (Leb.first r.data.toList = (0, 0, 6)) := by rw [← hdec]; rfl
      clear hdec hacc
      go_wp2_with fail
      go_ret2
      exact ⟨9, by rw [hfin.out]; rfl, hrd, hgb, by rw [hfin.out]; simp⟩
end Go.Proofs.Ytcgplonnhginiaa
/- The reader's N and T, Over, and the copy of a text. -/
namespace Go.Proofs.Ytcgplonnhginiaa
open Go.RowKit

/-- The reader at block b, its bytes as a list. -/
def RdL (w : World) (b : Nat) (l : List UInt8) (e : Int) : Prop := Rd w b ⟨l.toArray⟩ e

set_option maxRecDepth 100000 in
theorem ba_of (r : ByteArray) : (⟨r.data.toList.toArray⟩ : ByteArray) = r := bytes_ext rfl
set_option maxRecDepth 100000 in
theorem rd_list {w : World} {b : Nat} {r : ByteArray} {e : Int} {l : List UInt8} (h : Rd w b r e) (hl : r.data.toList = l) : RdL w b l e := by
  subst hl
  unfold RdL
  rw [ba_of]
  exact h

/-- What N makes of bytes and an error: the number, the bytes left, the error. -/
def stepN (l : List UInt8) (e : Int) : Nat × List UInt8 × Int :=
  if e = 0 then (if (Leb.first l).2.2 = 0 then ((Leb.first l).1, l.drop (Leb.first l).2.1, 0) else (0, [], (Leb.first l).2.2)) else (0, l, e)

/-- What T makes of them: the text, the bytes left, the error. -/
def stepT (l : List UInt8) (e : Int) : List UInt8 × List UInt8 × Int :=
  if e = 0 then (if (Leb.second l).2.2 = 0 then ((Leb.second l).1, l.drop (Leb.second l).2.1, 0) else ([], [], (Leb.second l).2.2)) else ([], l, e)

set_option maxRecDepth 100000 in
theorem over_any (s : ByteArray) (w : World) :
    Calls Try.prog 63 #[.string s] w fun e w' => e = .returned (.pointer (some ⟨w.heap.size, 0, none⟩)) ∧ RdL w' w.heap.size s.data.toList 0 ∧ Below w.heap.size w w' := by
  have k := Lib.hid (Row.made w 119 #[.string s, .int .i64 0])
  go_enter Try.func63, Try.ntmps63
  go_wp2
  go_ret
  exact ⟨rfl, rd_list k.out rfl, (Below.refl _ _).alloc (Nat.le_refl _) _⟩

def NPost (w : World) (b : Nat) (n : Nat) (l : List UInt8) (e0 : Int) (e : Ending) (w' : World) : Prop :=
  e = .returned (.int .i64 n) ∧ RdL w' b l e0 ∧ w.grownBy w' (some b)

set_option maxRecDepth 100000 in
theorem n_any {w : World} {b : Nat} {l : List UInt8} {e0 : Int} (h : RdL w b l e0) (hm : l.length ≤ 281474976710656) :
    Calls Try.prog 64 #[.pointer (some ⟨b, 0, none⟩)] w (NPost w b (stepN l e0).1 (stepN l e0).2.1 (stepN l e0).2.2) := by
  by_cases he : e0 = 0
  · subst he
    have hz : ((0 : Int) != 0) = false := rfl
    have hnum : Calls Try.prog 78 #[.func (.func 79) #[.pointer (some ⟨b, 0, none⟩)] #[]] w (NumPost w b ⟨l.toArray⟩ 0) := number_any h (by rw [mk_size]; exact hm)
    have herr := err_any h
    have Herr := Lib.hid herr
    by_cases hf : (Leb.first l).2.2 = 0
    · have hs : stepN l 0 = ((Leb.first l).1, l.drop (Leb.first l).2.1, 0) := by simp [stepN, hf]
      have hnum2 : Calls Try.prog 78 #[.func (.func 79) #[.pointer (some ⟨b, 0, none⟩)] #[]] w
          fun e w' => e = .returned (.tuple #[.int .i64 (Leb.first l).1, .int .i64 0]) ∧ RdL w' b (l.drop (Leb.first l).2.1) 0 ∧ w.grownBy w' (some b) := by
        refine hnum.mono ?_
        rintro e w' ⟨j, rfl, h1, h2, h3⟩
        have hj : j = (Leb.first l).2.1 := h3 hf
        refine ⟨?_, rd_list h1 ?_, h2⟩
        · show Ending.returned (.tuple #[.int .i64 (Leb.first l).1, .int .i64 (Leb.first l).2.2]) = _
          rw [hf]
        · rw [cut_data, hj]
      rw [hs]
      have Hnum := Lib.hid hnum2
      generalize (Leb.first l).1 = n at *
      generalize l.drop (Leb.first l).2.1 = l1 at *
      clear hnum hnum2 hf hs h herr
      go_enter Try.func64, Try.ntmps64
      go_wp2_with (first
        | (go_at_call 65; refine (Herr.out).mono ?_; rintro e w' ⟨rfl, rfl⟩)
        | (go_at_call 78; refine (Hnum.out).mono ?_; rintro e w' ⟨rfl, h1, h2⟩))
      go_ret
      exact ⟨rfl, h1, h2⟩
    · have hs : stepN l 0 = (0, [], (Leb.first l).2.2) := by simp [stepN, hf]
      have hn0 : (Leb.first l).1 = 0 := by
        rcases (Leb.first_fits l).2.2.1 with h1 | h1
        · exact absurd h1 hf
        · exact h1.1
      have hnum2 : Calls Try.prog 78 #[.func (.func 79) #[.pointer (some ⟨b, 0, none⟩)] #[]] w
          fun e w' => e = .returned (.tuple #[.int .i64 0, .int .i64 (Leb.first l).2.2]) ∧ (∃ r, Rd w' b r 0) ∧ w.grownBy w' (some b) := by
        refine hnum.mono ?_
        rintro e w' ⟨j, rfl, h1, h2, _⟩
        refine ⟨?_, ⟨_, h1⟩, h2⟩
        show Ending.returned (.tuple #[.int .i64 (Leb.first l).1, .int .i64 (Leb.first l).2.2]) = _
        rw [hn0]; rfl
      rw [hs]
      have Hnum := Lib.hid hnum2
      have hne : ((Leb.first l).2.2 != 0) = true := by simp [hf]
      generalize (Leb.first l).2.2 = x at *
      clear hnum hnum2 hf hs h herr hn0
      go_enter Try.func64, Try.ntmps64
      go_wp2_with (first
        | (go_at_call 65; refine (Herr.out).mono ?_; rintro e w' ⟨rfl, rfl⟩)
        | (go_at_call 78; refine (Hnum.out).mono ?_; rintro e w' ⟨rfl, ⟨r1, h1⟩, h2⟩)
        | (go_at_call 80; refine (fail_any h1 _).mono ?_; rintro e w' ⟨rfl, h3, h4⟩))
      go_ret
      exact ⟨rfl, rd_list h3 rfl, gb_trans h2 h4⟩
  · have hs : stepN l e0 = (0, l, e0) := by simp [stepN, he]
    rw [hs]
    have hne : (e0 != 0) = true := by simp [he]
    clear he hs
    go_enter Try.func64, Try.ntmps64
    go_wp2_with (first | (go_at_call 65; refine (err_any h).mono ?_; rintro e w' ⟨rfl, rfl⟩))
    go_ret
    exact ⟨rfl, h, gb_refl _ _⟩

set_option maxRecDepth 100000 in
theorem n_nil (w : World) : Calls Try.prog 64 #[.pointer none] w fun e w' => e = .returned (.int .i64 0) ∧ w = w' := by
  go_enter Try.func64, Try.ntmps64
  go_wp2_with (first | (go_at_call 65; refine (err_nil _).mono ?_; rintro e w' ⟨rfl, rfl⟩))
  go_ret
  exact ⟨rfl, rfl⟩

set_option maxRecDepth 100000 in
theorem t_nil (w : World) : Calls Try.prog 68 #[.pointer none] w fun e w' => e = .returned (.string ⟨#[]⟩) ∧ w = w' := by
  go_enter Try.func68, Try.ntmps68
  go_wp2_with (first
    | (go_at_call 64; refine (n_nil _).mono ?_; rintro e w' ⟨rfl, rfl⟩)
    | (go_at_call 65; refine (err_nil _).mono ?_; rintro e w' ⟨rfl, rfl⟩))
  go_ret
  exact ⟨rfl, rfl⟩
end Go.Proofs.Ytcgplonnhginiaa
/- The small functions of laying: N, T, parts, appendNumber. -/
namespace Go.Proofs.Ytcgplonnhginiaa
open Go.RowKit

set_option maxRecDepth 100000 in
theorem field_n (n : Int) (w : World) :
    Calls Try.prog 60 #[.int .i64 n] w fun e w' => e = .returned (.agg #[.int .i64 n, .string ⟨#[]⟩, .bool false]) ∧ Below w.heap.size w w' := by
  go_enter Try.func60, Try.ntmps60
  go_wp2
  refine bodyPost_ret (v := .agg #[.int .i64 n, .string ⟨#[]⟩, .bool false]) (by simp [results, Try.results60, go_sem]) rfl ⟨rfl, (Below.refl _ _).alloc (Nat.le_refl _) _⟩

set_option maxRecDepth 100000 in
theorem field_t (s : ByteArray) (w : World) :
    Calls Try.prog 84 #[.string s] w fun e w' => e = .returned (.agg #[.int .i64 0, .string s, .bool true]) ∧ Below w.heap.size w w' := by
  go_enter Try.func84, Try.ntmps84
  go_wp2
  refine bodyPost_ret (v := .agg #[.int .i64 0, .string s, .bool true]) (by simp [results, Try.results84, go_sem]) rfl ⟨rfl, (Below.refl _ _).alloc (Nat.le_refl _) _⟩

set_option maxRecDepth 100000 in
theorem parts_n (n : Int) (s : ByteArray) (w : World) :
    Calls Try.prog 74 #[.agg #[.int .i64 n, .string s, .bool false]] w fun e w' => e = .returned (.tuple #[.int .i64 n, .string ⟨#[]⟩]) ∧ Below w.heap.size w w' := by
  go_enter Try.func74, Try.ntmps74
  go_wp2
  go_ret2
  exact ⟨rfl, by repeat (first | exact Below.refl _ _ | apply Below.drew | refine Below.alloc ?_ (Nat.le_refl _) _)⟩

set_option maxRecDepth 100000 in
theorem parts_t (n : Int) (s : ByteArray) (w : World) :
    Calls Try.prog 74 #[.agg #[.int .i64 n, .string s, .bool true]] w fun e w' => e = .returned (.tuple #[.int .i64 s.size, .string s]) ∧ Below w.heap.size w w' := by
  go_enter Try.func74, Try.ntmps74
  go_wp2
  go_quiet (fail)
  go_wp2
  go_ret2
  exact ⟨rfl, ⟨rfl, rfl, rfl, by simp, fun k hk => Below.heap_alloc _ _ _ hk⟩⟩

/-- Rows of other element types than t stay. -/
def Spares (t : TypeId) (w w' : World) : Prop := ∀ (b : Nat) (u : TypeId) (cs : Array Value), u ≠ t → Row w b u cs → Row w' b u cs

set_option maxRecDepth 100000 in
theorem Spares.same (t : TypeId) (w : World) : Spares t w w := fun _ _ _ _ h => h
set_option maxRecDepth 100000 in
theorem Spares.then_ {t : TypeId} {a b c : World} (h : Spares t a b) (k : Spares t b c) : Spares t a c := fun i u cs hu hr => k i u cs hu (h i u cs hu hr)
set_option maxRecDepth 100000 in
theorem Spares.draws {t : TypeId} {a w : World} (h : Spares t a w) (n : Nat) : Spares t a (w.drewN n) := h
set_option maxRecDepth 100000 in
theorem Spares.new {t : TypeId} {a w : World} (h : Spares t a w) (o : Obj) : Spares t a (w.alloc o) := fun i u cs hu hr => (h i u cs hu hr).behindNew o
set_option maxRecDepth 100000 in
theorem Spares.below {t : TypeId} {w w' : World} (h : Below w.heap.size w w') : Spares t w w' := fun _ _ _ _ hr => hr.below h hr.inHeap

set_option maxRecDepth 100000 in
/-- An owned row of type t is no row of another type. -/
theorem own_other {w : World} {base : Nat} {t : TypeId} {size n : Nat} {v : Value} {xs : List Value} (h : w.ownsRow base t size v n xs) {b : Nat} {u : TypeId} {cs : Array Value} (hr : Row w b u cs) (hu : u ≠ t) : v.ownBlock ≠ some b := by
  rcases h.2 with ⟨hv, _⟩ | ⟨g, cap, cur, hv, _, hh, _⟩
  · rw [hv]; simp [Value.ownBlock]
  · rw [hv]
    intro he
    have e : g = b := by simpa [Value.ownBlock] using he
    rw [e] at hh
    have h2 : w.heap[b]? = some (Obj.cells cs u (0, 0)) := hr
    rw [h2] at hh
    injection hh with hh
    injection hh with _ ht
    exact hu ht

set_option maxRecDepth 100000 in
theorem Spares.grown {t : TypeId} {w w' : World} {base size n : Nat} {v : Value} {xs : List Value} (h : w.ownsRow base t size v n xs) (hg : w.grownBy w' v.ownBlock) : Spares t w w' :=
  fun _ _ _ hu hr => hr.grown hg (own_other h hr hu)

set_option maxRecDepth 100000 in
theorem own_from {w : World} {base t size n : Nat} {v : Value} {xs : List Value} (h : w.ownsRow base t size v n xs) : ∀ k, v.ownBlock = some k → base ≤ k := by
  intro k hk
  rcases h.2 with ⟨hv, _⟩ | ⟨g, cap, cur, hv, hb, _⟩
  · rw [hv] at hk; simp [Value.ownBlock] at hk
  · rw [hv] at hk
    have : g = k := by simpa [Value.ownBlock] using hk
    omega

/-- What laying leaves: a value that owns so many bytes more; nothing older than base has turned, nor a row of another type. -/
def LaidPost (w : World) (base : Nat) (n : Nat) (xs : List Value) (news : List UInt8) (e : Ending) (w' : World) : Prop :=
  ∃ v, e = .returned v ∧ w'.ownsRow base 5 1 v (n + news.length) (xs ++ Lib.byteCells news) ∧ Below base w w' ∧ Spares 5 w w'

def NumLoop (w : World) (base n : Nat) (xs : List Value) (l : List UInt8) (v : Value) (m : Nat) (wr : World) : Prop :=
  ∃ (f : Nat) (pre : List UInt8), m < 128 ^ (f + 1) ∧ f ≤ 8 ∧ pre ++ Leb.encF f m = l ∧ wr.ownsRow base 5 1 v (n + pre.length) (xs ++ Lib.byteCells pre) ∧ Below base w wr ∧ Spares 5 w wr

set_option maxRecDepth 100000 in
theorem num_more {w wr w2 : World} {base n m' : Nat} {xs : List Value} {l pre : List UInt8} {f : Nat} {v v' : Value} (hbig : 127 < m') (hf : m' < 128 ^ (f + 1)) (hf8 : f ≤ 8) (hpre : pre ++ Leb.encF f m' = l)
    (hB : base ≤ w.heap.size) (hbel : Below base w wr) (hsp : Spares 5 w wr) (hown : wr.ownsRow base 5 1 v (n + pre.length) (xs ++ Lib.byteCells pre)) {o : Obj}
    (hown' : w2.ownsRow base 5 1 v' (n + pre.length + 1) (xs ++ (Lib.byteCells pre ++ [Value.int .u8 ((m' % 128 + 128 : Nat) : Int)]))) (hg : (wr.alloc o).grownBy w2 v.ownBlock) :
    NumLoop w base n xs l v' (m' / 128) w2 := by
  cases f with
  | zero => simp at hf; omega
  | succ f =>
    have hs := hbel.size
    refine ⟨f, pre ++ [UInt8.ofNat (m' % 128 + 128)], ?_, by omega, ?_, ?_, ?_, ?_⟩
    · rw [Nat.div_lt_iff_lt_mul (by omega), ← Nat.pow_succ]; exact hf
    · rw [← hpre, Leb.encF, if_neg (by omega)]; simp
    · have e : Lib.byteCells (pre ++ [UInt8.ofNat (m' % 128 + 128)]) = Lib.byteCells pre ++ [Value.int .u8 ((m' % 128 + 128 : Nat) : Int)] := by
        rw [Lib.byteCells_append]
        simp only [Lib.byteCells, List.map_cons, List.map_nil, Leb.toNat_ofNat (m' % 128 + 128) (by omega)]
      rw [e, List.length_append]
      exact hown'
    · exact (hbel.alloc (by omega) o).grown hg (by simp; omega) (fun k hk => own_from hown k hk)
    · exact (hsp.new o).then_ (Spares.grown (hown.alloc o) hg)

set_option maxRecDepth 100000 in
theorem num_done {w wr w2 : World} {base n m' : Nat} {xs : List Value} {l pre : List UInt8} {f : Nat} {v v' : Value} (hbig : ¬ 127 < m') (hpre : pre ++ Leb.encF f m' = l)
    (hB : base ≤ w.heap.size) (hbel : Below base w wr) (hsp : Spares 5 w wr) (hown : wr.ownsRow base 5 1 v (n + pre.length) (xs ++ Lib.byteCells pre)) {o : Obj}
    (hown' : w2.ownsRow base 5 1 v' (n + pre.length + 1) (xs ++ (Lib.byteCells pre ++ [Value.int .u8 (m' : Int)]))) (hg : (wr.alloc o).grownBy w2 v.ownBlock) :
    LaidPost w base n xs l (.returned v') w2 := by
  have hs := hbel.size
  have he : Leb.encF f m' = [UInt8.ofNat m'] := by
    cases f with
    | zero => rfl
    | succ f => rw [Leb.encF, if_pos (by omega)]
  rw [he] at hpre
  refine ⟨v', rfl, ?_, (hbel.alloc (by omega) o).grown hg (by simp; omega) (fun k hk => own_from hown k hk), (hsp.new o).then_ (Spares.grown (hown.alloc o) hg)⟩
  have e : Lib.byteCells l = Lib.byteCells pre ++ [Value.int .u8 (m' : Int)] := by
    rw [← hpre, Lib.byteCells_append]
    simp only [Lib.byteCells, List.map_cons, List.map_nil, Leb.toNat_ofNat m' (by omega)]
  rw [e, ← hpre, List.length_append]
  exact hown'

set_option maxRecDepth 100000 in
theorem byteInfo : (Try.prog.info? 5).map (fun i => (i.zero, i.size, i.bytes)) = some (some (.int .u8 0), 1, 1) := by kernel_rfl

set_option maxRecDepth 100000 in
set_option maxHeartbeats 800000 in
theorem append_number {w : World} {base n m : Nat} {v : Value} {xs : List Value} (hown : w.ownsRow base 5 1 v n xs) (hn : n ≤ 65536) (hm : m < 9223372036854775808) (hB : base ≤ w.heap.size) :
    Calls Try.prog 87 #[v, .int .i64 m] w (LaidPost w base n xs (Leb.enc m)) := by
  obtain ⟨i0, hi, hz0, hz1, hz2⟩ := info_parts byteInfo
  have h0 : NumLoop w base n xs (Leb.enc m) v m w := ⟨8, [], by simpa using hm, by omega, rfl, by simpa [Lib.byteCells] using hown, Below.refl _ _, Spares.same _ _⟩
  clear hown
  go_enter Try.func87, Try.ntmps87
  go_wp2_with fail
  go_loopw [0, 1] (fun b x wr => ∃ m' : Nat, x = .int .i64 m' ∧ m' ≤ m ∧ NumLoop w base n xs (Leb.enc m) b m' wr) (fun _ x _ => (intOf x).toNat)
  case atStart => exact ⟨m, rfl, Nat.le_refl _, h0⟩
  case round =>
    obtain ⟨m', rfl, hm', f, pre, hf, hf8, hpre, hown, hbel, hsp⟩ := hrel
    have Hf := Lib.hid hf
    have Hpre := Lib.hid hpre
    have hpl : pre.length ≤ 9 := by
      have := (Leb.enc_len m).2
      rw [← hpre, List.length_append] at this
      omega
    have Hsz := Lib.hid hbel.size
    clear hf hpre
    by_cases hbig : 127 < m'
    · obtain ⟨d, hd⟩ : ∃ d : Nat, d = m' % 128 := ⟨_, rfl⟩
      obtain ⟨g, hg⟩ : ∃ g : Nat, g = d + 128 := ⟨_, rfl⟩
      have hd1 : d < 128 := by omega
      have ha : bits .and .i64 (m' : Int) 127 = (d : Int) := by rw [i64_and127, hd]; rfl
      have ho : bits .or .u8 (d : Int) 128 = (g : Int) := by rw [u8_or128_right _ (by omega) (by omega), hg]; rfl
      have Hd := Lib.hid hd
      have Hg := Lib.hid hg
      clear hd hg
      go_wp2_with (at_builtin; refine wpList_append_own _ rfl _ _ 64 rfl base 5 i0 (.int .u8 0) 1 1 Try.underlying64 hi hz0 hz1 hz2 rfl (by decide) _ _ _ rfl (hown.alloc _) ⟨wr.heap.size, 0, none⟩ 1 1 [.int .u8 (g : Int)] rfl rfl ?c1 ?c2 ?c3 ?c4 ?c5 ?_)
      case c1 =>
        intro j u hj
        match j, hj with
        | 0, hj => simp at hj; subst hj; simp [Addr.add]
      case c2 => intro u hu; simp at hu; subst hu; rfl
      case c3 => unfold maxLen; omega
      case c4 => omega
      case c5 => have := Hsz.out; simp; omega
      intro v' w2 hown' hgrow' _
      have hstep := num_more hbig Hf.out hf8 Hpre.out hB hbel hsp hown (v' := v') (by rw [← Hd.out, ← Hg.out]; simpa using hown') hgrow'
      clear hown' hgrow' hown
      go_wp2
      go_roundw
      case rel => exact ⟨m' / 128, by simp, by omega, hstep⟩
      case measure => simp [intOf]; omega
    · go_wp2_with (at_builtin; refine wpList_append_own _ rfl _ _ 64 rfl base 5 i0 (.int .u8 0) 1 1 Try.underlying64 hi hz0 hz1 hz2 rfl (by decide) _ _ _ rfl (hown.alloc _) ⟨wr.heap.size, 0, none⟩ 1 1 [.int .u8 (m' : Int)] rfl rfl ?d1 ?d2 ?d3 ?d4 ?d5 ?_)
      case d1 =>
        intro j u hj
        match j, hj with
        | 0, hj => simp at hj; subst hj; simp [Addr.add]
      case d2 => intro u hu; simp at hu; subst hu; rfl
      case d3 => unfold maxLen; omega
      case d4 => omega
      case d5 => have := Hsz.out; simp; omega
      intro v' w2 hown' hgrow' _
      have hstep := num_done hbig Hpre.out hB hbel hsp hown (v' := v') (by simpa using hown') hgrow'
      clear hown' hgrow' hown
      go_wp2
      go_ret
      exact hstep
end Go.Proofs.Ytcgplonnhginiaa
