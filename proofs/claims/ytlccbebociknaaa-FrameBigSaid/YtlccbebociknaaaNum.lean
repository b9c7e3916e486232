/- 'number': the number that the reader's bytes begin with, byte by byte. -/
import Derived.Test.YtlccbebociknaaaIn
import Derived.Test.YtlccbebociknaaaMath
import Derived.Test.YtlccbebociknaaaBytes
import Derived.Deep.QuietTactic
import Derived.BigQuiet
import Derived.Laws.BitsAllLaws
namespace Go.Proofs.Ytlccbebociknaaa
open Go.RowKit

/-- What 'number' leaves: what 'Leb.first' says, and the reader's bytes cut. -/
def NumPost (w : World) (b : Nat) (r : ByteArray) (e0 : Int) (e : Ending) (w' : World) : Prop :=
  ∃ j, e = .returned (.tuple #[.int .i64 (Leb.first r.data.toList).1, .int .i64 (Leb.first r.data.toList).2.2]) ∧ Rd w' b (r.extract j r.size) e0 ∧ w.grownBy w' (some b) ∧
    ((Leb.first r.data.toList).2.2 = 0 → j = (Leb.first r.data.toList).2.1)

/-- At the head of round k. -/
def NumRel (w : World) (b : Nat) (r : ByteArray) (e0 : Int) (k acc : Nat) (wr : World) : Prop :=
  k ≤ r.size ∧ Rd wr b (r.extract k r.size) e0 ∧ w.grownBy wr (some b) ∧ acc < 128 ^ k ∧ Leb.dec (9 - k) k acc (r.data.toList.drop k) = Leb.first r.data.toList

/-! ### What the round reckons -/

theorem or64 (acc d k : Nat) (hk : k < 9) (ha : acc < 128 ^ k) (hd : d < 128) :
    bits .or .i64 (acc : Int) (wrap64 ((d : Int) * 2 ^ (7 * k))) = ((acc + d * 128 ^ k : Nat) : Int) := by
  have e : (128 : Nat) ^ k = 2 ^ (7 * k) := by rw [Nat.pow_mul]
  have hpow : (128 : Nat) ^ (k + 1) ≤ 128 ^ 9 := Nat.pow_le_pow_right (by omega) (by omega)
  have h9 : (128 : Nat) ^ 9 = 9223372036854775808 := by decide
  have hs : (128 : Nat) ^ (k + 1) = 128 ^ k * 128 := Nat.pow_succ _ _
  have hdm : d * 128 ^ k ≤ 127 * 128 ^ k := Nat.mul_le_mul_right _ (by omega)
  have hb : d * 128 ^ k < 9223372036854775808 := by omega
  have hcast : ((d : Int) * 2 ^ (7 * k)) = ((d * 128 ^ k : Nat) : Int) := by rw [e]; push_cast; rfl
  have hor : acc ||| (d * 128 ^ k) = acc + d * 128 ^ k := by
    have := Leb.or_low acc d k ha
    rw [Nat.shiftLeft_eq, ← e] at this
    exact this
  have h1 : (BitVec.ofInt 64 (acc : Int)).toNat = acc := by
    rw [BitVec.ofInt_natCast, BitVec.toNat_ofNat]; exact Nat.mod_eq_of_lt (by omega)
  have h2 : (BitVec.ofInt 64 ((d * 128 ^ k : Nat) : Int)).toNat = d * 128 ^ k := by
    rw [BitVec.ofInt_natCast, BitVec.toNat_ofNat]; exact Nat.mod_eq_of_lt (by omega)
  rw [hcast, IntWalk.wrap64_in _ ⟨by omega, by omega⟩]
  show IntKind.i64.wrap ((BitVec.ofInt 64 (acc : Int) ||| BitVec.ofInt 64 ((d * 128 ^ k : Nat) : Int)).toNat : Int) = _
  rw [BitVec.toNat_or, h1, h2, hor]
  exact IntWalk.i64_in _ ⟨by omega, by omega⟩

theorem and127 (x : Nat) (h : x < 256) : bits .and .u8 (x : Int) 127 = ((x % 128 : Nat) : Int) := by
  have := u8_and_nat x 127 h (by omega)
  rw [Leb.and_low] at this
  exact this

theorem and128 (x : Nat) (h : x < 256) : bits .and .u8 (x : Int) 128 = ((if x < 128 then 0 else 128 : Nat) : Int) := by
  have := u8_and_nat x 128 h (by omega)
  rw [Leb.and_high x h] at this
  exact this

theorem take_at {w : World} {b k : Nat} {r : ByteArray} {e0 : Int} {c : UInt8} (h : Rd w b (r.extract k r.size) e0) (hc : r.data.toList[k]? = some c) (hk : k < r.size) (hm : r.size ≤ 281474976710656) :
    Calls Try.prog 43 #[.pointer (some ⟨b, 0, none⟩)] w fun e w' =>
      e = .returned (.tuple #[.int .u8 c.toNat, .bool true]) ∧ Rd w' b (r.extract (k + 1) r.size) e0 ∧ w.grownBy w' (some b) := by
  have hs : (r.extract k r.size).size = r.size - k := by simp
  refine (take_some h (by omega) (by omega)).mono ?_
  rintro e w' ⟨rfl, h1, h2⟩
  rw [at_data (r.extract k r.size) (by omega) (c := c) (by rw [cut_data, List.getElem?_drop]; exact hc)]
  rw [cut_cut] at h1
  exact ⟨rfl, h1, h2⟩

set_option maxHeartbeats 800000 in
theorem number_any {w : World} {b : Nat} {r : ByteArray} {e0 : Int} (h : Rd w b r e0) (hm : r.size ≤ 281474976710656) :
    Calls Try.prog 42 #[.func (.func 43) #[.pointer (some ⟨b, 0, none⟩)] #[]] w (NumPost w b r e0) := by
  have h0 : NumRel w b r e0 0 0 w := ⟨Nat.zero_le _, by rw [show r.extract 0 r.size = r from by simp]; exact h, gb_refl _ _, by simp, by rw [List.drop_zero]; rfl⟩
  clear h
  go_enter Try.func42, Try.ntmps42
  go_wp2_with fail
  go_loopw [4, 8] (fun n i wr => ∃ k acc : Nat, k ≤ 9 ∧ i = .int .i64 k ∧ n = .int .i64 acc ∧ NumRel w b r e0 k acc wr) (fun _ i _ => (9 - intOf i).toNat)
  case atStart => exact ⟨0, 0, by omega, rfl, rfl, h0⟩
  case round =>
    obtain ⟨k, acc, hk, rfl, rfl, hrel⟩ := hrel
    by_cases h9 : k < 9
    · obtain ⟨hkr, hrd, hgb, hacc, hdec⟩ := hrel
      have Hdec := Lib.hid hdec
      clear hdec
      by_cases hlt : k < r.size
      · obtain ⟨c, hc⟩ : ∃ c : UInt8, r.data.toList[k]? = some c := ⟨r.data.toList[k]'(by rw [← Lib.size_eq]; exact hlt), List.getElem?_eq_getElem _⟩
        have hdrop : r.data.toList.drop k = c :: r.data.toList.drop (k + 1) := by
          obtain ⟨hl, he⟩ := List.getElem?_eq_some_iff.1 hc
          rw [List.drop_eq_getElem_cons hl, he]
        have hc256 := c.toNat_lt
        obtain ⟨f, hf⟩ : ∃ f, 9 - k = f + 1 := ⟨8 - k, by omega⟩
        have hdec' : Leb.first r.data.toList = if c = 0 ∧ 0 < k then (0, 0, 6) else if c.toNat < 128 then (acc + c.toNat % 128 * 128 ^ k, k + 1, 0) else Leb.dec (9 - (k + 1)) (k + 1) (acc + c.toNat % 128 * 128 ^ k) (r.data.toList.drop (k + 1)) := by
          rw [← Hdec.out, hdrop, hf, Leb.dec]
          have : 9 - (k + 1) = f := by omega
          rw [this]
        have Hdec2 := Lib.hid hdec'
        clear hdec' hdrop hf
        obtain ⟨x, hx⟩ : ∃ x : Nat, x = c.toNat := ⟨_, rfl⟩
        have hx256 : x < 256 := by omega
        have htk : Calls Try.prog 43 #[.pointer (some ⟨b, 0, none⟩)] wr fun e w' =>
            e = .returned (.tuple #[.int .u8 x, .bool true]) ∧ Rd w' b (r.extract (k + 1) r.size) e0 ∧ wr.grownBy w' (some b) := by rw [hx]; exact take_at hrd hc hlt hm
        have Htk := Lib.hid htk
        have Hx := Lib.hid hx
        obtain ⟨d, hd⟩ : ∃ d : Nat, d = x % 128 := ⟨_, rfl⟩
        have hd1 : d < 128 := by omega
        obtain ⟨n, hn⟩ : ∃ n : Nat, n = acc + d * 128 ^ k := ⟨_, rfl⟩
        have ha1 : bits .and .u8 (x : Int) 127 = (d : Int) := by rw [and127 x hx256, hd]
        have ho1 : bits .or .i64 (acc : Int) (wrap64 ((d : Int) * 2 ^ (7 * k))) = (n : Int) := by rw [or64 acc d k h9 hacc hd1, hn]
        have hn128 : n < 128 ^ (k + 1) := by
          rw [hn, Nat.pow_succ]
          have : d * 128 ^ k ≤ 127 * 128 ^ k := Nat.mul_le_mul_right _ (by omega)
          omega
        have Hn := Lib.hid hn
        have Hd := Lib.hid hd
        have Hacc := Lib.hid hacc
        have Hn128 := Lib.hid hn128
        have hne : ((0 : Int) == 0) = true := rfl
        clear hd hx htk hc hrd hn hacc hn128
        by_cases hx0 : x = 0 ∧ 0 < k
        · obtain ⟨h1, h2⟩ := hx0
          have hb0 : ((x : Int) == 0) = true := by rw [h1]; rfl
          have hc0 : c = 0 := by
            have := Hx.out
            rw [h1] at this
            exact UInt8.toNat_inj.1 this.symm
          have hfin : Hid (Leb.first r.data.toList = (0, 0, 6)) := by rw [Hdec2.out, if_pos ⟨hc0, h2⟩]; rfl
          clear h1 ha1 ho1
          go_wp2_with (go_at_call 43; refine (Htk.out).mono ?_; rintro e w' ⟨rfl, hrd', hgb'⟩)
          go_ret2
          exact ⟨k + 1, by rw [hfin.out]; rfl, hrd', gb_trans hgb hgb', by rw [hfin.out]; simp⟩
        · by_cases hx1 : x < 128
          · have ha2 : bits .and .u8 (x : Int) 128 = 0 := by rw [and128 x hx256, if_pos hx1]; rfl
            have hcz : ¬ (c = 0 ∧ 0 < k) := by
              rintro ⟨h1, h2⟩
              exact hx0 ⟨by rw [Hx.out, h1]; rfl, h2⟩
            have hfin : Hid (Leb.first r.data.toList = (n, k + 1, 0)) := by
              have e := Hn.out
              rw [Hd.out, Hx.out] at e
              rw [Hdec2.out, if_neg hcz, if_pos (by rw [← Hx.out]; exact hx1), ← e]; rfl
            by_cases hxz : x = 0
            · have hb0 : ((x : Int) == 0) = true := by rw [hxz]; rfl
              have hk0 : ¬ 0 < k := fun h => hx0 ⟨hxz, h⟩
              clear hx0 hcz hxz hx1
              go_wp2_with (go_at_call 43; refine (Htk.out).mono ?_; rintro e w' ⟨rfl, hrd', hgb'⟩)
              go_ret2
              exact ⟨k + 1, by rw [hfin.out]; rfl, hrd', gb_trans hgb hgb', by rw [hfin.out]; simp⟩
            · have hb0 : ((x : Int) == 0) = false := by simp; omega
              clear hx0 hcz hxz hx1
              go_wp2_with (go_at_call 43; refine (Htk.out).mono ?_; rintro e w' ⟨rfl, hrd', hgb'⟩)
              go_ret2
              exact ⟨k + 1, by rw [hfin.out]; rfl, hrd', gb_trans hgb hgb', by rw [hfin.out]; simp⟩
          · have ha2 : bits .and .u8 (x : Int) 128 = 128 := by rw [and128 x hx256, if_neg hx1]; rfl
            have hcz : ¬ (c = 0 ∧ 0 < k) := by
              rintro ⟨h1, h2⟩
              exact hx0 ⟨by rw [Hx.out, h1]; rfl, h2⟩
            have hfin : Hid (Leb.dec (9 - (k + 1)) (k + 1) n (r.data.toList.drop (k + 1)) = Leb.first r.data.toList) := by
              have e := Hn.out
              rw [Hd.out, Hx.out] at e
              rw [Hdec2.out, if_neg hcz, if_neg (by rw [← Hx.out]; exact hx1), ← e]; rfl
            have hb0 : ((x : Int) == 0) = false := by simp; omega
            clear hx0 hcz hx1
            go_wp2_with (go_at_call 43; refine (Htk.out).mono ?_; rintro e w' ⟨rfl, hrd', hgb'⟩)
            go_roundw
            case rel => exact ⟨k + 1, n, by omega, by go_num, rfl, by omega, hrd', gb_trans hgb hgb', Hn128.out, hfin.out⟩
            case measure => simp [intOf]; omega
      · have hs0 : (r.extract k r.size).size = 0 := by simp; omega
        have hfin : Hid (Leb.first r.data.toList = (0, 0, 5)) := by
          obtain ⟨f, hf⟩ : ∃ f, 9 - k = f + 1 := ⟨8 - k, by omega⟩
          have : r.data.toList.drop k = [] := List.drop_eq_nil_of_le (by rw [← Lib.size_eq]; omega)
          rw [← Hdec.out, this, hf]; rfl
        have Hs0 := Lib.hid hs0
        clear hs0 hacc
        go_wp2_with (go_at_call 43; refine (take_none hrd Hs0.out).mono ?_; rintro e w' ⟨rfl, rfl⟩)
        go_ret2
        exact ⟨k, by rw [hfin.out]; rfl, hrd, hgb, by rw [hfin.out]; simp⟩
    · obtain ⟨hkr, hrd, hgb, hacc, hdec⟩ := hrel
      obtain rfl : k = 9 := by omega
      have hfin : Hid (Leb.first r.data.toList = (0, 0, 6)) := by rw [← hdec]; rfl
      clear hdec hacc
      go_wp2_with fail
      go_ret2
      exact ⟨9, by rw [hfin.out]; rfl, hrd, hgb, by rw [hfin.out]; simp⟩
end Go.Proofs.Ytlccbebociknaaa
