/- The document's own answers: Number, Text, First, Second. -/
import Derived.Test.YtlccbebociknaaaFrame
import Derived.Test.YtlccbebociknaaaMath
import Derived.Test.YtlccbebociknaaaBytes
import Derived.OwnWalk
import Derived.Lib.Hide
import Derived.Laws.BitsAllLaws
namespace Go.Proofs.Ytlccbebociknaaa
open Go.RowKit

theorem one_byte (W : World) (g : Nat) (hg : g < 256) :
    (convert 38 9 (.slice (some ⟨W.heap.size, 0, none⟩) 1 1)).run Try.prog (W.alloc (.cells #[.int .u8 (g : Int)] 5)) = .ok (.string ⟨#[UInt8.ofNat g]⟩) (W.alloc (.cells #[.int .u8 (g : Int)] 5)) := by
  refine run_convert_bytes_back (P := Try.prog) _ 38 9 5 ⟨W.heap.size, 0, none⟩ 1 [UInt8.ofNat g] Try.underlying38 Try.underlying5 Try.underlying9 (fun j hj => ?_)
  have hj0 : j = 0 := by simpa using hj
  subst hj0
  have := (Row.made W 5 #[.int .u8 (g : Int)]).at 0
  rw [show (⟨W.heap.size, 0, none⟩ : Addr).add 0 = ⟨W.heap.size, 0, none⟩ from rfl, this]
  simp only [List.getElem_cons_zero, Leb.toNat_ofNat g hg]
  rfl

def RefLoop (w : World) (l : List UInt8) (out : ByteArray) (m : Nat) (wr : World) : Prop :=
  ∃ f, m < 128 ^ (f + 1) ∧ f ≤ 8 ∧ out.data.toList ++ Leb.encF f m = l ∧ Below w.heap.size w wr

set_option maxRecDepth 100000 in
set_option maxHeartbeats 800000 in
theorem ref_number (n : Nat) (w : World) (hn : n < 9223372036854775808) :
    Calls Try.prog 17 #[.int .i64 n] w fun e w' => e = .returned (.string ⟨(Leb.enc n).toArray⟩) ∧ Below w.heap.size w w' := by
  have h0 : RefLoop w (Leb.enc n) ⟨#[]⟩ n w := ⟨8, by simpa using hn, by omega, rfl, Below.refl _ _⟩
  clear hn
  go_enter Try.func17, Try.ntmps17
  go_wp2
  go_loopw [0, 3] (fun x o wr => ∃ (m : Nat) (out : ByteArray), x = .int .i64 m ∧ o = .string out ∧ m ≤ n ∧ RefLoop w (Leb.enc n) out m wr) (fun x _ _ => (intOf x).toNat)
  case atStart => exact ⟨n, ⟨#[]⟩, rfl, rfl, Nat.le_refl _, h0⟩
  case round =>
    obtain ⟨m, out, rfl, rfl, hm, f, hf, hf8, hout, hbel⟩ := hrel
    have hol : out.size ≤ 9 := by
      have h1 := (Leb.enc_len n).2
      rw [← hout, List.length_append, ← Lib.size_eq] at h1
      omega
    have hmm : (m : Int) ≤ 9223372036854775807 := by
      have : (128 : Nat) ^ (f + 1) ≤ 128 ^ 9 := Nat.pow_le_pow_right (by omega) (by omega)
      have h9 : (128 : Nat) ^ 9 = 9223372036854775808 := by decide
      omega
    have Hf := Lib.hid hf
    have Hout := Lib.hid hout
    clear hf hout
    by_cases hbig : 127 < m
    · obtain ⟨g, hg⟩ : ∃ g : Nat, g = m % 128 + 128 := ⟨_, rfl⟩
      have hg1 : g < 256 := by omega
      have hgi : (m : Int) % 128 + 128 = (g : Int) := by omega
      have hconv := one_byte wr g hg1
      have Hg := Lib.hid hg
      clear hg
      have hnew : RefLoop w (Leb.enc n) (out ++ ⟨#[UInt8.ofNat g]⟩) (m / 128) (wr.alloc (.cells #[.int .u8 (g : Int)] 5)) := by
        have h1 := Hf.out
        have h2 := Hout.out
        cases f with
        | zero => simp at h1; omega
        | succ f =>
          refine ⟨f, ?_, by omega, ?_, hbel.alloc hbel.size _⟩
          · rw [Nat.div_lt_iff_lt_mul (by omega), ← Nat.pow_succ]; exact h1
          · rw [← h2, Leb.encF, if_neg (by omega), Hg.out]; simp [ByteArray.data_append]
      have Hnew := Lib.hid hnew
      clear hnew
      go_wp2
      go_roundw
      case rel => exact ⟨m / 128, _, by simp, rfl, by omega, Hnew.out⟩
      case measure => simp [intOf]; omega
    · have hconv := one_byte wr m (by omega)
      have hfin : Hid ((out ++ ⟨#[UInt8.ofNat m]⟩ : ByteArray) = ⟨(Leb.enc n).toArray⟩) := by
        have h2 := Hout.out
        have he : Leb.encF f m = [UInt8.ofNat m] := by
          cases f with
          | zero => rfl
          | succ f => rw [Leb.encF, if_pos (by omega)]
        rw [he] at h2
        refine bytes_ext ?_
        rw [← h2]; simp [ByteArray.data_append]
      go_wp2
      go_ret
      refine ⟨?_, hbel.alloc hbel.size _⟩
      rw [← hfin.out]; rfl

set_option maxRecDepth 100000 in
theorem ref_text (s : ByteArray) (w : World) (hs : s.size ≤ 281474976710656) :
    Calls Try.prog 32 #[.string s] w fun e w' => e = .returned (.string ⟨(Leb.enc s.size ++ s.data.toList).toArray⟩) ∧ Below w.heap.size w w' := by
  have hl := (Leb.enc_len s.size).2
  have hz : (⟨(Leb.enc s.size).toArray⟩ : ByteArray).size ≤ 9 := by rw [mk_size]; exact hl
  have hfin : Hid ((⟨(Leb.enc s.size).toArray⟩ ++ s : ByteArray) = ⟨(Leb.enc s.size ++ s.data.toList).toArray⟩) := bytes_ext (by simp [ByteArray.data_append])
  have hnum : Hid (∀ W, Calls Try.prog 17 #[.int .i64 s.size] W fun e w' => e = .returned (.string ⟨(Leb.enc s.size).toArray⟩) ∧ Below W.heap.size W w') := fun W => ref_number s.size W (by omega)
  generalize (⟨(Leb.enc s.size).toArray⟩ : ByteArray) = t at *
  go_enter Try.func32, Try.ntmps32
  go_wp2_with (go_at_call 17; refine (hnum.out _).mono ?_; rintro e w' ⟨rfl, hb⟩)
  go_ret
  refine ⟨?_, hb⟩
  rw [← hfin.out]; rfl

def TripleIs (n k : Nat) (x : Int) (w : World) (e : Ending) (w' : World) : Prop := e = .returned (.tuple #[.int .i64 n, .int .i64 k, .int .i64 x]) ∧ w = w'

def FirstRel (l : List UInt8) (k acc p : Nat) : Prop :=
  k ≤ l.length ∧ acc < 128 ^ k ∧ p = 128 ^ (min k 8) ∧ Leb.dec (9 - k) k acc (l.drop k) = Leb.first l

set_option maxRecDepth 100000 in
set_option maxHeartbeats 1600000 in
theorem ref_first (s : ByteArray) (w : World) (hs : s.size ≤ 281474976710656) :
    Calls Try.prog 37 #[.string s] w (TripleIs (Leb.first s.data.toList).1 (Leb.first s.data.toList).2.1 (Leb.first s.data.toList).2.2 w) := by
  have h0 : FirstRel s.data.toList 0 0 1 := ⟨Nat.zero_le _, by simp, rfl, by rw [List.drop_zero]; rfl⟩
  have hsz := Lib.size_eq s
  have Hsz := Lib.hid hsz
  clear hsz
  go_enter Try.func37, Try.ntmps37
  go_wp2
  go_loop [5, 6, 7] (fun n p i => ∃ k acc pw : Nat, k ≤ 9 ∧ i = .int .i64 k ∧ n = .int .i64 acc ∧ p = .int .i64 pw ∧ FirstRel s.data.toList k acc pw) (fun _ _ i => (9 - intOf i).toNat)
  case atStart => exact ⟨0, 0, 1, by omega, rfl, rfl, rfl, h0⟩
  case round =>
    obtain ⟨k, acc, pw, hk, rfl, rfl, rfl, hkl, hacc, hpw, hdec⟩ := hrel
    have Hdec := Lib.hid hdec
    have Hacc := Lib.hid hacc
    have Hpw := Lib.hid hpw
    have Hkl := Lib.hid hkl
    clear hdec hacc hpw hkl h0
    by_cases h9 : k < 9
    · by_cases hlt : k < s.size
      · obtain ⟨c, hc⟩ : ∃ c : UInt8, s.data.toList[k]? = some c := ⟨s.data.toList[k]'(by rw [← Lib.size_eq]; exact hlt), List.getElem?_eq_getElem _⟩
        have hdrop : s.data.toList.drop k = c :: s.data.toList.drop (k + 1) := by
          obtain ⟨hl, he⟩ := List.getElem?_eq_some_iff.1 hc
          rw [List.drop_eq_getElem_cons hl, he]
        obtain ⟨f, hf⟩ : ∃ f, 9 - k = f + 1 := ⟨8 - k, by omega⟩
        have hdec' : Leb.first s.data.toList = if c = 0 ∧ 0 < k then (0, 0, 6) else if c.toNat < 128 then (acc + c.toNat % 128 * 128 ^ k, k + 1, 0) else Leb.dec (9 - (k + 1)) (k + 1) (acc + c.toNat % 128 * 128 ^ k) (s.data.toList.drop (k + 1)) := by
          rw [← Hdec.out, hdrop, hf, Leb.dec]
          have : 9 - (k + 1) = f := by omega
          rw [this]
        have Hdec2 := Lib.hid hdec'
        have hsc : (s[k]'hlt).toNat = c.toNat := by
          obtain ⟨hl, he⟩ := List.getElem?_eq_some_iff.1 hc
          rw [← he, Array.getElem_toList]; rfl
        have hc256 := c.toNat_lt
        have Hc := Lib.hid hc
        clear hdec' hdrop hf hc
        have hidx : ∀ V : World, (Instr.index 9 (.string s) (.int .i64 (k : Int))).run Try.prog V = .ok (.int .u8 ((s[k]'hlt).toNat : Int)) V := fun V => by
          go_simp
        generalize hxx : (s[k]'hlt).toNat = x at *
        have hx256 : x < 256 := by omega
        obtain ⟨d, hd⟩ : ∃ d : Nat, d = x % 128 := ⟨_, rfl⟩
        obtain ⟨q, hq⟩ : ∃ q : Nat, q = d * pw := ⟨_, rfl⟩
        obtain ⟨n, hn⟩ : ∃ n : Nat, n = acc + q := ⟨_, rfl⟩
        have hpk : pw = 128 ^ k := by rw [Hpw.out, Nat.min_eq_left (by omega)]
        have hn9 : n < 128 ^ (k + 1) := by
          have := Hacc.out
          have h1 : d * 128 ^ k ≤ 127 * 128 ^ k := Nat.mul_le_mul_right _ (by omega)
          rw [hn, hq, hpk, Nat.pow_succ]; omega
        have hn63 : n ≤ 9223372036854775807 := by
          have h1 : (128 : Nat) ^ (k + 1) ≤ 128 ^ 9 := Nat.pow_le_pow_right (by omega) (by omega)
          have h9 : (128 : Nat) ^ 9 = 9223372036854775808 := by decide
          omega
        have hdi : (x : Int) % 128 = (d : Int) := by omega
        have hqi : (d : Int) * (pw : Int) = (q : Int) := by rw [hq]; simp
        have hq0 : (q : Int) ≤ 9223372036854775807 := by omega
        have hni : (acc : Int) + (q : Int) = (n : Int) := by omega
        have hni2 : (acc : Int) + (q : Int) ≤ 9223372036854775807 := by omega
        have hnv : n = acc + c.toNat % 128 * 128 ^ k := by rw [hn, hq, hpk, hd, hsc]
        have Hn := Lib.hid hnv
        have HN := Lib.hid hn
        have Hn9 := Lib.hid hn9
        have Hx := Lib.hid hsc
        have Hpk := Lib.hid hpk
        clear hq hn hn9 hn63 hnv hsc hd hpk hc256 hxx hni
        by_cases hx1 : x < 128
        · by_cases hz : x = 0 ∧ 0 < k
          · obtain ⟨hz1, hz2⟩ := hz
            have hb0 : ((x : Int) == 0) = true := by rw [hz1]; rfl
            have hfin : Hid (Leb.first s.data.toList = (0, 0, 6)) := by
              have e := Hx.out
              rw [hz1] at e
              rw [Hdec2.out, if_pos ⟨UInt8.toNat_inj.1 e.symm, hz2⟩]; rfl
            clear hz1
            go_wp2
            go_ret3
            exact ⟨by rw [hfin.out]; rfl, rfl⟩
          · have hfin : Hid (Leb.first s.data.toList = (n, k + 1, 0)) := by
              rw [Hdec2.out, if_neg (by rintro ⟨e1, e2⟩; exact hz ⟨by rw [Hx.out, e1]; rfl, e2⟩), if_pos (by rw [← Hx.out]; exact hx1), Hn.out]; rfl
            by_cases hz1 : x = 0
            · have hb0 : ((x : Int) == 0) = true := by rw [hz1]; rfl
              have hk0 : ¬ 0 < k := fun h => hz ⟨hz1, h⟩
              clear hz hz1
              go_wp2
              go_ret3
              exact ⟨by rw [hfin.out, HN.out]; rfl, rfl⟩
            · have hb0 : ((x : Int) == 0) = false := by simp; omega
              clear hz hz1
              go_wp2
              go_ret3
              exact ⟨by rw [hfin.out, HN.out]; rfl, rfl⟩
        · have hfin : Hid (Leb.dec (9 - (k + 1)) (k + 1) n (s.data.toList.drop (k + 1)) = Leb.first s.data.toList) := by
            have hc0 : ¬ (c = 0 ∧ 0 < k) := by
              rintro ⟨e1, _⟩
              have := Hx.out
              rw [e1] at this
              have h0 : (0 : UInt8).toNat = 0 := rfl
              omega
            rw [Hdec2.out, if_neg hc0, if_neg (by rw [← Hx.out]; exact hx1), Hn.out]; rfl
          by_cases h8 : k < 8
          · have hpi : pw ≤ 562949953421312 := by
              have h1 : (128 : Nat) ^ k ≤ 128 ^ 7 := Nat.pow_le_pow_right (by omega) (by omega)
              have h7 : (128 : Nat) ^ 7 = 562949953421312 := by decide
              have := Hpk.out
              omega
            obtain ⟨p2, hp2'⟩ : ∃ p2 : Nat, p2 = pw * 128 := ⟨_, rfl⟩
            have hpw2 : (pw : Int) * 128 ≤ 9223372036854775807 := by omega
            have hp2 : Hid (p2 = 128 ^ (min (k + 1) 8)) := by
              show p2 = _
              rw [hp2', Hpk.out, ← Nat.pow_succ, Nat.min_eq_left (by omega)]
            have HP2 := Lib.hid hp2'
            clear hp2' hpi
            go_wp2
            go_round
            case rel => exact ⟨k + 1, n, p2, by omega, by go_num, by rw [HN.out]; simp, by rw [HP2.out]; simp, by have := Hsz.out; omega, Hn9.out, hp2.out, hfin.out⟩
            case measure => simp [intOf]; omega
          · have hp2 : Hid (pw = 128 ^ (min (k + 1) 8)) := by
              show pw = _
              rw [Hpw.out, Nat.min_eq_right (by omega), Nat.min_eq_right (by omega)]
            go_wp2
            go_round
            case rel => exact ⟨k + 1, n, pw, by omega, by go_num, by rw [HN.out]; simp, rfl, by have := Hsz.out; omega, Hn9.out, hp2.out, hfin.out⟩
            case measure => simp [intOf]; omega
      · have hfin : Hid (Leb.first s.data.toList = (0, 0, 5)) := by
          obtain ⟨f, hf⟩ : ∃ f, 9 - k = f + 1 := ⟨8 - k, by omega⟩
          have : s.data.toList.drop k = [] := List.drop_eq_nil_of_le (by rw [← Lib.size_eq]; omega)
          rw [← Hdec.out, this, hf]; rfl
        go_wp2
        go_ret3
        exact ⟨by rw [hfin.out]; rfl, rfl⟩
    · obtain rfl : k = 9 := by omega
      have hfin : Hid (Leb.first s.data.toList = (0, 0, 6)) := by rw [← Hdec.out]; rfl
      go_wp2
      go_ret3
      exact ⟨by rw [hfin.out]; rfl, rfl⟩
end Go.Proofs.Ytlccbebociknaaa
