/- The document's own answers: Number, Text, First, Second. -/
import Derived.Test.YtbfjageaheijbaaGreatCom1
import Derived.Test.YtbfjageaheijbaaGreatCom2
import Derived.Test.YtbfjageaheijbaaGreatCom6
import Derived.OwnWalk
import Derived.Lib.Hide
import Derived.Laws.BitsAllLaws
import Derived.Deep.AppendLies
import Derived.Laws.AppendOwn
import Derived.Deep.QuietTactic
import Derived.BigQuiet
import Derived.Deep.RegionWith
import Derived.WalkSpells
import Derived.Deep.Slices
namespace Go.Proofs.YtbfjageaheijbaaGreat
open Go.RowKit

set_option maxRecDepth 100000 in
theorem one_byte (W : World) (g : Nat) (hg : g < 256) :
    (convert 99 9 (.slice (some ⟨W.heap.size, 0, none⟩) 1 1)).run Tryz.prog (W.alloc (.cells #[.int .u8 (g : Int)] 5)) = .ok (.string ⟨#[UInt8.ofNat g]⟩) (W.alloc (.cells #[.int .u8 (g : Int)] 5)) := by
  refine run_convert_bytes_back (P := Tryz.prog) _ 99 9 5 ⟨W.heap.size, 0, none⟩ 1 [UInt8.ofNat g] Tryz.underlying99 Tryz.underlying5 Tryz.underlying9 (fun j hj => ?_)
  have hj0 : j = 0 := by simpa using hj
  subst hj0
  have := (Row.made W 5 #[.int .u8 (g : Int)]).at 0
  rw [show (⟨W.heap.size, 0, none⟩ : Addr).add 0 = ⟨W.heap.size, 0, none⟩ from rfl, this]
  simp only [List.getElem_cons_zero, Leb.toNat_ofNat g hg]
  rfl

def RefLoop (w : World) (l : List UInt8) (out : ByteArray) (m : Nat) (wr : World) : Prop :=
  ∃ f, m < 128 ^ (f + 1) ∧ f ≤ 8 ∧ out.data.toList ++ Leb.encF f m = l ∧ Below w.heap.size w wr

set_option maxRecDepth 100000 in
set_option maxHeartbeats 800000 in
theorem ref_number (n : Nat) (w : World) (hn : n < 9223372036854775808) :
    Calls Tryz.prog 72 #[.int .i64 n] w fun e w' => e = .returned (.string ⟨(Leb.enc n).toArray⟩) ∧ Below w.heap.size w w' := by
  have h0 : RefLoop w (Leb.enc n) ⟨#[]⟩ n w := ⟨8, by simpa using hn, by omega, rfl, Below.refl _ _⟩
  clear hn
  go_enter Tryz.func72, Tryz.ntmps72
  go_wp2
  go_loopw [0, 3] (fun x o wr => ∃ (m : Nat) (out : ByteArray), x = .int .i64 m ∧ o = .string out ∧ m ≤ n ∧ RefLoop w (Leb.enc n) out m wr) (fun x _ _ => (intOf x).toNat)
  case atStart => exact ⟨n, ⟨#[]⟩, rfl, rfl, Nat.le_refl _, h0⟩
  case round =>
    obtain ⟨m, out, rfl, rfl, hm, f, hf, hf8, hout, hbel⟩ := hrel
    have hol : out.size ≤ 9 := by
      have h1 := (Leb.enc_len n).2
      rw [← hout, List.length_append, ← Lib.size_eq] at h1
      omega
    have hmm : (m : Int) ≤ 9223372036854775807 := by
      have : (128 : Nat) ^ (f + 1) ≤ 128 ^ 9 := Nat.pow_le_pow_right (by omega) (by omega)
      have h9 : (128 : Nat) ^ 9 = 9223372036854775808 := by decide
      omega
    have Hf := Lib.hid hf
    have Hout := Lib.hid hout
    clear hf hout
    by_cases hbig : 127 < m
    · obtain ⟨g, hg⟩ : ∃ g : Nat, g = m % 128 + 128 := ⟨_, rfl⟩
      have hg1 : g < 256 := by omega
      have hgi : (m : Int) % 128 + 128 = (g : Int) := by omega
      have hconv := one_byte wr g hg1
      have Hg := Lib.hid hg
      clear hg
      have hnew : RefLoop w (Leb.enc n) (out ++ ⟨#[UInt8.ofNat g]⟩) (m / 128) (wr.alloc (.cells #[.int .u8 (g : Int)] 5)) := by
        have h1 := Hf.out
        have h2 := Hout.out
        cases f with
        | zero => simp at h1; omega
        | succ f =>
          refine ⟨f, ?_, by omega, ?_, hbel.alloc hbel.size _⟩
          · rw [Nat.div_lt_iff_lt_mul (by omega), ← Nat.pow_succ]; exact h1
          · rw [← h2, Leb.encF, if_neg (by omega), Hg.out]; simp [ByteArray.data_append]
      have Hnew := Lib.hid hnew
      clear hnew
      go_wp2
      go_roundw
      case rel => exact ⟨m / 128, _, by simp, rfl, by omega, Hnew.out⟩
      case measure => simp [intOf]; omega
    · have hconv := one_byte wr m (by omega)
      have hfin : Hid ((out ++ ⟨#[UInt8.ofNat m]⟩ : ByteArray) = ⟨(Leb.enc n).toArray⟩) := by
        have h2 := Hout.out
        have he : Leb.encF f m = [UInt8.ofNat m] := by
          cases f with
          | zero => rfl
          | succ f => rw [Leb.encF, if_pos (by omega)]
        rw [he] at h2
        refine bytes_ext ?_
        rw [← h2]; simp [ByteArray.data_append]
      go_wp2
      go_ret
      refine ⟨?_, hbel.alloc hbel.size _⟩
      rw [← hfin.out]; rfl

set_option maxRecDepth 100000 in
theorem ref_text (s : ByteArray) (w : World) (hs : s.size ≤ 281474976710656) :
    Calls Tryz.prog 47 #[.string s] w fun e w' => e = .returned (.string ⟨(Leb.enc s.size ++ s.data.toList).toArray⟩) ∧ Below w.heap.size w w' := by
  have hl := (Leb.enc_len s.size).2
  have hz : (⟨(Leb.enc s.size).toArray⟩ : ByteArray).size ≤ 9 := by rw [mk_size]; exact hl
  have hfin : Hid ((⟨(Leb.enc s.size).toArray⟩ ++ s : ByteArray) = ⟨(Leb.enc s.size ++ s.data.toList).toArray⟩) := bytes_ext (by simp [ByteArray.data_append])
  have hnum : Hid (∀ W, Calls Tryz.prog 72 #[.int .i64 s.size] W fun e w' => e = .returned (.string ⟨(Leb.enc s.size).toArray⟩) ∧ Below W.heap.size W w') := fun W => ref_number s.size W (by omega)
  generalize (⟨(Leb.enc s.size).toArray⟩ : ByteArray) = t at *
  go_enter Tryz.func47, Tryz.ntmps47
  go_wp2_with (go_at_call 72; refine (hnum.out _).mono ?_; rintro e w' ⟨rfl, hb⟩)
  go_ret
  refine ⟨?_, hb⟩
  rw [← hfin.out]; rfl

def TripleIs (n k : Nat) (x : Int) (w : World) (e : Ending) (w' : World) : Prop := e = .returned (.tuple #[.int .i64 n, .int .i64 k, .int .i64 x]) ∧ w = w'

def FirstRel (l : List UInt8) (k acc p : Nat) : Prop :=
  k ≤ l.length ∧ acc < 128 ^ k ∧ p = 128 ^ (min k 8) ∧ Leb.dec (9 - k) k acc (l.drop k) = Leb.first l

set_option maxRecDepth 100000 in
set_option maxHeartbeats 1600000 in
theorem ref_first (s : ByteArray) (w : World) (hs : s.size ≤ 281474976710656) :
    Calls Tryz.prog 29 #[.string s] w (TripleIs (Leb.first s.data.toList).1 (Leb.first s.data.toList).2.1 (Leb.first s.data.toList).2.2 w) := by
  have h0 : FirstRel s.data.toList 0 0 1 := ⟨Nat.zero_le _, by simp, rfl, by rw [List.drop_zero]; rfl⟩
  have hsz := Lib.size_eq s
  have Hsz := Lib.hid hsz
  clear hsz
  go_enter Tryz.func29, Tryz.ntmps29
  go_wp2
  go_loop [5, 6, 7] (fun n p i => ∃ k acc pw : Nat, k ≤ 9 ∧ i = .int .i64 k ∧ n = .int .i64 acc ∧ p = .int .i64 pw ∧ FirstRel s.data.toList k acc pw) (fun _ _ i => (9 - intOf i).toNat)
  case atStart => exact ⟨0, 0, 1, by omega, rfl, rfl, rfl, h0⟩
  case round =>
    obtain ⟨k, acc, pw, hk, rfl, rfl, rfl, hkl, hacc, hpw, hdec⟩ := hrel
    have Hdec := Lib.hid hdec
    have Hacc := Lib.hid hacc
    have Hpw := Lib.hid hpw
    have Hkl := Lib.hid hkl
    clear hdec hacc hpw hkl h0
    by_cases h9 : k < 9
    · by_cases hlt : k < s.size
      · obtain ⟨c, hc⟩ : ∃ c : UInt8, s.data.toList[k]? = some c := ⟨s.data.toList[k]'(by rw [← Lib.size_eq]; exact hlt), List.getElem?_eq_getElem _⟩
        have hdrop : s.data.toList.drop k = c :: s.data.toList.drop (k + 1) := by
          obtain ⟨hl, he⟩ := List.getElem?_eq_some_iff.1 hc
          rw [List.drop_eq_getElem_cons hl, he]
        obtain ⟨f, hf⟩ : ∃ f, 9 - k = f + 1 := ⟨8 - k, by omega⟩
        have hdec' : Leb.first s.data.toList = if c = 0 ∧ 0 < k then (0, 0, 6) else if c.toNat < 128 then (acc + c.toNat % 128 * 128 ^ k, k + 1, 0) else Leb.dec (9 - (k + 1)) (k + 1) (acc + c.toNat % 128 * 128 ^ k) (s.data.toList.drop (k + 1)) := by
          rw [← Hdec.out, hdrop, hf, Leb.dec]
          have : 9 - (k + 1) = f := by omega
          rw [this]
        have Hdec2 := Lib.hid hdec'
        have hsc : (s[k]'hlt).toNat = c.toNat := by
          obtain ⟨hl, he⟩ := List.getElem?_eq_some_iff.1 hc
          rw [← he, Array.getElem_toList]; rfl
        have hc256 := c.toNat_lt
        have Hc := Lib.hid hc
        clear hdec' hdrop hf hc
        have hidx : ∀ V : World, (Instr.index 9 (.string s) (.int .i64 (k : Int))).run Tryz.prog V = .ok (.int .u8 ((s[k]'hlt).toNat : Int)) V := fun V => by
          go_simp
        generalize hxx : (s[k]'hlt).toNat = x at *
        have hx256 : x < 256 := by omega
        obtain ⟨d, hd⟩ : ∃ d : Nat, d = x % 128 := ⟨_, rfl⟩
        obtain ⟨q, hq⟩ : ∃ q : Nat, q = d * pw := ⟨_, rfl⟩
        obtain ⟨n, hn⟩ : ∃ n : Nat, n = acc + q := ⟨_, rfl⟩
        have hpk : pw = 128 ^ k := by rw [Hpw.out, Nat.min_eq_left (by omega)]
        have hn9 : n < 128 ^ (k + 1) := by
          have := Hacc.out
          have h1 : d * 128 ^ k ≤ 127 * 128 ^ k := Nat.mul_le_mul_right _ (by omega)
          rw [hn, hq, hpk, Nat.pow_succ]; omega
        have hn63 : n ≤ 9223372036854775807 := by
          have h1 : (128 : Nat) ^ (k + 1) ≤ 128 ^ 9 := Nat.pow_le_pow_right (by omega) (by omega)
          have h9 : (128 : Nat) ^ 9 = 9223372036854775808 := by decide
          omega
        have hdi : (x : Int) % 128 = (d : Int) := by omega
        have hqi : (d : Int) * (pw : Int) = (q : Int) := by rw [hq]; simp
        have hq0 : (q : Int) ≤ 9223372036854775807 := by omega
        have hni : (acc : Int) + (q : Int) = (n : Int) := by omega
        have hni2 : (acc : Int) + (q : Int) ≤ 9223372036854775807 := by omega
        have hnv : n = acc + c.toNat % 128 * 128 ^ k := by rw [hn, hq, hpk, hd, hsc]
        have Hn := Lib.hid hnv
        have HN := Lib.hid hn
        have Hn9 := Lib.hid hn9
        have Hx := Lib.hid hsc
        have Hpk := Lib.hid hpk
        clear hq hn hn9 hn63 hnv hsc hd hpk hc256 hxx hni
        by_cases hx1 : x < 128
        · by_cases hz : x = 0 ∧ 0 < k
          · obtain ⟨hz1, hz2⟩ := hz
            have hb0 : ((x : Int) == 0) = true := by rw [hz1]; rfl
            have hfin : Hid (Leb.first s.data.toList = (0, 0, 6)) := by
              have e := Hx.out
              rw [hz1] at e
              rw [Hdec2.out, if_pos ⟨UInt8.toNat_inj.1 e.symm, hz2⟩]; rfl
            clear hz1
            go_wp2
            go_ret3
            exact ⟨by rw [hfin.out]; rfl, rfl⟩
          · have hfin : Hid (Leb.first s.data.toList = (n, k + 1, 0)) := by
              rw [Hdec2.out, if_neg (by rintro ⟨e1, e2⟩; exact hz ⟨by rw [Hx.out, e1]; rfl, e2⟩), if_pos (by rw [← Hx.out]; exact hx1), Hn.out]; rfl
            by_cases hz1 : x = 0
            · have hb0 : ((x : Int) == 0) = true := by rw [hz1]; rfl
              have hk0 : ¬ 0 < k := fun h => hz ⟨hz1, h⟩
              clear hz hz1
              go_wp2
              go_ret3
              exact ⟨by rw [hfin.out, HN.out]; rfl, rfl⟩
            · have hb0 : ((x : Int) == 0) = false := by simp; omega
              clear hz hz1
              go_wp2
              go_ret3
              exact ⟨by rw [hfin.out, HN.out]; rfl, rfl⟩
        · have hfin : Hid (Leb.dec (9 - (k + 1)) (k + 1) n (s.data.toList.drop (k + 1)) = Leb.first s.data.toList) := by
            have hc0 : ¬ (c = 0 ∧ 0 < k) := by
              rintro ⟨e1, _⟩
              have := Hx.out
              rw [e1] at this
              have h0 : (0 : UInt8).toNat = 0 := rfl
              omega
            rw [Hdec2.out, if_neg hc0, if_neg (by rw [← Hx.out]; exact hx1), Hn.out]; rfl
          by_cases h8 : k < 8
          · have hpi : pw ≤ 562949953421312 := by
              have h1 : (128 : Nat) ^ k ≤ 128 ^ 7 := Nat.pow_le_pow_right (by omega) (by omega)
              have h7 : (128 : Nat) ^ 7 = 562949953421312 := by decide
              have := Hpk.out
              omega
            obtain ⟨p2, hp2'⟩ : ∃ p2 : Nat, p2 = pw * 128 := ⟨_, rfl⟩
            have hpw2 : (pw : Int) * 128 ≤ 9223372036854775807 := by omega
            have hp2 : Hid (p2 = 128 ^ (min (k + 1) 8)) := by
              show p2 = _
              rw [hp2', Hpk.out, ← Nat.pow_succ, Nat.min_eq_left (by omega)]
            have HP2 := Lib.hid hp2'
            clear hp2' hpi
            go_wp2
            go_round
            case rel => exact ⟨k + 1, n, p2, by omega, by go_num, by rw [HN.out]; simp, by rw [HP2.out]; simp, by have := Hsz.out; omega, Hn9.out, hp2.out, hfin.out⟩
            case measure => simp [intOf]; omega
          · have hp2 : Hid (pw = 128 ^ (min (k + 1) 8)) := by
              show pw = _
              rw [Hpw.out, Nat.min_eq_right (by omega), Nat.min_eq_right (by omega)]
            go_wp2
            go_round
            case rel => exact ⟨k + 1, n, pw, by omega, by go_num, by rw [HN.out]; simp, rfl, by have := Hsz.out; omega, Hn9.out, hp2.out, hfin.out⟩
            case measure => simp [intOf]; omega
      · have hfin : Hid (Leb.first s.data.toList = (0, 0, 5)) := by
          obtain ⟨f, hf⟩ : ∃ f, 9 - k = f + 1 := ⟨8 - k, by omega⟩
          have : s.data.toList.drop k = [] := List.drop_eq_nil_of_le (by rw [← Lib.size_eq]; omega)
          rw [← Hdec.out, this, hf]; rfl
        go_wp2
        go_ret3
        exact ⟨by rw [hfin.out]; rfl, rfl⟩
    · obtain rfl : k = 9 := by omega
      have hfin : Hid (Leb.first s.data.toList = (0, 0, 6)) := by rw [← Hdec.out]; rfl
      go_wp2
      go_ret3
      exact ⟨by rw [hfin.out]; rfl, rfl⟩
end Go.Proofs.YtbfjageaheijbaaGreat
/- Words for memory with footprints: what a call may write is a set of blocks; slices that read as lists. No program is spoken of. -/
namespace Go.Proofs.YtbfjageaheijbaaGreat
open Go.RowKit

/-- Of what was there, only blocks of F may have turned. -/
structure Kept (F : Nat → Prop) (w w' : World) : Prop where
  os : w'.os = w.os
  tape : w'.tape = w.tape
  output : w'.output = w.output
  size : w.heap.size ≤ w'.heap.size
  block : ∀ k, k < w.heap.size → ¬ F k → w'.heap[k]? = w.heap[k]?

/-- A set of blocks, and all that came to be between two worlds. -/
def Grow (F : Nat → Prop) (w w' : World) (k : Nat) : Prop := F k ∨ (w.heap.size ≤ k ∧ k < w'.heap.size)

section
variable {F G : Nat → Prop} {a b c w w' : World}

set_option maxRecDepth 100000 in
theorem Kept.refl (F : Nat → Prop) (w : World) : Kept F w w := ⟨rfl, rfl, rfl, Nat.le_refl _, fun _ _ _ => rfl⟩

set_option maxRecDepth 100000 in
/-- Two steps, the second one of which may write what came to be in the first. -/
theorem Kept.trans (h : Kept F a b) (k : Kept G b c) (hG : ∀ i, i < a.heap.size → G i → F i) : Kept F a c :=
  ⟨k.os.trans h.os, k.tape.trans h.tape, k.output.trans h.output, Nat.le_trans h.size k.size, fun i hi hn => (k.block i (Nat.lt_of_lt_of_le hi h.size) (fun hg => hn (hG i hi hg))).trans (h.block i hi hn)⟩

set_option maxRecDepth 100000 in
theorem Kept.mono (h : Kept F a b) (hF : ∀ i, F i → G i) : Kept G a b := ⟨h.os, h.tape, h.output, h.size, fun i hi hn => h.block i hi (fun hf => hn (hF i hf))⟩

set_option maxRecDepth 100000 in
theorem Kept.ofBelow (h : Below a.heap.size a b) (F : Nat → Prop) : Kept F a b := ⟨h.os, h.tape, h.output, h.size, fun i hi _ => h.block i hi⟩

set_option maxRecDepth 100000 in
theorem Kept.ofGrown {r : Option Nat} (h : a.grownBy b r) (hr : ∀ i, r = some i → F i) : Kept F a b := ⟨h.os, h.tape, h.output, h.size, fun i hi hn => h.block i hi (fun e => hn (hr i e.symm))⟩

set_option maxRecDepth 100000 in
theorem Kept.grown {i : Nat} (h : Kept (fun k => k = i) a b) : a.grownBy b (some i) := ⟨h.os, h.tape, h.output, h.size, fun k hk hn => h.block k hk (fun e => hn (by rw [e]))⟩

set_option maxRecDepth 100000 in
theorem Kept.below (h : Kept F a b) {B : Nat} (hB : B ≤ a.heap.size) (hF : ∀ i, F i → B ≤ i) : Below B a b := ⟨h.os, h.tape, h.output, h.size, fun i hi => h.block i (by omega) (fun hf => by have := hF i hf; omega)⟩

set_option maxRecDepth 100000 in
theorem Kept.drew (h : Kept F a b) : Kept F a b.drew := ⟨h.os, h.tape, h.output, h.size, h.block⟩

set_option maxRecDepth 100000 in
theorem Kept.alloc (h : Kept F a b) (o : Obj) : Kept F a (b.alloc o) :=
  h.trans (G := F) ⟨rfl, rfl, rfl, by simp, fun i hi _ => Below.heap_alloc b o i hi⟩ (fun _ _ h => h)

set_option maxRecDepth 100000 in
theorem Kept.stored (h : Kept F a b) {p : Addr} (hp : F p.block ∨ a.heap.size ≤ p.block) (u : Value) : Kept F a (b.setCell p u) :=
  ⟨h.os, h.tape, h.output, by simpa [World.setCell] using h.size, fun i hi hn => by
    rcases hp with hp | hp
    · exact (Below.heap_setCell b p u i (fun e => hn (by rw [e]; exact hp))).trans (h.block i hi hn)
    · exact (Below.heap_setCell b p u i (by omega)).trans (h.block i hi hn)⟩

set_option maxRecDepth 100000 in
theorem Grow.old {k : Nat} (h : F k) : Grow F a b k := Or.inl h
set_option maxRecDepth 100000 in
theorem Grow.lt {k : Nat} (h : Grow F a b k) (hF : ∀ k, F k → k < a.heap.size) (hs : a.heap.size ≤ b.heap.size) : k < b.heap.size := by
  rcases h with h | h
  · exact Nat.lt_of_lt_of_le (hF k h) hs
  · exact h.2
set_option maxRecDepth 100000 in
theorem Grow.trans {k : Nat} (h : Grow (Grow F a b) b c k) (hab : a.heap.size ≤ b.heap.size) (hbc : b.heap.size ≤ c.heap.size) : Grow F a c k := by
  rcases h with (h | h) | h
  · exact Or.inl h
  · exact Or.inr ⟨h.1, by omega⟩
  · exact Or.inr ⟨by omega, h.2⟩
set_option maxRecDepth 100000 in
theorem Grow.within {k : Nat} (h : Grow F a b k) (hbc : b.heap.size ≤ c.heap.size) : Grow F a c k := by
  rcases h with h | h
  · exact Or.inl h
  · exact Or.inr ⟨h.1, by omega⟩
set_option maxRecDepth 100000 in
theorem Grow.later {k : Nat} (h : Grow F b c k) (hab : a.heap.size ≤ b.heap.size) : Grow F a c k := by
  rcases h with h | h
  · exact Or.inl h
  · exact Or.inr ⟨by omega, h.2⟩

set_option maxRecDepth 100000 in
/-- Whoever has no block of F finds its own as they were. -/
theorem Kept.same (h : Kept F w w') {k : Nat} (hk : k < w.heap.size) (hn : ¬ F k) : w'.heap[k]? = w.heap[k]? := h.block k hk hn

set_option maxRecDepth 100000 in
theorem Kept.cell (h : Kept F w w') {p : Addr} (hk : p.block < w.heap.size) (hn : ¬ F p.block) : w'.cell? p = w.cell? p := World.cell?_of_block (w := w) (h.block p.block hk hn)

set_option maxRecDepth 100000 in
theorem Row.kept {t : TypeId} {i : Nat} {cs : Array Value} (hr : Row w i t cs) (h : Kept F w w') (hn : ¬ F i) : Row w' i t cs := (h.block i hr.inHeap hn).trans hr
end

/-! ### Slices of one cell each -/

/-- The slice value v reads as us, out of blocks of F. -/
def Cells (w : World) (F : Nat → Prop) (v : Value) (us : List Value) : Prop :=
  ∃ A cap, v = .slice A us.length cap ∧ us.length ≤ cap ∧ (0 < us.length → ∃ b o, A = some ⟨b, o, none⟩ ∧ F b ∧ b < w.heap.size ∧ ∀ i u, us[i]? = some u → w.cell? ⟨b, o + i, none⟩ = some u)

section
variable {F G : Nat → Prop} {w w' : World} {v : Value} {us : List Value}

set_option maxRecDepth 100000 in
theorem Cells.none (w : World) (F : Nat → Prop) : Cells w F (.slice none 0 0) [] := ⟨Option.none, 0, rfl, Nat.le_refl _, fun h => absurd h (by simp)⟩

set_option maxRecDepth 100000 in
theorem Cells.kept (h : Cells w F v us) (k : Kept G w w') (hd : ∀ i, F i → ¬ G i) : Cells w' F v us := by
  obtain ⟨A, cap, h1, h2, h3⟩ := h
  refine ⟨A, cap, h1, h2, fun hp => ?_⟩
  obtain ⟨b, o, e, hb, hl, hc⟩ := h3 hp
  exact ⟨b, o, e, hb, Nat.lt_of_lt_of_le hl k.size, fun i u hu => (k.cell (p := ⟨b, o + i, Option.none⟩) hl (hd b hb)).trans (hc i u hu)⟩

set_option maxRecDepth 100000 in
theorem Cells.mono (h : Cells w F v us) (hF : ∀ i, F i → G i) : Cells w G v us := by
  obtain ⟨A, cap, h1, h2, h3⟩ := h
  refine ⟨A, cap, h1, h2, fun hp => ?_⟩
  obtain ⟨b, o, e, hb, r⟩ := h3 hp
  exact ⟨b, o, e, hF b hb, r⟩

set_option maxRecDepth 100000 in
theorem Cells.ofOwn {base t n : Nat} (h : w.ownsRow base t 1 v n us) (hF : ∀ b, v.ownBlock = some b → base ≤ b → b < w.heap.size → F b) : Cells w F v us := by
  have hn : us.length = n := by rw [h.1, Nat.mul_one]
  subst hn
  rcases h.2 with ⟨hv, h0⟩ | ⟨g, cap, cur, hv, hb, hg, hc, hm, hs, ht⟩
  · rw [hv]
    have : us = [] := List.eq_nil_of_length_eq_zero h0
    rw [this]
    exact Cells.none _ _
  · refine ⟨some ⟨g, 0, Option.none⟩, cap, hv, hc, fun _ => ⟨g, 0, rfl, hF g (by rw [hv]; rfl) hb (lt_of_block hg), lt_of_block hg, fun i u hu => ?_⟩⟩
    rw [cell_of_row w g _ cur t (0, 0) hg, Nat.zero_add]
    rw [← ht, List.getElem?_take] at hu
    split at hu
    · rw [Array.getElem?_toList] at hu; exact hu
    · cases hu
end
end Go.Proofs.YtbfjageaheijbaaGreat
/- The document's own answers of layer 4: One, All, First, Read; two slices that read as one list of texts. -/
namespace Go.Proofs.YtbfjageaheijbaaGreat
open Go.RowKit

def mk (l : List UInt8) : ByteArray := ⟨l.toArray⟩
set_option maxRecDepth 100000 in
theorem mk_data (l : List UInt8) : (mk l).data.toList = l := rfl
set_option maxRecDepth 100000 in
theorem mk_len (l : List UInt8) : (mk l).size = l.length := by rw [Lib.size_eq]; rfl
set_option maxRecDepth 100000 in
theorem mk_of (s : ByteArray) : mk s.data.toList = s := bytes_ext rfl
set_option maxRecDepth 100000 in
theorem mk_append (a b : List UInt8) : mk a ++ mk b = mk (a ++ b) := bytes_ext (by rw [ByteArray.data_append, Array.toList_append]; rfl)

def texts (l : List (List UInt8)) : List Value := l.map fun t => Value.string (mk t)
set_option maxRecDepth 100000 in
theorem texts_len (l : List (List UInt8)) : (texts l).length = l.length := List.length_map _
set_option maxRecDepth 100000 in
theorem texts_at {l : List (List UInt8)} {i : Nat} {t : List UInt8} (h : l[i]? = some t) : (texts l)[i]? = some (.string (mk t)) := by
  unfold texts
  rw [List.getElem?_map, h]; rfl

def NewIn (w w' : World) (k : Nat) : Prop := w.heap.size ≤ k ∧ k < w'.heap.size

set_option maxRecDepth 100000 in
theorem ref_one (t : List UInt8) (w : World) (hs : t.length ≤ 100000) :
    Calls Tryz.prog 46 #[.string (mk t)] w fun e w' => e = .returned (.string (mk (Frm.one t))) ∧ Below w.heap.size w w' := by
  have ht := fun W => ref_text (mk t) W (by rw [mk_len]; omega)
  have hf := fun W => ref_four (mk t) W (by rw [mk_len]; exact hs)
  rw [mk_len, mk_data] at ht
  rw [mk_data] at hf
  have hz : (mk (Leb.enc t.length ++ t)).size ≤ 100009 := by rw [mk_len, List.length_append]; have := (Leb.enc_len t.length).2; omega
  have hz4 : (mk (Frm.sumOf t)).size = 4 := rfl
  have hfin : Hid (mk (Leb.enc t.length ++ t) ++ mk (Frm.sumOf t) = mk (Frm.one t)) := Lib.hid (mk_append _ _)
  have HT : Hid (∀ W, Calls Tryz.prog 47 #[.string (mk t)] W fun e w' => e = .returned (.string (mk (Leb.enc t.length ++ t))) ∧ Below W.heap.size W w') := ht
  have HF : Hid (∀ W, Calls Tryz.prog 71 #[.string (mk t)] W fun e w' => e = .returned (.string (mk (Frm.sumOf t))) ∧ Below W.heap.size W w') := hf
  clear ht hf
  generalize mk (Leb.enc t.length ++ t) = a at *
  generalize mk (Frm.sumOf t) = b at *
  have hcc : ¬ 9223372036854775807 < a.size + b.size := by omega
  clear hz hz4
  go_enter Tryz.func46, Tryz.ntmps46
  go_wp2_with fail
  refine (HT.out w).mono ?_
  rintro e w1 ⟨rfl, h1⟩
  have h1 := Lib.hid h1
  go_wp2_with fail
  refine (HF.out w1).mono ?_
  rintro e w2 ⟨rfl, h2⟩
  have h2 := Lib.hid h2
  go_wp2_with fail
  go_ret
  exact ⟨by rw [← hfin.out]; rfl, h1.out.trans (h2.out.mono h1.out.size)⟩

set_option maxRecDepth 100000 in
theorem all_len (l : List (List UInt8)) (h : ∀ t ∈ l, t.length ≤ 100000) : (Frm.all l).length ≤ l.length * 100013 := by
  induction l with
  | nil => exact Nat.le_refl _
  | cons t l ih =>
    have h1 := ih (fun x hx => h x (by simp [hx]))
    have h2 := h t (by simp)
    have h3 := (Leb.enc_len t.length).2
    rw [Frm.all_cons, List.length_append, Frm.one_len, List.length_cons]
    omega

end Go.Proofs.YtbfjageaheijbaaGreat
/- Two slices of texts: whether they are one list (the reference's Texts). -/
namespace Go.Proofs.YtbfjageaheijbaaGreat
open Go.RowKit

set_option maxRecDepth 100000 in
theorem Cells.below {w w' : World} {F : Nat → Prop} {v : Value} {us : List Value} (h : Cells w F v us) (k : Below w.heap.size w w') : Cells w' F v us := h.kept (Kept.ofBelow k (fun _ => False)) (fun _ _ h => h)

set_option maxRecDepth 100000 in
theorem below_drews' (w : World) (n : Nat) : Below w.heap.size w (w.drewN n) := ⟨rfl, rfl, rfl, Nat.le_refl _, fun _ _ => rfl⟩

set_option maxRecDepth 100000 in
set_option maxHeartbeats 1600000 in
/-- The same texts? -/
theorem texts_any {w : World} {F G : Nat → Prop} {u v : Value} {l m : List (List UInt8)} (hu : Cells w F u (texts l)) (hv : Cells w G v (texts m)) (hl : l.length ≤ 1000000) :
    Calls Tryz.prog 23 #[u, v] w fun e w' => e = .returned (.bool (decide (l = m))) ∧ Below w.heap.size w w' := by
  obtain ⟨uA, uc, rfl, huc, hua⟩ := hu
  obtain ⟨vA, vc, rfl, hvc, hva⟩ := hv
  rw [texts_len] at huc hua hvc hva ⊢
  rw [texts_len]
  have Hua := Lib.hid hua
  have Hva := Lib.hid hva
  clear hua hva
  by_cases hlm : l.length = m.length
  · rw [← hlm] at hvc ⊢
    have hl' : (l.length : Int) ≤ 1000000 := by omega
    have hne : ((l.length : Int) != (l.length : Int)) = false := by simp
    have Hlm := Lib.hid hlm
    clear hlm
    go_enter Tryz.func23, Tryz.ntmps23
    go_wp2_with fail
    go_loopw [5] (fun i wr => ∃ k : Nat, k ≤ l.length ∧ i = .int .i64 (k : Int) ∧ l.take k = m.take k ∧ Below w.heap.size w wr) (fun i _ => l.length - (intOf i).toNat)
    case atStart => exact ⟨0, Nat.zero_le _, rfl, rfl, Below.refl _ _⟩
    case round =>
      obtain ⟨k, hk, rfl, htk, hbel⟩ := hrel
      by_cases hlt : k < l.length
      · have hltm : k < m.length := by rw [← Hlm.out]; exact hlt
        obtain ⟨ub, uo, rfl, -, hub, huk⟩ := Hua.out (by omega)
        obtain ⟨vb, vo, rfl, -, hvb, hvk⟩ := Hva.out (by omega)
        obtain ⟨s, hs⟩ : ∃ s, l[k]? = some s := ⟨_, List.getElem?_eq_getElem hlt⟩
        obtain ⟨t, ht⟩ : ∃ t, m[k]? = some t := ⟨_, List.getElem?_eq_getElem hltm⟩
        have hc1 : wr.cell? ⟨ub, uo + k, none⟩ = some (.string (mk s)) := (hbel.cell (p := ⟨ub, uo + k, none⟩) hub).trans (huk k _ (texts_at hs))
        have hc2 : wr.cell? ⟨vb, vo + k, none⟩ = some (.string (mk t)) := (hbel.cell (p := ⟨vb, vo + k, none⟩) hvb).trans (hvk k _ (texts_at ht))
        have hk0 : (0 : Int) ≤ (k : Int) := by omega
        have hk1 : (k : Int) < (l.length : Int) := by omega
        have Hbel := Lib.hid hbel
        by_cases hst : s = t
        · have Hstep : Hid (l.take (k + 1) = m.take (k + 1)) := Lib.hid (by
            obtain ⟨i1, e1⟩ := List.getElem?_eq_some_iff.1 hs
            obtain ⟨i2, e2⟩ := List.getElem?_eq_some_iff.1 ht
            rw [List.take_succ_eq_append_getElem i1, List.take_succ_eq_append_getElem i2, htk, e1, e2, hst])
          have haa : ((mk s).toList == (mk t).toList) = true := by rw [hst]; exact beq_self_eq_true _
          generalize mk s = x at *
          generalize mk t = y at *
          clear huk hvk hs ht hst hbel htk hltm
          go_wp2_with fail
          go_quiet (fail)
          go_wp2_with fail
          refine ⟨⟨k + 1, by omega, rfl, Hstep.out, ?_⟩, ?_⟩
          · exact Hbel.out.trans ((below_drews' wr nq).mono Hbel.out.size)
          · show l.length - ((k : Int) + 1).toNat < l.length - (k : Int).toNat
            omega
        · have Hd : Hid (decide (l = m) = false) := Lib.hid (decide_eq_false (fun e => hst (by
            rw [e, ht] at hs
            injection hs with hs
            exact hs.symm)))
          have haa : ((mk s).toList == (mk t).toList) = false := by
            rw [beq_eq_false_iff_ne, Lib.toList_data, Lib.toList_data]; exact hst
          generalize mk s = x at *
          generalize mk t = y at *
          clear huk hvk hs ht hst hbel htk hltm
          go_wp2_with fail
          go_quiet (fail)
          go_wp2_with fail
          go_ret
          exact ⟨by rw [Hd.out]; rfl, Hbel.out.trans ((below_drews' wr nq).mono Hbel.out.size)⟩
      · obtain rfl : k = l.length := by omega
        have Hd : Hid (decide (l = m) = true) := Lib.hid (decide_eq_true (by
          rw [List.take_length, Hlm.out, List.take_length] at htk
          exact htk))
        have Hbel := Lib.hid hbel
        clear hbel htk
        go_wp2_with fail
        go_ret
        exact ⟨by rw [Hd.out]; rfl, Hbel.out⟩
  · have hne : ((l.length : Int) != (m.length : Int)) = true := by rw [bne_iff_ne]; omega
    have Hd : Hid (decide (l = m) = false) := Lib.hid (decide_eq_false (fun e => hlm (by rw [e])))
    clear hlm hl
    go_enter Tryz.func23, Tryz.ntmps23
    go_wp2_with fail
    go_ret
    exact ⟨by rw [Hd.out]; rfl, Below.refl _ _⟩

set_option maxRecDepth 100000 in
/-- Two slices of the same texts. -/
theorem texts_same {w : World} {F G : Nat → Prop} {u v : Value} {l : List (List UInt8)} (hu : Cells w F u (texts l)) (hv : Cells w G v (texts l)) (hl : l.length ≤ 1000000) :
    Calls Tryz.prog 23 #[u, v] w fun e w' => e = .returned (.bool true) ∧ Below w.heap.size w w' := by
  have := texts_any hu hv hl
  rw [decide_eq_true rfl] at this
  exact this

set_option maxRecDepth 100000 in
theorem strInfo : (Tryz.prog.info? 9).map (fun i => (i.zero, i.size, i.bytes)) = some (some (.string ⟨#[]⟩), 1, 16) := by kernel_rfl

set_option maxRecDepth 100000 in
theorem own_below {w w' : World} {base t size n : Nat} {v : Value} {xs : List Value} (h : w.ownsRow base t size v n xs) (k : Below w.heap.size w w') : w'.ownsRow base t size v n xs :=
  h.kept (Kept.ofBelow k (fun i => i = w.heap.size)).grown (Or.inr (fun e => by have := (h.lt _ e).2; omega))

/-- The call's own slice holds these texts. -/
def TextsOwn (w : World) (out : List (List UInt8)) (v : Value) (wr : World) : Prop := wr.ownsRow w.heap.size 9 1 v out.length (texts out) ∧ Below w.heap.size w wr

set_option maxRecDepth 100000 in
theorem texts_start (w : World) : TextsOwn w [] (.slice none 0 0) w := ⟨World.ownsRow_nil _ _ _ _, Below.refl _ _⟩

set_option maxRecDepth 100000 in
theorem TextsOwn.below {w w1 w2 : World} {out : List (List UInt8)} {v : Value} (h : TextsOwn w out v w1) (k : Below w1.heap.size w1 w2) : TextsOwn w out v w2 := ⟨own_below h.1 k, h.2.trans (k.mono h.2.size)⟩

set_option maxRecDepth 100000 in
theorem texts_more {w wr w2 : World} {out : List (List UInt8)} {v v' : Value} {o : Obj} {x : List UInt8} (h : TextsOwn w out v wr) (hown : w2.ownsRow w.heap.size 9 1 v' (out.length + 1) (texts out ++ [.string (mk x)])) (hg : (wr.alloc o).grownBy w2 v.ownBlock) :
    TextsOwn w (out ++ [x]) v' w2 := by
  obtain ⟨h1, h2⟩ := h
  refine ⟨?_, (h2.alloc h2.size o).grown hg (by have := h2.size; simp; omega) (fun k hk => (h1.lt k hk).1)⟩
  rw [List.length_append]
  simpa [texts] using hown

set_option maxRecDepth 100000 in
theorem TextsOwn.cells {w w' : World} {out : List (List UInt8)} {v : Value} (h : TextsOwn w out v w') : Cells w' (NewIn w w') v (texts out) := Cells.ofOwn h.1 (fun _ _ h1 h2 => ⟨h1, h2⟩)
end Go.Proofs.YtbfjageaheijbaaGreat
