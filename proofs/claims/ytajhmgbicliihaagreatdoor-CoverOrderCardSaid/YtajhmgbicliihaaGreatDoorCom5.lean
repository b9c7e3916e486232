/- The division, bit by bit, as the document's own answer does it: its cells are the register's bits added to the message's. No program is spoken of. -/
import Derived.Test.YtajhmgbicliihaaGreatDoorCom4
import Derived.Test.YtajhmgbicliihaaGreatDoorCom1
import Derived.BigRegion
import Derived.Laws.OwnMore
import Derived.Deep.RegionLaw
import Derived.Deep.AppendLies
import Derived.Lib.BufferRead
import Derived.Laws.BitsAllLaws
import Derived.Lib.AppendStr
import Derived.WalkKit
import Derived.Lib.Strings
import Derived.OwnWalk
import Derived.Lib.Hide
import Derived.Deep.QuietTactic
import Derived.BigQuiet
import Derived.Deep.RegionWith
import Derived.WalkSpells
namespace Go.Proofs.YtajhmgbicliihaaGreatDoor.Crc

/-- Bit j of a message, nought behind its end. -/
def mbit (M : List Bool) (j : Nat) : Bool := M.getD j false

/-- The register behind i bits. -/
def reg (M : List Bool) (i : Nat) : BitVec 32 := run (BitVec.allOnes 32) (M.take i)

/-- Cell j behind i steps of the division, for j from i on. -/
def cell (M : List Bool) (i j : Nat) : Bool := (reg M i).getLsbD (j - i) ^^ mbit M j

set_option maxRecDepth 100000 in
theorem reg_zero (M : List Bool) : reg M 0 = BitVec.allOnes 32 := rfl

set_option maxRecDepth 100000 in
theorem reg_succ (M : List Bool) (i : Nat) (h : i < M.length) : reg M (i + 1) = step (reg M i) (mbit M i) := by
  unfold reg
  rw [List.take_succ_eq_append_getElem h, run_append]
  have : mbit M i = M[i] := by simp [mbit, h]
  rw [this]
  rfl

set_option maxRecDepth 100000 in
theorem one_high (m : Bool) (t : Nat) : (one m).getLsbD (t + 1) = false := by
  cases m
  · simp [one]
  · simp [one]

set_option maxRecDepth 100000 in
theorem step_bit (r : BitVec 32) (m : Bool) (t : Nat) : (step r m).getLsbD t = (r.getLsbD (t + 1) ^^ ((r.getLsbD 0 ^^ m) && poly.getLsbD t)) := by
  unfold step z
  rw [BitVec.getLsbD_xor, BitVec.getLsbD_ushiftRight, BitVec.getLsbD_xor, Nat.add_comm 1 t, one_high, Bool.xor_false]
  have h0 : (r ^^^ one m).getLsbD 0 = (r.getLsbD 0 ^^ m) := by rw [BitVec.getLsbD_xor, one_low]
  rw [h0]
  cases (r.getLsbD 0 ^^ m) <;> simp

/-- The powers below 32, falling. -/
def pows : List Nat := [28, 27, 26, 25, 23, 22, 20, 19, 18, 14, 13, 11, 10, 9, 8, 6, 0]

set_option maxRecDepth 100000 in
theorem pows_bits : ∀ t : Fin 33, pows.any (fun p => 32 - p == t.val + 1) = poly.getLsbD t.val := by decide +kernel

/-- Cells are turned at these powers. -/
def togg (i : Nat) (B : List Bool) : List Nat → List Bool
  | [] => B
  | p :: ps => togg i (B.set (i + 32 - p) (!B.getD (i + 32 - p) false)) ps

set_option maxRecDepth 100000 in
theorem togg_len (i : Nat) (ps : List Nat) (B : List Bool) : (togg i B ps).length = B.length := by
  induction ps generalizing B with
  | nil => rfl
  | cons p ps ih => rw [togg, ih, List.length_set]

set_option maxRecDepth 100000 in
theorem togg_snoc (i : Nat) (ps : List Nat) (p : Nat) (B : List Bool) : togg i B (ps ++ [p]) = (togg i B ps).set (i + 32 - p) (!(togg i B ps).getD (i + 32 - p) false) := by
  induction ps generalizing B with
  | nil => rfl
  | cons q ps ih => rw [List.cons_append, togg, ih]; rfl

set_option maxRecDepth 100000 in
theorem togg_get (i j : Nat) (ps : List Nat) (B : List Bool) (hp : ∀ p ∈ ps, p ≤ 32) (hn : ps.Nodup) (hj : j < B.length) :
    (togg i B ps).getD j false = (B.getD j false ^^ ps.any (fun p => i + 32 - p == j)) := by
  induction ps generalizing B with
  | nil => simp [togg]
  | cons p ps ih =>
    obtain ⟨h1, h2⟩ := List.nodup_cons.1 hn
    rw [togg, ih _ (fun q hq => hp q (by simp [hq])) h2 (by simpa using hj), List.any_cons]
    by_cases hpj : i + 32 - p = j
    · have hno : ps.any (fun q => i + 32 - q == j) = false := by
        rw [List.any_eq_false]
        intro q hq
        have hq32 := hp q (by simp [hq])
        have hp32 := hp p (by simp)
        have : q ≠ p := fun e => h1 (e ▸ hq)
        simp
        omega
      rw [hno, hpj]
      simp [hj]
    · have hb : (i + 32 - p == j) = false := by simpa using hpj
      rw [hb, Bool.false_or]
      congr 1
      simp [List.getD, hpj]

set_option maxRecDepth 100000 in
theorem pows_nodup : pows.Nodup := by decide
set_option maxRecDepth 100000 in
theorem pows_le : ∀ p ∈ pows, p ≤ 32 := by decide

/-- The cells behind i steps. -/
def Cells (M : List Bool) (i : Nat) (B : List Bool) : Prop := B.length = M.length + 32 ∧ ∀ j, i ≤ j → j < M.length + 32 → B.getD j false = cell M i j

set_option maxRecDepth 100000 in
/-- The first 32 bits are turned. -/
theorem cells_start (M B : List Bool) (hl : B.length = M.length + 32) (h : ∀ j, j < M.length + 32 → B.getD j false = (mbit M j ^^ decide (j < 32))) : Cells M 0 B := by
  refine ⟨hl, fun j _ hj => ?_⟩
  rw [h j hj]
  unfold cell
  rw [reg_zero, BitVec.getLsbD_allOnes, Nat.sub_zero, Bool.xor_comm]

set_option maxRecDepth 100000 in
theorem cells_first {M B : List Bool} {i : Nat} (h : Cells M i B) (hi : i < M.length) : B.getD i false = ((reg M i).getLsbD 0 ^^ mbit M i) := by
  rw [h.2 i (Nat.le_refl _) (by omega)]
  unfold cell
  rw [Nat.sub_self]

set_option maxRecDepth 100000 in
/-- A step at which the first cell is nought. -/
theorem cells_skip {M B : List Bool} {i : Nat} (h : Cells M i B) (hi : i < M.length) (hb : B.getD i false = false) : Cells M (i + 1) B := by
  refine ⟨h.1, fun j hj hjl => ?_⟩
  rw [h.2 j (by omega) hjl]
  have hf := cells_first h hi
  rw [hb] at hf
  unfold cell
  rw [reg_succ M i hi, step_bit, ← hf, Bool.false_and, Bool.xor_false, show j - (i + 1) + 1 = j - i from by omega]

set_option maxRecDepth 100000 in
/-- A step at which it is one: the cells at the powers are turned. -/
theorem cells_turn {M B : List Bool} {i : Nat} (h : Cells M i B) (hi : i < M.length) (hb : B.getD i false = true) : Cells M (i + 1) (togg i B pows) := by
  refine ⟨by rw [togg_len]; exact h.1, fun j hj hjl => ?_⟩
  rw [togg_get i j pows B pows_le pows_nodup (by rw [h.1]; exact hjl), h.2 j (by omega) hjl]
  have hf := cells_first h hi
  rw [hb] at hf
  unfold cell
  rw [reg_succ M i hi, step_bit, ← hf, Bool.true_and, show j - (i + 1) + 1 = j - i from by omega]
  have hp : pows.any (fun p => i + 32 - p == j) = poly.getLsbD (j - (i + 1)) := by
    by_cases hs : j - (i + 1) < 33
    · rw [← pows_bits ⟨j - (i + 1), hs⟩]
      congr 1
      funext p
      rw [Bool.eq_iff_iff]
      simp
      omega
    · rw [BitVec.getLsbD_of_ge _ _ (by omega), List.any_eq_false]
      intro p hp
      simp
      omega
  rw [hp]
  cases (reg M i).getLsbD (j - i) <;> cases mbit M j <;> cases poly.getLsbD (j - (i + 1)) <;> rfl

set_option maxRecDepth 100000 in
/-- The last 32 cells are the register. -/
theorem cells_end {M B : List Bool} (h : Cells M M.length B) (t : Nat) (ht : t < 32) : (!B.getD (M.length + t) false) = (~~~ run (BitVec.allOnes 32) M).getLsbD t := by
  rw [h.2 _ (by omega) (by omega)]
  unfold cell reg
  have hm : mbit M (M.length + t) = false := by
    unfold mbit
    rw [List.getD_eq_getElem?_getD, List.getElem?_eq_none (by omega)]
    rfl
  rw [hm, Nat.add_sub_cancel_left, Bool.xor_false, List.take_length, BitVec.getLsbD_not, decide_eq_true ht, Bool.true_and]

set_option maxRecDepth 100000 in
/-- The highest bits of a number, one more. -/
theorem top_bit (x i : Nat) (hi : i < 32) : x / 2 ^ (32 - (i + 1)) = x / 2 ^ (32 - i) * 2 + (if x.testBit (31 - i) then 1 else 0) := by
  have e : 32 - i = (31 - i) + 1 := by omega
  have e2 : 32 - (i + 1) = 31 - i := by omega
  rw [e, e2, Nat.pow_succ, ← Nat.div_div_eq_div_mul, Nat.testBit_eq_decide_div_mod_eq]
  generalize x / 2 ^ (31 - i) = y
  by_cases h : y % 2 = 1
  · rw [decide_eq_true h]; simp; omega
  · rw [decide_eq_false h]; simp; omega
end Go.Proofs.YtajhmgbicliihaaGreatDoor.Crc
/- The document's own answer of layer 2: the sum by division. -/
namespace Go.Proofs.YtajhmgbicliihaaGreatDoor
open Go.RowKit

def powCells : Array Value := #[.int .i64 28, .int .i64 27, .int .i64 26, .int .i64 25, .int .i64 23, .int .i64 22, .int .i64 20, .int .i64 19, .int .i64 18, .int .i64 14, .int .i64 13, .int .i64 11, .int .i64 10, .int .i64 9, .int .i64 8, .int .i64 6, .int .i64 0]

set_option maxRecDepth 100000 in
theorem powCells_at (k p : Nat) (h : Crc.pows[k]? = some p) : powCells[k]? = some (.int .i64 p) := by
  have hk : k < 17 := (List.getElem?_eq_some_iff.1 h).1
  have : ∀ j : Fin 17, powCells[j.val]? = (Crc.pows[j.val]?).map fun q => Value.int .i64 (q : Int) := by
    intro j
    match j with
    | ⟨0, _⟩ | ⟨1, _⟩ | ⟨2, _⟩ | ⟨3, _⟩ | ⟨4, _⟩ | ⟨5, _⟩ | ⟨6, _⟩ | ⟨7, _⟩ | ⟨8, _⟩ | ⟨9, _⟩ | ⟨10, _⟩ | ⟨11, _⟩ | ⟨12, _⟩ | ⟨13, _⟩ | ⟨14, _⟩ | ⟨15, _⟩ | ⟨16, _⟩ => rfl
    | ⟨n + 17, h⟩ => exact absurd h (by omega)
  rw [this ⟨k, hk⟩, h]
  rfl

/-- The call's own row of bits at block g. -/
def Cel (w : World) (g n cap : Nat) (B : List Bool) (wr : World) : Prop := B.length = n ∧ w.heap.size ≤ g ∧ wr.ownsRow w.heap.size 4 1 (.slice (some ⟨g, 0, none⟩) n cap) n (bools B) ∧ Below w.heap.size w wr

set_option maxRecDepth 100000 in
theorem Cel.at {w wr : World} {g n cap : Nat} {B : List Bool} (h : Cel w g n cap B wr) {j : Nat} (hj : j < n) : wr.cell? ⟨g, j, none⟩ = some (.bool (B.getD j false)) := by
  rw [h.2.2.1.cellAt j (by omega)]
  have : j < B.length := by rw [h.1]; exact hj
  simp [bools, List.getD, this]

set_option maxRecDepth 100000 in
theorem Cel.free {w wr : World} {g n cap : Nat} {B : List Bool} (h : Cel w g n cap B wr) (j : Nat) : wr.frozen? ⟨g, j, none⟩ = false := h.2.2.1.frozenAt j

set_option maxRecDepth 100000 in
theorem Cel.set {w wr : World} {g n cap : Nat} {B : List Bool} (h : Cel w g n cap B wr) (j : Nat) (x : Bool) : Cel w g n cap (B.set j x) (wr.setCell ⟨g, j, none⟩ (.bool x)) := by
  refine ⟨by rw [List.length_set]; exact h.1, h.2.1, ?_, h.2.2.2.setCell (p := ⟨g, j, none⟩) h.2.1 _⟩
  have := (h.2.2.1.stored j (.bool x)).1
  simpa [bools, List.map_set] using this

set_option maxRecDepth 100000 in
theorem Cel.new {w wr : World} {g n cap : Nat} {B : List Bool} (h : Cel w g n cap B wr) (o : Obj) : Cel w g n cap B (wr.alloc o) := ⟨h.1, h.2.1, h.2.2.1.alloc o, h.2.2.2.alloc h.2.2.2.size o⟩

set_option maxRecDepth 100000 in
theorem Cel.draws {w wr : World} {g n cap : Nat} {B : List Bool} (h : Cel w g n cap B wr) : Cel w g n cap B wr.drew := ⟨h.1, h.2.1, h.2.2.1.drew, h.2.2.2.drew⟩

set_option maxRecDepth 100000 in
theorem Cel.ne {w wr : World} {g n cap : Nat} {B : List Bool} (h : Cel w g n cap B wr) {b : Nat} {u : TypeId} {cs : Array Value} (hr : Row wr b u cs) (hu : u ≠ 4) : g ≠ b := by
  rintro rfl
  rcases h.2.2.1.2 with ⟨hv, _⟩ | ⟨g', cap', cur, hv, _, hh, _⟩
  · simp at hv
  · simp only [Value.slice.injEq, Option.some.injEq, Addr.mk.injEq, and_true, true_and] at hv
    obtain ⟨rfl, _⟩ := hv
    have h2 : wr.heap[g]? = some (Obj.cells cs u (0, 0)) := hr
    rw [h2] at hh
    injection hh with hh
    injection hh with _ ht
    exact hu ht

set_option maxRecDepth 100000 in
theorem cel_of {w wr : World} {v : Value} {B : List Bool} (h : BitsAt w B v wr) (hn : 0 < B.length) : ∃ g cap, v = .slice (some ⟨g, 0, none⟩) B.length cap ∧ Cel w g B.length cap B wr := by
  rcases h.1.2 with ⟨_, h0⟩ | ⟨g, cap, cur, hv, hb, _⟩
  · omega
  · refine ⟨g, cap, hv, rfl, hb, ?_, h.2⟩
    have := h.1
    rw [hv] at this
    exact this

set_option maxRecDepth 100000 in
theorem pad_get (M : List Bool) (n j : Nat) : (M ++ List.replicate n false).getD j false = Crc.mbit M j := by
  unfold Crc.mbit
  simp only [List.getD_eq_getElem?_getD]
  by_cases h : j < M.length
  · rw [List.getElem?_append_left h]
  · rw [List.getElem?_append_right (by omega), List.getElem?_eq_none (l := M) (by omega), List.getElem?_replicate]
    by_cases h2 : j - M.length < n
    · rw [if_pos h2]; rfl
    · rw [if_neg h2]

/-- The first i bits are turned. -/
def Turned (M : List Bool) (i : Nat) (B : List Bool) : Prop := B.length = M.length + 32 ∧ ∀ j, j < M.length + 32 → B.getD j false = (Crc.mbit M j ^^ decide (j < i))

set_option maxRecDepth 100000 in
theorem turned_more {M B : List Bool} {i : Nat} (h : Turned M i B) (hi : i < M.length + 32) : Turned M (i + 1) (B.set i (!B.getD i false)) := by
  refine ⟨by rw [List.length_set]; exact h.1, fun j hj => ?_⟩
  have hl := h.1
  by_cases e : i = j
  · subst e
    have : (B.set i (!B.getD i false)).getD i false = !B.getD i false := by
      rw [List.getD_eq_getElem?_getD, List.getElem?_set_self (by omega)]; rfl
    rw [this, h.2 i hj, decide_eq_true (show i < i + 1 by omega), decide_eq_false (show ¬ i < i by omega)]
    cases Crc.mbit M i <;> rfl
  · have : (B.set i (!B.getD i false)).getD j false = B.getD j false := by
      rw [List.getD_eq_getElem?_getD, List.getElem?_set_ne e, List.getD_eq_getElem?_getD]
    rw [this, h.2 j hj]
    congr 1
    rw [decide_eq_decide]
    omega

end Go.Proofs.YtajhmgbicliihaaGreatDoor
/- The four bytes of a number, and the document's own answer of layer 2 for them. -/
namespace Go.Proofs.YtajhmgbicliihaaGreatDoor
open Go.RowKit

/-- The four bytes of a number, the lowest first. -/
def fourOf (n : Nat) : List UInt8 := [UInt8.ofNat (n % 256), UInt8.ofNat (n / 256 % 256), UInt8.ofNat (n / 65536 % 256), UInt8.ofNat (n / 16777216)]

set_option maxRecDepth 100000 in
theorem u8_num (n : Nat) (h : n < 256) : (UInt8.ofNat n).toNat = n := by rw [UInt8.toNat_ofNat']; omega

set_option maxRecDepth 100000 in
/-- Four bytes in a row of their own, as a text. -/
theorem run_four (W : World) (a b c d : Nat) (ha : a < 256) (hb : b < 256) (hc : c < 256) (hd : d < 256) :
    (convert 125 9 (.slice (some ⟨W.heap.size, 0, none⟩) 4 4)).run Tryz.prog (W.alloc (.cells #[.int .u8 a, .int .u8 b, .int .u8 c, .int .u8 d] 5)) =
      .ok (.string ⟨#[UInt8.ofNat a, UInt8.ofNat b, UInt8.ofNat c, UInt8.ofNat d]⟩) (W.alloc (.cells #[.int .u8 a, .int .u8 b, .int .u8 c, .int .u8 d] 5)) := by
  have hr := Row.made W 5 #[.int .u8 a, .int .u8 b, .int .u8 c, .int .u8 d]
  refine run_convert_bytes_back (P := Tryz.prog) _ 125 9 5 ⟨W.heap.size, 0, none⟩ 4 [UInt8.ofNat a, UInt8.ofNat b, UInt8.ofNat c, UInt8.ofNat d] Tryz.underlying125 Tryz.underlying5 Tryz.underlying9 (fun j hj => ?_)
  rw [Go.WideShapes.add_plain, hr.at]
  match j, hj with
  | 0, _ => simp [u8_num a ha]
  | 1, _ => simp [u8_num b hb]
  | 2, _ => simp [u8_num c hc]
  | 3, _ => simp [u8_num d hd]

set_option maxRecDepth 100000 in
theorem idx (s : ByteArray) (k : Nat) (h : k < s.size) : ∃ c : UInt8, s.data.toList[k]? = some c ∧ ∀ V : World, (Instr.index 9 (.string s) (.int .i64 (k : Int))).run Tryz.prog V = .ok (.int .u8 (c.toNat : Int)) V := by
  refine ⟨s[k]'h, ?_, fun V => by go_simp⟩
  rw [List.getElem?_eq_getElem (by rw [← Lib.size_eq]; exact h), Array.getElem_toList]
  rfl

end Go.Proofs.YtajhmgbicliihaaGreatDoor
/- Numbers as groups of seven bits, laid and read: lists of bytes alone, no program. -/
namespace Go.Proofs.YtajhmgbicliihaaGreatDoor.Leb

/-- A number from its byte i on: the number, how many bytes it has in all, and the error's number. -/
def dec : Nat → Nat → Nat → List UInt8 → Nat × Nat × Int
  | 0, _, _, _ => (0, 0, 6)
  | _ + 1, _, _, [] => (0, 0, 5)
  | f + 1, i, acc, b :: rest =>
    if b = 0 ∧ 0 < i then (0, 0, 6)
    else if b.toNat < 128 then (acc + b.toNat % 128 * 128 ^ i, i + 1, 0)
    else dec f (i + 1) (acc + b.toNat % 128 * 128 ^ i) rest

/-- The number that bytes begin with. -/
def first (l : List UInt8) : Nat × Nat × Int := dec 9 0 0 l

/-- The text that bytes begin with. -/
def second (l : List UInt8) : List UInt8 × Nat × Int :=
  if (first l).2.2 = 0 then
    if l.length - (first l).2.1 < (first l).1 then ([], 0, 5) else ((l.drop (first l).2.1).take (first l).1, (first l).2.1 + (first l).1, 0)
  else ([], 0, (first l).2.2)

/-- A number's bytes. -/
def encF : Nat → Nat → List UInt8
  | 0, n => [UInt8.ofNat n]
  | f + 1, n => if n ≤ 127 then [UInt8.ofNat n] else UInt8.ofNat (n % 128 + 128) :: encF f (n / 128)

def enc (n : Nat) : List UInt8 := encF 8 n

set_option maxRecDepth 100000 in
theorem encF_len (f n : Nat) : 1 ≤ (encF f n).length ∧ (encF f n).length ≤ f + 1 := by
  induction f generalizing n with
  | zero => simp [encF]
  | succ f ih =>
    simp only [encF]
    split
    · simp
    · have := ih (n / 128)
      simp only [List.length_cons]
      omega

set_option maxRecDepth 100000 in
theorem enc_len (n : Nat) : 1 ≤ (enc n).length ∧ (enc n).length ≤ 9 := encF_len 8 n

set_option maxRecDepth 100000 in
theorem toNat_ofNat (n : Nat) (h : n < 256) : (UInt8.ofNat n).toNat = n := by
  rw [UInt8.toNat_ofNat']; omega

set_option maxRecDepth 100000 in
theorem ofNat_ne (n : Nat) (h : n < 256) (h0 : 0 < n) : UInt8.ofNat n ≠ 0 := by
  intro e
  have : (UInt8.ofNat n).toNat = 0 := by rw [e]; rfl
  rw [toNat_ofNat n h] at this
  omega

set_option maxRecDepth 100000 in
theorem dec_enc (f i acc m : Nat) (s : List UInt8) (hm : m < 128 ^ (f + 1)) (h0 : 0 < i → 0 < m) :
    dec (f + 1) i acc (encF f m ++ s) = (acc + m * 128 ^ i, i + (encF f m).length, 0) := by
  induction f generalizing i acc m with
  | zero =>
    have hm' : m < 128 := by simpa using hm
    have ht := toNat_ofNat m (by omega)
    have hz : ¬ (UInt8.ofNat m = 0 ∧ 0 < i) := by
      rintro ⟨a, b⟩
      exact ofNat_ne m (by omega) (h0 b) a
    simp only [encF, List.cons_append, List.nil_append, dec, if_neg hz, ht, if_pos hm', List.length_cons, List.length_nil, Nat.mod_eq_of_lt hm']
  | succ f ih =>
    simp only [encF]
    by_cases hs : m ≤ 127
    · rw [if_pos hs]
      have hm' : m < 128 := by omega
      have ht := toNat_ofNat m (by omega)
      have hz : ¬ (UInt8.ofNat m = 0 ∧ 0 < i) := by
        rintro ⟨a, b⟩
        exact ofNat_ne m (by omega) (h0 b) a
      simp only [List.cons_append, List.nil_append, dec, if_neg hz, ht, if_pos hm', List.length_cons, List.length_nil, Nat.mod_eq_of_lt hm']
    · rw [if_neg hs]
      have ht := toNat_ofNat (m % 128 + 128) (by omega)
      have hz : ¬ (UInt8.ofNat (m % 128 + 128) = 0 ∧ 0 < i) := by
        rintro ⟨a, b⟩
        exact ofNat_ne (m % 128 + 128) (by omega) (by omega) a
      have hd : m / 128 < 128 ^ (f + 1) := by
        rw [Nat.div_lt_iff_lt_mul (by omega), ← Nat.pow_succ]; exact hm
      have := ih (i + 1) (acc + (m % 128) * 128 ^ i) (m / 128) hd (fun _ => by omega)
      have e1 : (m % 128 + 128) % 128 = m % 128 := by omega
      have e2 : acc + m % 128 * 128 ^ i + m / 128 * 128 ^ (i + 1) = acc + m * 128 ^ i := by
        rw [Nat.pow_succ, Nat.mul_comm (128 ^ i) 128, ← Nat.mul_assoc, Nat.add_assoc, ← Nat.add_mul]
        congr 2
        omega
      rw [List.cons_append, dec, if_neg hz, ht, if_neg (by omega), e1, this, e2]
      simp only [List.length_cons]
      congr 2
      omega

set_option maxRecDepth 100000 in
theorem dec_only (f i acc : Nat) (s : List UInt8) (n k : Nat) (h : dec (f + 1) i acc s = (n, k, 0)) :
    ∃ m, n = acc + m * 128 ^ i ∧ m < 128 ^ (f + 1) ∧ k = i + (encF f m).length ∧ s.take (encF f m).length = encF f m := by
  induction f generalizing i acc s n k with
  | zero =>
    cases s with
    | nil => simp [dec] at h
    | cons b rest =>
      simp only [dec] at h
      split at h
      · simp at h
      · split at h
        · rename_i hb
          simp only [Prod.mk.injEq, and_true] at h
          refine ⟨b.toNat, ?_, by simpa using hb, ?_, ?_⟩
          · rw [← h.1, Nat.mod_eq_of_lt hb]
          · simp [encF, h.2]
          · simp [encF]
        · simp at h
  | succ f ih =>
    cases s with
    | nil => simp [dec] at h
    | cons b rest =>
      rw [dec] at h
      split at h
      · simp at h
      · rename_i hz
        split at h
        · rename_i hb
          simp only [Prod.mk.injEq, and_true] at h
          have hpos : 0 < 128 ^ (f + 1) := Nat.pow_pos (by omega)
          refine ⟨b.toNat, ?_, ?_, ?_, ?_⟩
          · rw [← h.1, Nat.mod_eq_of_lt hb]
          · rw [Nat.pow_succ]; omega
          · rw [encF, if_pos (by omega)]; simp [h.2]
          · rw [encF, if_pos (by omega)]; simp
        · rename_i hb
          obtain ⟨m, h1, h2, h3, h4⟩ := ih _ _ _ _ _ h
          have hlt : b.toNat < 256 := b.toNat_lt
          have hm0 : 0 < m := by
            rcases Nat.eq_zero_or_pos m with h0 | h0
            · subst h0
              exfalso
              have he : encF f 0 = [0] := by cases f <;> rfl
              rw [he] at h4
              cases rest with
              | nil => simp at h4
              | cons c r =>
                simp at h4
                subst h4
                cases f <;> simp [dec] at h
            · exact h0
          have e1 : (b.toNat % 128 + m * 128) / 128 = m := by omega
          have e2 : (b.toNat % 128 + m * 128) % 128 = b.toNat % 128 := by omega
          have e3 : UInt8.ofNat (b.toNat % 128 + 128) = b := by
            have : b.toNat % 128 + 128 = b.toNat := by omega
            rw [this]; simp
          refine ⟨b.toNat % 128 + m * 128, ?_, ?_, ?_, ?_⟩
          · rw [h1, Nat.pow_succ, Nat.mul_comm (128 ^ i) 128, ← Nat.mul_assoc, Nat.add_assoc, ← Nat.add_mul]
          · rw [Nat.pow_succ]; omega
          · rw [encF, if_neg (by omega), e1, h3]; simp only [List.length_cons]; omega
          · rw [encF, if_neg (by omega), e1, e2, e3]; simp [h4]

set_option maxRecDepth 100000 in
theorem first_enc (n : Nat) (s : List UInt8) (h : n < 9223372036854775808) : first (enc n ++ s) = (n, (enc n).length, 0) := by
  have := dec_enc 8 0 0 n s (by simpa using h) (by omega)
  simpa [first, enc] using this

set_option maxRecDepth 100000 in
theorem first_only (s : List UInt8) (n k : Nat) (h : first s = (n, k, 0)) : n < 9223372036854775808 ∧ k = (enc n).length ∧ s.take k = enc n := by
  obtain ⟨m, h1, h2, h3, h4⟩ := dec_only 8 0 0 s n k h
  have e : n = m := by simpa using h1
  subst e
  refine ⟨by simpa using h2, by simpa [enc] using h3, ?_⟩
  have : k = (encF 8 n).length := by simpa using h3
  rw [this]; exact h4

set_option maxRecDepth 100000 in
theorem dec_fits (f i acc : Nat) (s : List UInt8) (h : acc < 128 ^ i) : (dec f i acc s).1 < 128 ^ (i + f) ∧ (dec f i acc s).2.1 ≤ i + s.length ∧ ((dec f i acc s).2.2 = 0 ∨ ((dec f i acc s).1 = 0 ∧ (dec f i acc s).2.1 = 0)) ∧ ((dec f i acc s).2.2 = 0 ∨ (dec f i acc s).2.2 = 5 ∨ (dec f i acc s).2.2 = 6) := by
  have hp : ∀ j, 0 < 128 ^ j := fun j => Nat.pow_pos (by omega)
  induction f generalizing i acc s with
  | zero => simp [dec, hp]
  | succ f ih =>
    cases s with
    | nil => simp [dec, hp]
    | cons b rest =>
      rw [dec]
      have hstep : acc + b.toNat % 128 * 128 ^ i < 128 ^ (i + 1) := by
        have h1 : b.toNat % 128 * 128 ^ i ≤ 127 * 128 ^ i := Nat.mul_le_mul_right _ (by omega)
        rw [Nat.pow_succ]; omega
      split
      · simp [hp]
      · split
        · refine ⟨Nat.lt_of_lt_of_le hstep (Nat.pow_le_pow_right (by omega) (by omega)), by simp only [List.length_cons]; omega, Or.inl rfl, Or.inl rfl⟩
        · have := ih (i + 1) _ rest hstep
          simp only [List.length_cons]
          refine ⟨by rw [show i + (f + 1) = i + 1 + f from by omega]; exact this.1, by omega, this.2.2⟩

set_option maxRecDepth 100000 in
theorem first_fits (s : List UInt8) : (first s).1 < 9223372036854775808 ∧ (first s).2.1 ≤ s.length ∧ ((first s).2.2 = 0 ∨ ((first s).1 = 0 ∧ (first s).2.1 = 0)) ∧ ((first s).2.2 = 0 ∨ (first s).2.2 = 5 ∨ (first s).2.2 = 6) := by
  have := dec_fits 9 0 0 s (by simp)
  simpa [first] using this

/-! ### In bits -/

set_option maxRecDepth 100000 in
theorem or_low (acc c i : Nat) (h : acc < 128 ^ i) : acc ||| (c <<< (7 * i)) = acc + c * 128 ^ i := by
  have e : (128 : Nat) ^ i = 2 ^ (7 * i) := by rw [Nat.pow_mul]
  rw [Nat.or_comm, ← Nat.shiftLeft_add_eq_or_of_lt (by rw [← e]; exact h), Nat.shiftLeft_eq, e]
  omega

set_option maxRecDepth 100000 in
theorem and_low (c : Nat) : c &&& 127 = c % 128 := Nat.and_two_pow_sub_one_eq_mod c 7

set_option maxRecDepth 100000 in
theorem and_high (c : Nat) (h : c < 256) : c &&& 128 = if c < 128 then 0 else 128 := by
  have : ∀ x : Fin 256, x.val &&& 128 = if x.val < 128 then 0 else 128 := by decide +kernel
  exact this ⟨c, h⟩
end Go.Proofs.YtajhmgbicliihaaGreatDoor.Leb
/- Records with their sums: lists of bytes alone. -/
namespace Go.Proofs.YtajhmgbicliihaaGreatDoor.Frm

def sumOf (t : List UInt8) : List UInt8 := fourOf (Crc.sum t).toNat

set_option maxRecDepth 100000 in
theorem sumOf_len (t : List UInt8) : (sumOf t).length = 4 := rfl

/-- A record, as it stands. -/
def one (t : List UInt8) : List UInt8 := Leb.enc t.length ++ t ++ sumOf t

def all (l : List (List UInt8)) : List UInt8 := l.flatMap one

set_option maxRecDepth 100000 in
theorem one_len (t : List UInt8) : (one t).length = (Leb.enc t.length).length + t.length + 4 := by
  unfold one
  rw [List.length_append, List.length_append, sumOf_len]

set_option maxRecDepth 100000 in
theorem all_cons (t : List UInt8) (l : List (List UInt8)) : all (t :: l) = one t ++ all l := rfl
set_option maxRecDepth 100000 in
theorem all_snoc (l : List (List UInt8)) (t : List UInt8) : all (l ++ [t]) = all l ++ one t := by simp [all]

/-- The record that bytes begin with. -/
def first (s : List UInt8) : List UInt8 × Nat × Int :=
  if (Leb.second s).2.2 = 0 then
    if s.length - (Leb.second s).2.1 < 4 then ([], 0, 5)
    else if (s.drop (Leb.second s).2.1).take 4 = sumOf (Leb.second s).1 then ((Leb.second s).1, (Leb.second s).2.1 + 4, 0) else ([], 0, 7)
  else ([], 0, (Leb.second s).2.2)

def readF : Nat → List UInt8 → List (List UInt8) × Int
  | 0, s => if s = [] then ([], 0) else ([], 5)
  | f + 1, s =>
    if s = [] then ([], 0)
    else if (first s).2.2 = 0 then
      if (readF f (s.drop (first s).2.1)).2 = 0 then ((first s).1 :: (readF f (s.drop (first s).2.1)).1, 0) else ([], (readF f (s.drop (first s).2.1)).2)
    else ([], (first s).2.2)

/-- All records. -/
def read (s : List UInt8) : List (List UInt8) × Int := readF s.length s

set_option maxRecDepth 100000 in
theorem second_enc (t r : List UInt8) (h : t.length < 9223372036854775808) : Leb.second (Leb.enc t.length ++ t ++ r) = (t, (Leb.enc t.length).length + t.length, 0) := by
  have h1 := Leb.first_enc t.length (t ++ r) h
  rw [← List.append_assoc] at h1
  unfold Leb.second
  rw [h1]
  simp only [if_true]
  rw [if_neg (by simp)]
  congr 1
  rw [List.append_assoc, List.drop_left, List.take_left]

set_option maxRecDepth 100000 in
theorem first_one (t r : List UInt8) (h : t.length < 9223372036854775808) : first (one t ++ r) = (t, (one t).length, 0) := by
  have h2 : Leb.second (one t ++ r) = (t, (Leb.enc t.length).length + t.length, 0) := by
    unfold one
    rw [List.append_assoc (Leb.enc t.length ++ t)]
    exact second_enc t (sumOf t ++ r) h
  unfold first
  rw [h2]
  simp only [if_true]
  rw [if_neg (by rw [List.length_append, one_len]; omega)]
  have h3 : ((one t ++ r).drop ((Leb.enc t.length).length + t.length)).take 4 = sumOf t := by
    have e : one t ++ r = (Leb.enc t.length ++ t) ++ (sumOf t ++ r) := by unfold one; simp
    rw [e, ← List.length_append, List.drop_left, ← sumOf_len t, List.take_left]
  rw [if_pos h3, one_len]

set_option maxRecDepth 100000 in
theorem second_only (s t : List UInt8) (k : Nat) (h : Leb.second s = (t, k, 0)) : t.length < 9223372036854775808 ∧ k = (Leb.enc t.length).length + t.length ∧ s.take k = Leb.enc t.length ++ t ∧ k ≤ s.length := by
  unfold Leb.second at h
  by_cases he : (Leb.first s).2.2 = 0
  · rw [if_pos he] at h
    by_cases hl : s.length - (Leb.first s).2.1 < (Leb.first s).1
    · rw [if_pos hl] at h
      simp at h
    · rw [if_neg hl] at h
      simp only [Prod.mk.injEq] at h
      obtain ⟨h1, h2, _⟩ := h
      have hf := Leb.first_fits s
      obtain ⟨g1, g2, g3⟩ := Leb.first_only s (Leb.first s).1 (Leb.first s).2.1 (by rw [← he])
      have hkl := hf.2.1
      have hlen : t.length = (Leb.first s).1 := by
        rw [← h1, List.length_take, List.length_drop]
        omega
      refine ⟨by rw [hlen]; exact g1, by rw [← h2, hlen, ← g2], ?_, by omega⟩
      rw [← h2, List.take_add, g3, hlen, ← h1]
  · rw [if_neg he] at h
    simp only [Prod.mk.injEq] at h
    exact absurd h.2.2 he

set_option maxRecDepth 100000 in
theorem first_only (s t : List UInt8) (n : Nat) (h : first s = (t, n, 0)) : t.length < 9223372036854775808 ∧ n = (one t).length ∧ s = one t ++ s.drop n ∧ 5 ≤ n := by
  unfold first at h
  by_cases he : (Leb.second s).2.2 = 0
  · rw [if_pos he] at h
    by_cases hl : s.length - (Leb.second s).2.1 < 4
    · rw [if_pos hl] at h; simp at h
    · rw [if_neg hl] at h
      by_cases hs : (s.drop (Leb.second s).2.1).take 4 = sumOf (Leb.second s).1
      · rw [if_pos hs] at h
        simp only [Prod.mk.injEq, and_true] at h
        obtain ⟨h1, h2⟩ := h
        obtain ⟨g1, g2, g3, g4⟩ := second_only s (Leb.second s).1 (Leb.second s).2.1 (by rw [← he])
        rw [h1] at g1 g2 g3 hs
        have hn : n = (one t).length := by rw [one_len, ← g2]; exact h2.symm
        refine ⟨g1, hn, ?_, by have := (Leb.enc_len t.length).1; rw [hn, one_len]; omega⟩
        have e : s.take n = one t := by
          rw [← h2, List.take_add, g3, hs]
          rfl
        rw [← e, List.take_append_drop]
      · rw [if_neg hs] at h; simp at h
  · rw [if_neg he] at h
    simp only [Prod.mk.injEq] at h
    exact absurd h.2.2 he

set_option maxRecDepth 100000 in
theorem one_pos (t : List UInt8) : 5 ≤ (one t).length := by
  have := (Leb.enc_len t.length).1
  rw [one_len]; omega

set_option maxRecDepth 100000 in
theorem readF_all : ∀ (l : List (List UInt8)) (f : Nat), (∀ t ∈ l, t.length < 9223372036854775808) → (all l).length ≤ f → readF f (all l) = (l, 0)
  | [], f, _, _ => by cases f <;> rfl
  | t :: l, f, h, hf => by
    have hp := one_pos t
    rw [all_cons, List.length_append] at hf
    match f, hf with
    | 0, hf => omega
    | f + 1, hf =>
      have h1 := first_one t (all l) (h t (by simp))
      have hne : one t ++ all l ≠ [] := fun e => by
        have := congrArg List.length e
        rw [List.length_append] at this
        simp at this
        rw [this.1] at hp
        simp at hp
      rw [all_cons, readF, if_neg hne, h1]
      simp only [if_true]
      rw [List.drop_left, readF_all l f (fun x hx => h x (by simp [hx])) (by omega)]
      simp

set_option maxRecDepth 100000 in
theorem read_all (l : List (List UInt8)) (h : ∀ t ∈ l, t.length < 9223372036854775808) : read (all l) = (l, 0) := readF_all l _ h (Nat.le_refl _)

set_option maxRecDepth 100000 in
theorem readF_only : ∀ (f : Nat) (s : List UInt8) (l : List (List UInt8)), readF f s = (l, 0) → all l = s
  | 0, s, l, h => by
    unfold readF at h
    by_cases e : s = []
    · rw [if_pos e] at h
      simp at h
      rw [h, e]; rfl
    · rw [if_neg e] at h; simp at h
  | f + 1, s, l, h => by
    unfold readF at h
    by_cases e : s = []
    · rw [if_pos e] at h
      simp at h
      rw [h, e]; rfl
    · rw [if_neg e] at h
      by_cases he : (first s).2.2 = 0
      · rw [if_pos he] at h
        by_cases hr : (readF f (s.drop (first s).2.1)).2 = 0
        · rw [if_pos hr] at h
          simp only [Prod.mk.injEq, and_true] at h
          obtain ⟨g1, g2, g3, g4⟩ := first_only s (first s).1 (first s).2.1 (by rw [← he])
          have ih := readF_only f (s.drop (first s).2.1) _ (by rw [← hr])
          rw [← h, all_cons, ih]
          exact g3.symm
        · rw [if_neg hr] at h
          simp only [Prod.mk.injEq] at h
          exact absurd h.2 hr
      · rw [if_neg he] at h
        simp only [Prod.mk.injEq] at h
        exact absurd h.2 he

set_option maxRecDepth 100000 in
theorem read_only (s : List UInt8) (l : List (List UInt8)) (h : read s = (l, 0)) : all l = s := readF_only _ _ _ h

set_option maxRecDepth 100000 in
/-- What is left of bytes does not hang on the steps allowed. -/
theorem readF_enough : ∀ (f g : Nat) (s : List UInt8), s.length ≤ f → s.length ≤ g → readF f s = readF g s
  | 0, g, s, hf, _ => by
    have : s = [] := List.eq_nil_of_length_eq_zero (by omega)
    subst this
    cases g <;> rfl
  | f + 1, 0, s, _, hg => by
    have : s = [] := List.eq_nil_of_length_eq_zero (by omega)
    subst this
    rfl
  | f + 1, g + 1, s, hf, hg => by
    unfold readF
    by_cases e : s = []
    · rw [if_pos e, if_pos e]
    · rw [if_neg e, if_neg e]
      by_cases he : (first s).2.2 = 0
      · have hn := (first_only s (first s).1 (first s).2.1 (by rw [← he])).2.2.2
        have hs : 0 < s.length := List.length_pos_iff.2 e
        have ih := readF_enough f g (s.drop (first s).2.1) (by rw [List.length_drop]; omega) (by rw [List.length_drop]; omega)
        rw [if_pos he, if_pos he, ih]
      · rw [if_neg he, if_neg he]

set_option maxRecDepth 100000 in
theorem read_step (s : List UInt8) (h : s ≠ []) : read s = if (first s).2.2 = 0 then (if (read (s.drop (first s).2.1)).2 = 0 then ((first s).1 :: (read (s.drop (first s).2.1)).1, 0) else ([], (read (s.drop (first s).2.1)).2)) else ([], (first s).2.2) := by
  have hs : 0 < s.length := List.length_pos_iff.2 h
  unfold read
  obtain ⟨f, hf⟩ : ∃ f, s.length = f + 1 := ⟨s.length - 1, by omega⟩
  rw [hf, readF, if_neg h]
  by_cases he : (first s).2.2 = 0
  · have hn := (first_only s (first s).1 (first s).2.1 (by rw [← he])).2.2.2
    rw [if_pos he, if_pos he, readF_enough f (s.drop (first s).2.1).length (s.drop (first s).2.1) (by rw [List.length_drop]; omega) (Nat.le_refl _)]
  · rw [if_neg he, if_neg he]

set_option maxRecDepth 100000 in
/-- A wrong end leaves no records. -/
theorem read_none (s : List UInt8) (h : (read s).2 ≠ 0) : (read s).1 = [] := by
  unfold read at h ⊢
  generalize s.length = f at *
  cases f with
  | zero =>
    unfold readF at h ⊢
    split <;> rfl
  | succ f =>
    unfold readF at h ⊢
    split
    · rfl
    · split
      · split
        · rename_i h1 h2 h3
          rw [if_neg h1, if_pos h2, if_pos h3] at h
          exact absurd rfl h
        · rfl
      · rfl
end Go.Proofs.YtajhmgbicliihaaGreatDoor.Frm
/- Small laws on bytes. No program is spoken of. -/
namespace Go.Proofs.YtajhmgbicliihaaGreatDoor
open Go.RowKit

set_option maxRecDepth 100000 in
theorem cut_data (r : ByteArray) (k : Nat) : (r.extract k r.size).data.toList = r.data.toList.drop k := by
  rw [Lib.extract_data]
  exact List.take_of_length_le (by rw [List.length_drop, Lib.size_eq]; exact Nat.le_refl _)

set_option maxRecDepth 100000 in
theorem bytes_ext {a b : ByteArray} (h : a.data.toList = b.data.toList) : a = b := ByteArray.ext (Array.toList_inj.1 h)

set_option maxRecDepth 100000 in
theorem cut_cut (r : ByteArray) (k j : Nat) : (r.extract k r.size).extract j (r.extract k r.size).size = r.extract (k + j) r.size :=
  bytes_ext (by rw [cut_data, cut_data, cut_data, List.drop_drop])

set_option maxRecDepth 100000 in
theorem at_data (r : ByteArray) (h : 0 < r.size) {c : UInt8} (hc : r.data.toList[0]? = some c) : r[0]'h = c := by
  obtain ⟨hl, he⟩ := List.getElem?_eq_some_iff.1 hc
  rw [← he, Array.getElem_toList]
  rfl

set_option maxRecDepth 100000 in
theorem mk_size (l : List UInt8) : (⟨l.toArray⟩ : ByteArray).size = l.length := by rw [Lib.size_eq]
end Go.Proofs.YtajhmgbicliihaaGreatDoor
/- The document's own answers: Number, Text, First, Second. -/
namespace Go.Proofs.YtajhmgbicliihaaGreatDoor
open Go.RowKit

set_option maxRecDepth 100000 in
theorem one_byte (W : World) (g : Nat) (hg : g < 256) :
    (convert 125 9 (.slice (some ⟨W.heap.size, 0, none⟩) 1 1)).run Tryz.prog (W.alloc (.cells #[.int .u8 (g : Int)] 5)) = .ok (.string ⟨#[UInt8.ofNat g]⟩) (W.alloc (.cells #[.int .u8 (g : Int)] 5)) := by
  refine run_convert_bytes_back (P := Tryz.prog) _ 125 9 5 ⟨W.heap.size, 0, none⟩ 1 [UInt8.ofNat g] Tryz.underlying125 Tryz.underlying5 Tryz.underlying9 (fun j hj => ?_)
  have hj0 : j = 0 := by simpa using hj
  subst hj0
  have := (Row.made W 5 #[.int .u8 (g : Int)]).at 0
  rw [show (⟨W.heap.size, 0, none⟩ : Addr).add 0 = ⟨W.heap.size, 0, none⟩ from rfl, this]
  simp only [List.getElem_cons_zero, Leb.toNat_ofNat g hg]
  rfl

def RefLoop (w : World) (l : List UInt8) (out : ByteArray) (m : Nat) (wr : World) : Prop :=
  ∃ f, m < 128 ^ (f + 1) ∧ f ≤ 8 ∧ out.data.toList ++ Leb.encF f m = l ∧ Below w.heap.size w wr

def TripleIs (n k : Nat) (x : Int) (w : World) (e : Ending) (w' : World) : Prop := e = .returned (.tuple #[.int .i64 n, .int .i64 k, .int .i64 x]) ∧ w = w'

def FirstRel (l : List UInt8) (k acc p : Nat) : Prop :=
  k ≤ l.length ∧ acc < 128 ^ k ∧ p = 128 ^ (min k 8) ∧ Leb.dec (9 - k) k acc (l.drop k) = Leb.first l

end Go.Proofs.YtajhmgbicliihaaGreatDoor
/- The document's own answers of layer 4: One, All, First, Read; two slices that read as one list of texts. -/
namespace Go.Proofs.YtajhmgbicliihaaGreatDoor
open Go.RowKit

def mk (l : List UInt8) : ByteArray := ⟨l.toArray⟩
set_option maxRecDepth 100000 in
theorem mk_data (l : List UInt8) : (mk l).data.toList = l := rfl
set_option maxRecDepth 100000 in
theorem mk_len (l : List UInt8) : (mk l).size = l.length := by rw [Lib.size_eq]; rfl
set_option maxRecDepth 100000 in
theorem mk_of (s : ByteArray) : mk s.data.toList = s := bytes_ext rfl
set_option maxRecDepth 100000 in
theorem mk_append (a b : List UInt8) : mk a ++ mk b = mk (a ++ b) := bytes_ext (by rw [ByteArray.data_append, Array.toList_append]; rfl)

def texts (l : List (List UInt8)) : List Value := l.map fun t => Value.string (mk t)
set_option maxRecDepth 100000 in
theorem texts_len (l : List (List UInt8)) : (texts l).length = l.length := List.length_map _
set_option maxRecDepth 100000 in
theorem texts_at {l : List (List UInt8)} {i : Nat} {t : List UInt8} (h : l[i]? = some t) : (texts l)[i]? = some (.string (mk t)) := by
  unfold texts
  rw [List.getElem?_map, h]; rfl

def NewIn (w w' : World) (k : Nat) : Prop := w.heap.size ≤ k ∧ k < w'.heap.size

set_option maxRecDepth 100000 in
theorem all_len (l : List (List UInt8)) (h : ∀ t ∈ l, t.length ≤ 100000) : (Frm.all l).length ≤ l.length * 100013 := by
  induction l with
  | nil => exact Nat.le_refl _
  | cons t l ih =>
    have h1 := ih (fun x hx => h x (by simp [hx]))
    have h2 := h t (by simp)
    have h3 := (Leb.enc_len t.length).2
    rw [Frm.all_cons, List.length_append, Frm.one_len, List.length_cons]
    omega

end Go.Proofs.YtajhmgbicliihaaGreatDoor
