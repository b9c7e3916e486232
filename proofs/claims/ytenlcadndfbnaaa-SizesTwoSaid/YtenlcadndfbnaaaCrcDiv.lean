/- The division, bit by bit, as the document's own answer does it: its cells are the register's bits added to the message's. No program is spoken of. -/
import Derived.Test.YtenlcadndfbnaaaCrcMath
namespace Go.Proofs.Ytenlcadndfbnaaa.Crc

/-- Bit j of a message, nought behind its end. -/
def mbit (M : List Bool) (j : Nat) : Bool := M.getD j false

/-- The register behind i bits. -/
def reg (M : List Bool) (i : Nat) : BitVec 32 := run (BitVec.allOnes 32) (M.take i)

/-- Cell j behind i steps of the division, for j from i on. -/
def cell (M : List Bool) (i j : Nat) : Bool := (reg M i).getLsbD (j - i) ^^ mbit M j

set_option maxRecDepth 100000 in
theorem reg_zero (M : List Bool) : reg M 0 = BitVec.allOnes 32 := rfl

set_option maxRecDepth 100000 in
theorem reg_succ (M : List Bool) (i : Nat) (h : i < M.length) : reg M (i + 1) = step (reg M i) (mbit M i) := by
  unfold reg
  rw [List.take_succ_eq_append_getElem h, run_append]
  have : mbit M i = M[i] := by simp [mbit, h]
  rw [this]
  rfl

set_option maxRecDepth 100000 in
theorem one_high (m : Bool) (t : Nat) : (one m).getLsbD (t + 1) = false := by
  cases m
  · simp [one]
  · simp [one]

set_option maxRecDepth 100000 in
theorem step_bit (r : BitVec 32) (m : Bool) (t : Nat) : (step r m).getLsbD t = (r.getLsbD (t + 1) ^^ ((r.getLsbD 0 ^^ m) && poly.getLsbD t)) := by
  unfold step z
  rw [BitVec.getLsbD_xor, BitVec.getLsbD_ushiftRight, BitVec.getLsbD_xor, Nat.add_comm 1 t, one_high, Bool.xor_false]
  have h0 : (r ^^^ one m).getLsbD 0 = (r.getLsbD 0 ^^ m) := by rw [BitVec.getLsbD_xor, one_low]
  rw [h0]
  cases (r.getLsbD 0 ^^ m) <;> simp

/-- The powers below 32, falling. -/
def pows : List Nat := [28, 27, 26, 25, 23, 22, 20, 19, 18, 14, 13, 11, 10, 9, 8, 6, 0]

set_option maxRecDepth 100000 in
theorem pows_bits : ∀ t : Fin 33, pows.any (fun p => 32 - p == t.val + 1) = poly.getLsbD t.val := by decide +kernel

/-- Cells are turned at these powers. -/
def togg (i : Nat) (B : List Bool) : List Nat → List Bool
  | [] => B
  | p :: ps => togg i (B.set (i + 32 - p) (!B.getD (i + 32 - p) false)) ps

set_option maxRecDepth 100000 in
theorem togg_len (i : Nat) (ps : List Nat) (B : List Bool) : (togg i B ps).length = B.length := by
  induction ps generalizing B with
  | nil => rfl
  | cons p ps ih => rw [togg, ih, List.length_set]

set_option maxRecDepth 100000 in
theorem togg_snoc (i : Nat) (ps : List Nat) (p : Nat) (B : List Bool) : togg i B (ps ++ [p]) = (togg i B ps).set (i + 32 - p) (!(togg i B ps).getD (i + 32 - p) false) := by
  induction ps generalizing B with
  | nil => rfl
  | cons q ps ih => rw [List.cons_append, togg, ih]; rfl

set_option maxRecDepth 100000 in
theorem togg_get (i j : Nat) (ps : List Nat) (B : List Bool) (hp : ∀ p ∈ ps, p ≤ 32) (hn : ps.Nodup) (hj : j < B.length) :
    (togg i B ps).getD j false = (B.getD j false ^^ ps.any (fun p => i + 32 - p == j)) := by
  induction ps generalizing B with
  | nil => simp [togg]
  | cons p ps ih =>
    obtain ⟨h1, h2⟩ := List.nodup_cons.1 hn
    rw [togg, ih _ (fun q hq => hp q (by simp [hq])) h2 (by simpa using hj), List.any_cons]
    by_cases hpj : i + 32 - p = j
    · have hno : ps.any (fun q => i + 32 - q == j) = false := by
        rw [List.any_eq_false]
        intro q hq
        have hq32 := hp q (by simp [hq])
        have hp32 := hp p (by simp)
        have : q ≠ p := fun e => h1 (e ▸ hq)
        simp
        omega
      rw [hno, hpj]
      simp [hj]
    · have hb : (i + 32 - p == j) = false := by simpa using hpj
      rw [hb, Bool.false_or]
      congr 1
      simp [List.getD, hpj]

set_option maxRecDepth 100000 in
theorem pows_nodup : pows.Nodup := by decide
set_option maxRecDepth 100000 in
theorem pows_le : ∀ p ∈ pows, p ≤ 32 := by decide

/-- The cells behind i steps. -/
def Cells (M : List Bool) (i : Nat) (B : List Bool) : Prop := B.length = M.length + 32 ∧ ∀ j, i ≤ j → j < M.length + 32 → B.getD j false = cell M i j

set_option maxRecDepth 100000 in
/-- The first 32 bits are turned. -/
theorem cells_start (M B : List Bool) (hl : B.length = M.length + 32) (h : ∀ j, j < M.length + 32 → B.getD j false = (mbit M j ^^ decide (j < 32))) : Cells M 0 B := by
  refine ⟨hl, fun j _ hj => ?_⟩
  rw [h j hj]
  unfold cell
  rw [reg_zero, BitVec.getLsbD_allOnes, Nat.sub_zero, Bool.xor_comm]

set_option maxRecDepth 100000 in
theorem cells_first {M B : List Bool} {i : Nat} (h : Cells M i B) (hi : i < M.length) : B.getD i false = ((reg M i).getLsbD 0 ^^ mbit M i) := by
  rw [h.2 i (Nat.le_refl _) (by omega)]
  unfold cell
  rw [Nat.sub_self]

set_option maxRecDepth 100000 in
/-- A step at which the first cell is nought. -/
theorem cells_skip {M B : List Bool} {i : Nat} (h : Cells M i B) (hi : i < M.length) (hb : B.getD i false = false) : Cells M (i + 1) B := by
  refine ⟨h.1, fun j hj hjl => ?_⟩
  rw [h.2 j (by omega) hjl]
  have hf := cells_first h hi
  rw [hb] at hf
  unfold cell
  rw [reg_succ M i hi, step_bit, ← hf, Bool.false_and, Bool.xor_false, show j - (i + 1) + 1 = j - i from by omega]

set_option maxRecDepth 100000 in
/-- A step at which it is one: the cells at the powers are turned. -/
theorem cells_turn {M B : List Bool} {i : Nat} (h : Cells M i B) (hi : i < M.length) (hb : B.getD i false = true) : Cells M (i + 1) (togg i B pows) := by
  refine ⟨by rw [togg_len]; exact h.1, fun j hj hjl => ?_⟩
  rw [togg_get i j pows B pows_le pows_nodup (by rw [h.1]; exact hjl), h.2 j (by omega) hjl]
  have hf := cells_first h hi
  rw [hb] at hf
  unfold cell
  rw [reg_succ M i hi, step_bit, ← hf, Bool.true_and, show j - (i + 1) + 1 = j - i from by omega]
  have hp : pows.any (fun p => i + 32 - p == j) = poly.getLsbD (j - (i + 1)) := by
    by_cases hs : j - (i + 1) < 33
    · rw [← pows_bits ⟨j - (i + 1), hs⟩]
      congr 1
      funext p
      rw [Bool.eq_iff_iff]
      simp
      omega
    · rw [BitVec.getLsbD_of_ge _ _ (by omega), List.any_eq_false]
      intro p hp
      simp
      omega
  rw [hp]
  cases (reg M i).getLsbD (j - i) <;> cases mbit M j <;> cases poly.getLsbD (j - (i + 1)) <;> rfl

set_option maxRecDepth 100000 in
/-- The last 32 cells are the register. -/
theorem cells_end {M B : List Bool} (h : Cells M M.length B) (t : Nat) (ht : t < 32) : (!B.getD (M.length + t) false) = (~~~ run (BitVec.allOnes 32) M).getLsbD t := by
  rw [h.2 _ (by omega) (by omega)]
  unfold cell reg
  have hm : mbit M (M.length + t) = false := by
    unfold mbit
    rw [List.getD_eq_getElem?_getD, List.getElem?_eq_none (by omega)]
    rfl
  rw [hm, Nat.add_sub_cancel_left, Bool.xor_false, List.take_length, BitVec.getLsbD_not, decide_eq_true ht, Bool.true_and]

set_option maxRecDepth 100000 in
/-- The highest bits of a number, one more. -/
theorem top_bit (x i : Nat) (hi : i < 32) : x / 2 ^ (32 - (i + 1)) = x / 2 ^ (32 - i) * 2 + (if x.testBit (31 - i) then 1 else 0) := by
  have e : 32 - i = (31 - i) + 1 := by omega
  have e2 : 32 - (i + 1) = 31 - i := by omega
  rw [e, e2, Nat.pow_succ, ← Nat.div_div_eq_div_mul, Nat.testBit_eq_decide_div_mod_eq]
  generalize x / 2 ^ (31 - i) = y
  by_cases h : y % 2 = 1
  · rw [decide_eq_true h]; simp; omega
  · rw [decide_eq_false h]; simp; omega
end Go.Proofs.Ytenlcadndfbnaaa.Crc
