/- The division, bit by bit, as the document's own answer does it: its cells are the register's bits added to the message's. No program is spoken of. -/
import Derived.Test.YtcgplonnhginiaaCom1
import Derived.BigRegion
import Derived.Laws.OwnMore
import Derived.Deep.RegionLaw
import Derived.Deep.AppendLies
import Derived.Lib.BufferRead
import Derived.Laws.BitsAllLaws
import Derived.Lib.AppendStr
namespace Go.Proofs.Ytcgplonnhginiaa.Crc

/-- Bit j of a message, nought behind its end. -/
def mbit (M : List Bool) (j : Nat) : Bool := M.getD j false

/-- The register behind i bits. -/
def reg (M : List Bool) (i : Nat) : BitVec 32 := run (BitVec.allOnes 32) (M.take i)

/-- Cell j behind i steps of the division, for j from i on. -/
def cell (M : List Bool) (i j : Nat) : Bool := (reg M i).getLsbD (j - i) ^^ mbit M j

set_option maxRecDepth 100000 in
theorem reg_zero (M : List Bool) : reg M 0 = BitVec.allOnes 32 := rfl

set_option maxRecDepth 100000 in
theorem reg_succ (M : List Bool) (i : Nat) (h : i < M.length) : reg M (i + 1) = step (reg M i) (mbit M i) := by
  unfold reg
  rw [List.take_succ_eq_append_getElem h, run_append]
  have : mbit M i = M[i] := by simp [mbit, h]
  rw [this]
  rfl

set_option maxRecDepth 100000 in
theorem one_high (m : Bool) (t : Nat) : (one m).getLsbD (t + 1) = false := by
  cases m
  · simp [one]
  · simp [one]

set_option maxRecDepth 100000 in
theorem step_bit (r : BitVec 32) (m : Bool) (t : Nat) : (step r m).getLsbD t = (r.getLsbD (t + 1) ^^ ((r.getLsbD 0 ^^ m) && poly.getLsbD t)) := by
  unfold step z
  rw [BitVec.getLsbD_xor, BitVec.getLsbD_ushiftRight, BitVec.getLsbD_xor, Nat.add_comm 1 t, one_high, Bool.xor_false]
  have h0 : (r ^^^ one m).getLsbD 0 = (r.getLsbD 0 ^^ m) := by rw [BitVec.getLsbD_xor, one_low]
  rw [h0]
  cases (r.getLsbD 0 ^^ m) <;> simp

/-- The powers below 32, falling. -/
def pows : List Nat := [28, 27, 26, 25, 23, 22, 20, 19, 18, 14, 13, 11, 10, 9, 8, 6, 0]

set_option maxRecDepth 100000 in
theorem pows_bits : ∀ t : Fin 33, pows.any (fun p => 32 - p == t.val + 1) = poly.getLsbD t.val := by decide +kernel

/-- Cells are turned at these powers. -/
def togg (i : Nat) (B : List Bool) : List Nat → List Bool
  | [] => B
  | p :: ps => togg i (B.set (i + 32 - p) (!B.getD (i + 32 - p) false)) ps

set_option maxRecDepth 100000 in
theorem togg_len (i : Nat) (ps : List Nat) (B : List Bool) : (togg i B ps).length = B.length := by
  induction ps generalizing B with
  | nil => rfl
  | cons p ps ih => rw [togg, ih, List.length_set]

set_option maxRecDepth 100000 in
theorem togg_snoc (i : Nat) (ps : List Nat) (p : Nat) (B : List Bool) : togg i B (ps ++ [p]) = (togg i B ps).set (i + 32 - p) (!(togg i B ps).getD (i + 32 - p) false) := by
  induction ps generalizing B with
  | nil => rfl
  | cons q ps ih => rw [List.cons_append, togg, ih]; rfl

set_option maxRecDepth 100000 in
theorem togg_get (i j : Nat) (ps : List Nat) (B : List Bool) (hp : ∀ p ∈ ps, p ≤ 32) (hn : ps.Nodup) (hj : j < B.length) :
    (togg i B ps).getD j false = (B.getD j false ^^ ps.any (fun p => i + 32 - p == j)) := by
  induction ps generalizing B with
  | nil => simp [togg]
  | cons p ps ih =>
    obtain ⟨h1, h2⟩ := List.nodup_cons.1 hn
    rw [togg, ih _ (fun q hq => hp q (by simp [hq])) h2 (by simpa using hj), List.any_cons]
    by_cases hpj : i + 32 - p = j
    · have hno : ps.any (fun q => i + 32 - q == j) = false := by
        rw [List.any_eq_false]
        intro q hq
        have hq32 := hp q (by simp [hq])
        have hp32 := hp p (by simp)
        have : q ≠ p := fun e => h1 (e ▸ hq)
        simp
        omega
      rw [hno, hpj]
      simp [hj]
    · have hb : (i + 32 - p == j) = false := by simpa using hpj
      rw [hb, Bool.false_or]
      congr 1
      simp [List.getD, hpj]

set_option maxRecDepth 100000 in
theorem pows_nodup : pows.Nodup := by decide
set_option maxRecDepth 100000 in
theorem pows_le : ∀ p ∈ pows, p ≤ 32 := by decide

/-- The cells behind i steps. -/
def Cells (M : List Bool) (i : Nat) (B : List Bool) : Prop := B.length = M.length + 32 ∧ ∀ j, i ≤ j → j < M.length + 32 → B.getD j false = cell M i j

set_option maxRecDepth 100000 in
/-- The first 32 bits are turned. -/
theorem cells_start (M B : List Bool) (hl : B.length = M.length + 32) (h : ∀ j, j < M.length + 32 → B.getD j false = (mbit M j ^^ decide (j < 32))) : Cells M 0 B := by
  refine ⟨hl, fun j _ hj => ?_⟩
  rw [h j hj]
  unfold cell
  rw [reg_zero, BitVec.getLsbD_allOnes, Nat.sub_zero, Bool.xor_comm]

set_option maxRecDepth 100000 in
theorem cells_first {M B : List Bool} {i : Nat} (h : Cells M i B) (hi : i < M.length) : B.getD i false = ((reg M i).getLsbD 0 ^^ mbit M i) := by
  rw [h.2 i (Nat.le_refl _) (by omega)]
  unfold cell
  rw [Nat.sub_self]

set_option maxRecDepth 100000 in
/-- A step at which the first cell is nought. -/
theorem cells_skip {M B : List Bool} {i : Nat} (h : Cells M i B) (hi : i < M.length) (hb : B.getD i false = false) : Cells M (i + 1) B := by
  refine ⟨h.1, fun j hj hjl => ?_⟩
  rw [h.2 j (by omega) hjl]
  have hf := cells_first h hi
  rw [hb] at hf
  unfold cell
  rw [reg_succ M i hi, step_bit, ← hf, Bool.false_and, Bool.xor_false, show j - (i + 1) + 1 = j - i from by omega]

set_option maxRecDepth 100000 in
/-- A step at which it is one: the cells at the powers are turned. -/
theorem cells_turn {M B : List Bool} {i : Nat} (h : Cells M i B) (hi : i < M.length) (hb : B.getD i false = true) : Cells M (i + 1) (togg i B pows) := by
  refine ⟨by rw [togg_len]; exact h.1, fun j hj hjl => ?_⟩
  rw [togg_get i j pows B pows_le pows_nodup (by rw [h.1]; exact hjl), h.2 j (by omega) hjl]
  have hf := cells_first h hi
  rw [hb] at hf
  unfold cell
  rw [reg_succ M i hi, step_bit, ← hf, Bool.true_and, show j - (i + 1) + 1 = j - i from by omega]
  have hp : pows.any (fun p => i + 32 - p == j) = poly.getLsbD (j - (i + 1)) := by
    by_cases hs : j - (i + 1) < 33
    · rw [← pows_bits ⟨j - (i + 1), hs⟩]
      congr 1
      funext p
      rw [Bool.eq_iff_iff]
      simp
      omega
    · rw [BitVec.getLsbD_of_ge _ _ (by omega), List.any_eq_false]
      intro p hp
      simp
      omega
  rw [hp]
  cases (reg M i).getLsbD (j - i) <;> cases mbit M j <;> cases poly.getLsbD (j - (i + 1)) <;> rfl

set_option maxRecDepth 100000 in
/-- The last 32 cells are the register. -/
theorem cells_end {M B : List Bool} (h : Cells M M.length B) (t : Nat) (ht : t < 32) : (!B.getD (M.length + t) false) = (~~~ run (BitVec.allOnes 32) M).getLsbD t := by
  rw [h.2 _ (by omega) (by omega)]
  unfold cell reg
  have hm : mbit M (M.length + t) = false := by
    unfold mbit
    rw [List.getD_eq_getElem?_getD, List.getElem?_eq_none (by omega)]
    rfl
  rw [hm, Nat.add_sub_cancel_left, Bool.xor_false, List.take_length, BitVec.getLsbD_not, decide_eq_true ht, Bool.true_and]

set_option maxRecDepth 100000 in
/-- The highest bits of a number, one more. -/
theorem top_bit (x i : Nat) (hi : i < 32) : x / 2 ^ (32 - (i + 1)) = x / 2 ^ (32 - i) * 2 + (if x.testBit (31 - i) then 1 else 0) := by
  have e : 32 - i = (31 - i) + 1 := by omega
  have e2 : 32 - (i + 1) = 31 - i := by omega
  rw [e, e2, Nat.pow_succ, ← Nat.div_div_eq_div_mul, Nat.testBit_eq_decide_div_mod_eq]
  generalize x / 2 ^ (31 - i) = y
  by_cases h : y % 2 = 1
  · rw [decide_eq_true h]; simp; omega
  · rw [decide_eq_false h]; simp; omega
end Go.Proofs.Ytcgplonnhginiaa.Crc
/- The document's own answer of layer 2: the sum by division. -/
namespace Go.Proofs.Ytcgplonnhginiaa
open Go.RowKit

def powCells : Array Value := #[.int .i64 28, .int .i64 27, .int .i64 26, .int .i64 25, .int .i64 23, .int .i64 22, .int .i64 20, .int .i64 19, .int .i64 18, .int .i64 14, .int .i64 13, .int .i64 11, .int .i64 10, .int .i64 9, .int .i64 8, .int .i64 6, .int .i64 0]

set_option maxRecDepth 100000 in
theorem powCells_at (k p : Nat) (h : Crc.pows[k]? = some p) : powCells[k]? = some (.int .i64 p) := by
  have hk : k < 17 := (List.getElem?_eq_some_iff.1 h).1
  have : ∀ j : Fin 17, powCells[j.val]? = (Crc.pows[j.val]?).map fun q => Value.int .i64 (q : Int) := by
    intro j
    match j with
    | ⟨0, _⟩ | ⟨1, _⟩ | ⟨2, _⟩ | ⟨3, _⟩ | ⟨4, _⟩ | ⟨5, _⟩ | ⟨6, _⟩ | ⟨7, _⟩ | ⟨8, _⟩ | ⟨9, _⟩ | ⟨10, _⟩ | ⟨11, _⟩ | ⟨12, _⟩ | ⟨13, _⟩ | ⟨14, _⟩ | ⟨15, _⟩ | ⟨16, _⟩ => rfl
    | ⟨n + 17, h⟩ => exact absurd h (by omega)
  rw [this ⟨k, hk⟩, h]
  rfl

set_option maxRecDepth 100000 in
theorem ref_powers (w : World) : Calls Try.prog 73 #[] w fun e w' => e = .returned (.slice (some ⟨w.heap.size, 0, none⟩) 17 17) ∧ w' = w.alloc (.cells powCells 3) := by
  unfold powCells
  go_enter Try.func73, Try.ntmps73
  go_wp2
  go_ret
  exact ⟨rfl, rfl⟩

/-- The call's own row of bits at block g. -/
def Cel (w : World) (g n cap : Nat) (B : List Bool) (wr : World) : Prop := B.length = n ∧ w.heap.size ≤ g ∧ wr.ownsRow w.heap.size 4 1 (.slice (some ⟨g, 0, none⟩) n cap) n (bools B) ∧ Below w.heap.size w wr

set_option maxRecDepth 100000 in
theorem Cel.at {w wr : World} {g n cap : Nat} {B : List Bool} (h : Cel w g n cap B wr) {j : Nat} (hj : j < n) : wr.cell? ⟨g, j, none⟩ = some (.bool (B.getD j false)) := by
  rw [h.2.2.1.cellAt j (by omega)]
  have : j < B.length := by rw [h.1]; exact hj
  simp [bools, List.getD, this]

set_option maxRecDepth 100000 in
theorem Cel.free {w wr : World} {g n cap : Nat} {B : List Bool} (h : Cel w g n cap B wr) (j : Nat) : wr.frozen? ⟨g, j, none⟩ = false := h.2.2.1.frozenAt j

set_option maxRecDepth 100000 in
theorem Cel.set {w wr : World} {g n cap : Nat} {B : List Bool} (h : Cel w g n cap B wr) (j : Nat) (x : Bool) : Cel w g n cap (B.set j x) (wr.setCell ⟨g, j, none⟩ (.bool x)) := by
  refine ⟨by rw [List.length_set]; exact h.1, h.2.1, ?_, h.2.2.2.setCell (p := ⟨g, j, none⟩) h.2.1 _⟩
  have := (h.2.2.1.stored j (.bool x)).1
  simpa [bools, List.map_set] using this

set_option maxRecDepth 100000 in
theorem Cel.new {w wr : World} {g n cap : Nat} {B : List Bool} (h : Cel w g n cap B wr) (o : Obj) : Cel w g n cap B (wr.alloc o) := ⟨h.1, h.2.1, h.2.2.1.alloc o, h.2.2.2.alloc h.2.2.2.size o⟩

set_option maxRecDepth 100000 in
theorem Cel.draws {w wr : World} {g n cap : Nat} {B : List Bool} (h : Cel w g n cap B wr) : Cel w g n cap B wr.drew := ⟨h.1, h.2.1, h.2.2.1.drew, h.2.2.2.drew⟩

set_option maxRecDepth 100000 in
theorem Cel.ne {w wr : World} {g n cap : Nat} {B : List Bool} (h : Cel w g n cap B wr) {b : Nat} {u : TypeId} {cs : Array Value} (hr : Row wr b u cs) (hu : u ≠ 4) : g ≠ b := by
  rintro rfl
  rcases h.2.2.1.2 with ⟨hv, _⟩ | ⟨g', cap', cur, hv, _, hh, _⟩
  · simp at hv
  · simp only [Value.slice.injEq, Option.some.injEq, Addr.mk.injEq, and_true, true_and] at hv
    obtain ⟨rfl, _⟩ := hv
    have h2 : wr.heap[g]? = some (Obj.cells cs u (0, 0)) := hr
    rw [h2] at hh
    injection hh with hh
    injection hh with _ ht
    exact hu ht

set_option maxRecDepth 100000 in
theorem cel_of {w wr : World} {v : Value} {B : List Bool} (h : BitsAt w B v wr) (hn : 0 < B.length) : ∃ g cap, v = .slice (some ⟨g, 0, none⟩) B.length cap ∧ Cel w g B.length cap B wr := by
  rcases h.1.2 with ⟨_, h0⟩ | ⟨g, cap, cur, hv, hb, _⟩
  · omega
  · refine ⟨g, cap, hv, rfl, hb, ?_, h.2⟩
    have := h.1
    rw [hv] at this
    exact this

set_option maxRecDepth 100000 in
theorem pad_get (M : List Bool) (n j : Nat) : (M ++ List.replicate n false).getD j false = Crc.mbit M j := by
  unfold Crc.mbit
  simp only [List.getD_eq_getElem?_getD]
  by_cases h : j < M.length
  · rw [List.getElem?_append_left h]
  · rw [List.getElem?_append_right (by omega), List.getElem?_eq_none (l := M) (by omega), List.getElem?_replicate]
    by_cases h2 : j - M.length < n
    · rw [if_pos h2]; rfl
    · rw [if_neg h2]

/-- The first i bits are turned. -/
def Turned (M : List Bool) (i : Nat) (B : List Bool) : Prop := B.length = M.length + 32 ∧ ∀ j, j < M.length + 32 → B.getD j false = (Crc.mbit M j ^^ decide (j < i))

set_option maxRecDepth 100000 in
theorem turned_more {M B : List Bool} {i : Nat} (h : Turned M i B) (hi : i < M.length + 32) : Turned M (i + 1) (B.set i (!B.getD i false)) := by
  refine ⟨by rw [List.length_set]; exact h.1, fun j hj => ?_⟩
  have hl := h.1
  by_cases e : i = j
  · subst e
    have : (B.set i (!B.getD i false)).getD i false = !B.getD i false := by
      rw [List.getD_eq_getElem?_getD, List.getElem?_set_self (by omega)]; rfl
    rw [this, h.2 i hj, decide_eq_true (show i < i + 1 by omega), decide_eq_false (show ¬ i < i by omega)]
    cases Crc.mbit M i <;> rfl
  · have : (B.set i (!B.getD i false)).getD j false = B.getD j false := by
      rw [List.getD_eq_getElem?_getD, List.getElem?_set_ne e, List.getD_eq_getElem?_getD]
    rw [this, h.2 j hj]
    congr 1
    rw [decide_eq_decide]
    omega

set_option maxRecDepth 100000 in
set_option maxHeartbeats 3200000 in
theorem ref_sum (s : ByteArray) (w : World) (hs : s.size ≤ 100000) :
    Calls Try.prog 58 #[.string s] w fun e w' => e = .returned (.int .i64 ((Crc.sum s.data.toList).toNat : Int)) ∧ Below w.heap.size w w' := by
  have hbits := fun W => ref_bits s W hs
  obtain ⟨M, hM⟩ : ∃ M, M = Crc.msg s.data.toList := ⟨_, rfl⟩
  have hml : M.length ≤ 800000 := by rw [hM, Crc.msg_len, ← Lib.size_eq]; omega
  have hsum : (Crc.sum s.data.toList) = ~~~ Crc.run (BitVec.allOnes 32) M := by rw [hM]; rfl
  rw [← hM] at hbits
  have Hbits := Lib.hid hbits
  have Hml := Lib.hid hml
  have Hsum := Lib.hid hsum
  have hmi : (M.length : Int) ≤ 800000 := by omega
  clear hbits hM hml hsum
  go_enter Try.func58, Try.ntmps58
  go_wp2_with (go_at_call 72; refine (Hbits.out _).mono ?_; rintro e w1 ⟨v, rfl, hb1⟩; obtain ⟨g, cap, rfl, hc1⟩ := cel_of hb1 (by simp))
  have ht1 : Turned M 0 (M ++ List.replicate 32 false) := ⟨by simp, fun j _ => by rw [pad_get]; simp⟩
  have hlen : (M ++ List.replicate 32 false).length = M.length + 32 := by simp
  rw [hlen] at hc1
  generalize M ++ List.replicate 32 false = B0 at hc1 ht1
  clear hb1 hlen
  go_loopw [4] (fun x wr => ∃ (i : Nat) (B : List Bool), i ≤ 32 ∧ x = .int .i64 i ∧ Cel w g (M.length + 32) cap B wr ∧ Turned M i B) (fun x _ => 32 - (intOf x).toNat)
  case atStart => exact ⟨0, B0, by omega, rfl, hc1, ht1⟩
  case round =>
    obtain ⟨i, B, hi, rfl, hc, ht⟩ := hrel
    clear hc1 ht1
    by_cases hlt : i < 32
    · have c1 := hc.at (j := i) (by omega)
      have f1 := hc.free i
      have Hset := Lib.hid (hc.set i (!B.getD i false))
      have Hturn := Lib.hid (turned_more ht (show i < M.length + 32 by omega))
      generalize B.getD i false = y at *
      go_wp2_with fail
      go_roundw
      case rel => exact ⟨i + 1, _, by omega, by go_num, Hset.out, Hturn.out⟩
      case measure => simp [intOf]; omega
    · obtain rfl : i = 32 := by omega
      have hcells := Crc.cells_start M B ht.1 ht.2
      have Hcells := Lib.hid hcells
      have Hcel := Lib.hid (hc.new (.cells powCells 3))
      have Hpow := Lib.hid (Row.made wr 3 powCells)
      clear hcells ht hc
      go_wp2_with (go_at_call 73; refine (ref_powers _).mono ?_; rintro e w2 ⟨rfl, rfl⟩)
      obtain ⟨wo, rfl⟩ : ∃ wo : World, wo = wr := ⟨_, rfl⟩
      go_loopw [6] (fun x wr => ∃ (i : Nat) (B : List Bool), i ≤ M.length ∧ x = .int .i64 i ∧ Row wr wo.heap.size 3 powCells ∧ Cel w g (M.length + 32) cap B wr ∧ Crc.Cells M i B) (fun x _ => M.length - (intOf x).toNat)
      case atStart => exact ⟨0, B, by omega, rfl, Hpow.out, Hcel.out, Hcells.out⟩
      case round =>
        obtain ⟨i, B, hi, rfl, hpow, hc, hcells⟩ := hrel
        by_cases hlt : i < M.length
        · have c1 := hc.at (j := i) (by omega)
          have Hcells2 := Lib.hid hcells
          cases hb : B.getD i false with
          | false =>
            have Hnew := Lib.hid (Crc.cells_skip hcells hlt hb)
            rw [hb] at c1
            clear hb hcells
            go_wp2_with fail
            go_roundw
            case rel => exact ⟨i + 1, B, by omega, by go_num, hpow, hc, Hnew.out⟩
            case measure => simp [intOf]; omega
          | true =>
            have Hnew := Lib.hid (Crc.cells_turn hcells hlt hb)
            rw [hb] at c1
            clear hb hcells
            go_wp2_with fail
            obtain ⟨wi, rfl⟩ : ∃ wi : World, wi = wr := ⟨_, rfl⟩
            go_loopw [7] (fun x wr => ∃ k : Nat, k ≤ 17 ∧ x = .int .i64 k ∧ Row wr wo.heap.size 3 powCells ∧ Cel w g (M.length + 32) cap (Crc.togg i B (Crc.pows.take k)) wr) (fun x _ => 17 - (intOf x).toNat)
            case atStart => exact ⟨0, by omega, rfl, hpow, hc⟩
            case round =>
              obtain ⟨k, hk, rfl, hpow2, hc2⟩ := hrel
              clear hpow hc c1
              by_cases hlt2 : k < 17
              · obtain ⟨p, hp⟩ : ∃ p, Crc.pows[k]? = some p := ⟨Crc.pows[k]'(by exact hlt2), List.getElem?_eq_getElem _⟩
                have hp28 : p ≤ 32 := Crc.pows_le p (List.mem_of_getElem? hp)
                have hsn : Crc.pows.take (k + 1) = Crc.pows.take k ++ [p] := by
                  obtain ⟨hl, he⟩ := List.getElem?_eq_some_iff.1 hp
                  rw [List.take_succ_eq_append_getElem hl, he]
                have cp : wr.cell? ⟨wo.heap.size, k, none⟩ = some (.int .i64 p) := by rw [hpow2.at]; exact powCells_at k p hp
                have cj := hc2.at (j := i + 32 - p) (by omega)
                have fj := hc2.free (i + 32 - p)
                have hne := hc2.ne hpow2 (by decide)
                have Hset := Lib.hid (hc2.draws.set (i + 32 - p) (!(Crc.togg i B (Crc.pows.take k)).getD (i + 32 - p) false))
                have Hrow := Lib.hid (hpow2.behindDraw.storedElsewhere (p := ⟨g, i + 32 - p, none⟩) hne (.bool (!(Crc.togg i B (Crc.pows.take k)).getD (i + 32 - p) false)))
                have Htg := Lib.hid (show Crc.togg i B (Crc.pows.take (k + 1)) = _ from by rw [hsn, Crc.togg_snoc])
                generalize (Crc.togg i B (Crc.pows.take k)).getD (i + 32 - p) false = y at *
                clear hp hsn hc2 hpow2
                go_wp2_with fail
                go_region
                all_goals
                  go_wp2
                  go_roundw
                  case rel => exact ⟨k + 1, by omega, by go_num, Hrow.out, by rw [Htg.out]; exact Hset.out⟩
                  case measure => simp [intOf]; omega
              · obtain rfl : k = 17 := by omega
                have hfull : Crc.pows.take 17 = Crc.pows := by decide
                rw [hfull] at hc2
                clear hfull
                go_wp2_with fail
                go_roundw
                case rel => exact ⟨i + 1, _, by omega, by go_num, hpow2, hc2, Hnew.out⟩
                case measure => simp [intOf]; omega
        · obtain rfl : M.length = i := by omega
          obtain ⟨X, hX⟩ : ∃ X : Nat, X = (Crc.sum s.data.toList).toNat := ⟨_, rfl⟩
          have hX32 : X < 2 ^ 32 := by rw [hX]; exact BitVec.isLt _
          have hbit : ∀ t, t < 32 → (!B.getD (M.length + t) false) = X.testBit t := fun t ht => by
            rw [Crc.cells_end hcells t ht, ← Hsum.out, hX]; rfl
          have Hbit := Lib.hid hbit
          have HX := Lib.hid hX
          have hX0 : Hid (X / 2 ^ (32 - 0) = 0) := Nat.div_eq_of_lt hX32
          have hXi : (X : Int) ≤ 4294967295 := by omega
          clear hcells hbit hX hX32 hpow
          go_wp2_with fail
          obtain ⟨wi, rfl⟩ : ∃ wi : World, wi = wr := ⟨_, rfl⟩
          go_loopw [8, 10] (fun x y wr => ∃ k : Nat, k ≤ 32 ∧ y = .int .i64 k ∧ x = .int .i64 ((X / 2 ^ (32 - k) : Nat) : Int) ∧ Cel w g (M.length + 32) cap B wr) (fun _ y _ => 32 - (intOf y).toNat)
          case atStart => exact ⟨0, by omega, rfl, by rw [hX0.out]; rfl, hc⟩
          case round =>
            obtain ⟨k, hk, rfl, rfl, hc2⟩ := hrel
            clear hc
            by_cases hlt2 : k < 32
            · obtain ⟨y, hy⟩ : ∃ y, y = X / 2 ^ (32 - k) := ⟨_, rfl⟩
              have hyb : (y : Int) ≤ 4294967295 := by
                have : y ≤ X := by rw [hy]; exact Nat.div_le_self _ _
                omega
              have htop := Crc.top_bit X k hlt2
              have hb31 := Hbit.out (31 - k) (by omega)
              have c1 := hc2.at (j := M.length + 31 - k) (by omega)
              rw [show M.length + (31 - k) = M.length + 31 - k from by omega] at hb31
              rw [← hy] at htop ⊢
              have Hy := Lib.hid hy
              have Htop := Lib.hid htop
              clear hy htop
              cases hbv : B.getD (M.length + 31 - k) false with
              | false =>
                rw [hbv] at c1
                have hnext : Hid (X / 2 ^ (32 - (k + 1)) = y * 2 + 1) := by
                  rw [Htop.out, ← hb31, hbv]; rfl
                clear hb31 hbv
                go_wp2_with fail
                go_roundw
                case rel => exact ⟨k + 1, by omega, by go_num, by rw [hnext.out]; simp, hc2⟩
                case measure => simp [intOf]; omega
              | true =>
                rw [hbv] at c1
                have hnext : Hid (X / 2 ^ (32 - (k + 1)) = y * 2) := by
                  rw [Htop.out, ← hb31, hbv]; rfl
                clear hb31 hbv
                go_wp2_with fail
                go_roundw
                case rel => exact ⟨k + 1, by omega, by go_num, by rw [hnext.out]; simp, hc2⟩
                case measure => simp [intOf]; omega
            · obtain rfl : k = 32 := by omega
              have hfin : Hid (X / 2 ^ (32 - 32) = (Crc.sum s.data.toList).toNat) := by rw [← HX.out]; simp [Hid]
              go_wp2_with fail
              go_ret
              exact ⟨by rw [← hfin.out]; rfl, hc2.2.2.2⟩
end Go.Proofs.Ytcgplonnhginiaa
/- The four bytes of a number, and the document's own answer of layer 2 for them. -/
namespace Go.Proofs.Ytcgplonnhginiaa
open Go.RowKit

/-- The four bytes of a number, the lowest first. -/
def fourOf (n : Nat) : List UInt8 := [UInt8.ofNat (n % 256), UInt8.ofNat (n / 256 % 256), UInt8.ofNat (n / 65536 % 256), UInt8.ofNat (n / 16777216)]

set_option maxRecDepth 100000 in
theorem u8_num (n : Nat) (h : n < 256) : (UInt8.ofNat n).toNat = n := by rw [UInt8.toNat_ofNat']; omega

set_option maxRecDepth 100000 in
/-- Four bytes in a row of their own, as a text. -/
theorem run_four (W : World) (a b c d : Nat) (ha : a < 256) (hb : b < 256) (hc : c < 256) (hd : d < 256) :
    (convert 64 9 (.slice (some ⟨W.heap.size, 0, none⟩) 4 4)).run Try.prog (W.alloc (.cells #[.int .u8 a, .int .u8 b, .int .u8 c, .int .u8 d] 5)) =
      .ok (.string ⟨#[UInt8.ofNat a, UInt8.ofNat b, UInt8.ofNat c, UInt8.ofNat d]⟩) (W.alloc (.cells #[.int .u8 a, .int .u8 b, .int .u8 c, .int .u8 d] 5)) := by
  have hr := Row.made W 5 #[.int .u8 a, .int .u8 b, .int .u8 c, .int .u8 d]
  refine run_convert_bytes_back (P := Try.prog) _ 64 9 5 ⟨W.heap.size, 0, none⟩ 4 [UInt8.ofNat a, UInt8.ofNat b, UInt8.ofNat c, UInt8.ofNat d] Try.underlying64 Try.underlying5 Try.underlying9 (fun j hj => ?_)
  rw [Go.WideShapes.add_plain, hr.at]
  match j, hj with
  | 0, _ => simp [u8_num a ha]
  | 1, _ => simp [u8_num b hb]
  | 2, _ => simp [u8_num c hc]
  | 3, _ => simp [u8_num d hd]

set_option maxRecDepth 100000 in
set_option maxHeartbeats 800000 in
theorem ref_four (s : ByteArray) (w : World) (hs : s.size ≤ 100000) :
    Calls Try.prog 43 #[.string s] w fun e w' => e = .returned (.string ⟨(fourOf (Crc.sum s.data.toList).toNat).toArray⟩) ∧ Below w.heap.size w w' := by
  have hsum := fun W => ref_sum s W hs
  have Hsum := Lib.hid hsum
  obtain ⟨X, hX⟩ : ∃ X : Nat, X = (Crc.sum s.data.toList).toNat := ⟨_, rfl⟩
  have hX32 : X < 4294967296 := by rw [hX]; exact BitVec.isLt _
  rw [← hX] at hsum ⊢
  have Hsum2 := Lib.hid hsum
  obtain ⟨a, ha⟩ : ∃ a : Nat, a = X % 256 := ⟨_, rfl⟩
  obtain ⟨b, hb⟩ : ∃ b : Nat, b = X / 256 % 256 := ⟨_, rfl⟩
  obtain ⟨c, hc⟩ : ∃ c : Nat, c = X / 65536 % 256 := ⟨_, rfl⟩
  obtain ⟨d, hd⟩ : ∃ d : Nat, d = X / 16777216 := ⟨_, rfl⟩
  have e1 : (X : Int) % 256 = (a : Int) := by omega
  have e2 : (X : Int) / 256 % 256 = (b : Int) := by omega
  have e3 : (X : Int) / 65536 % 256 = (c : Int) := by omega
  have e4 : (X : Int) / 16777216 = (d : Int) := by omega
  have a1 : a < 256 := by omega
  have b1 : b < 256 := by omega
  have c1 : c < 256 := by omega
  have d1 : d < 256 := by omega
  have hconv := fun W => run_four W a b c d a1 b1 c1 d1
  have hfin : Hid (fourOf X = [UInt8.ofNat a, UInt8.ofNat b, UInt8.ofNat c, UInt8.ofNat d]) := by rw [ha, hb, hc, hd]; rfl
  have hX63 : (X : Int) ≤ 4294967295 := by omega
  clear hsum ha hb hc hd hX hX32
  go_enter Try.func43, Try.ntmps43
  go_wp2_with (go_at_call 58; refine (Hsum2.out _).mono ?_; rintro e w1 ⟨rfl, hb1⟩)
  go_ret
  exact ⟨by rw [hfin.out]; rfl, hb1.alloc hb1.size _⟩

set_option maxRecDepth 100000 in
theorem idx (s : ByteArray) (k : Nat) (h : k < s.size) : ∃ c : UInt8, s.data.toList[k]? = some c ∧ ∀ V : World, (Instr.index 9 (.string s) (.int .i64 (k : Int))).run Try.prog V = .ok (.int .u8 (c.toNat : Int)) V := by
  refine ⟨s[k]'h, ?_, fun V => by go_simp⟩
  rw [List.getElem?_eq_getElem (by rw [← Lib.size_eq]; exact h), Array.getElem_toList]
  rfl

end Go.Proofs.Ytcgplonnhginiaa
