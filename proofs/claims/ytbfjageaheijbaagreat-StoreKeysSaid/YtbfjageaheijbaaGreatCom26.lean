/- The package crc as it landed: a bit is taken in, and the sum. -/
import Derived.Test.YtbfjageaheijbaaGreatCom25
import Derived.Test.YtbfjageaheijbaaGreatCom1
import Derived.Test.YtbfjageaheijbaaGreatCom15
import Derived.Laws.BitsAllLaws
import Derived.RegionTactic
import Derived.ChangeAlike
namespace Go.Proofs.YtbfjageaheijbaaGreat
open Go.RowKit

def low (m : Bool) : Nat := if m then 1 else 0

set_option maxRecDepth 100000 in
theorem low_one (m : Bool) : (Crc.one m).toNat = low m := by cases m <;> rfl

/-- Which bit goes out. -/
def outBit (r : BitVec 32) (m : Bool) : Bool := r.getLsbD 0 ^^ m

set_option maxRecDepth 100000 in
theorem step_shift (r : BitVec 32) (m : Bool) : Crc.step r m = (r >>> 1) ^^^ (if outBit r m then Crc.poly else 0#32) := by
  unfold Crc.step Crc.z outBit
  rw [BitVec.getLsbD_xor, Crc.one_low, BitVec.ushiftRight_xor_distrib, Crc.one_shift, BitVec.xor_zero]

set_option maxRecDepth 100000 in
theorem xor_bit (r : BitVec 32) (m : Bool) : bits .and .u32 (bits .xor .u32 (r.toNat : Int) (low m : Int)) 1 = (low (outBit r m) : Int) := by
  have hr := r.isLt
  have hm : low m < 4294967296 := by cases m <;> decide
  rw [u32_xor_nat r.toNat (low m) (by omega) hm]
  have hx : r.toNat ^^^ low m < 4294967296 := Nat.xor_lt_two_pow (n := 32) (by omega) (by omega)
  have h := u32_and_nat (r.toNat ^^^ low m) 1 hx (by omega)
  rw [show ((1 : Nat) : Int) = 1 from rfl] at h
  rw [h, Nat.and_one_is_mod]
  congr 1
  have e : (r.toNat ^^^ low m).testBit 0 = outBit r m := by
    rw [Nat.testBit_xor]
    unfold outBit
    rw [BitVec.getLsbD]
    cases m <;> simp [low]
  rw [Nat.testBit_zero] at e
  generalize r.toNat ^^^ low m = x at *
  cases ho : outBit r m
  · rw [ho] at e
    have : ¬ x % 2 = 1 := by simpa using e
    show x % 2 = 0
    omega
  · rw [ho] at e
    exact of_decide_eq_true e

set_option maxRecDepth 100000 in
theorem step_num (r : BitVec 32) (m : Bool) : bits .xor .u32 ((r.toNat : Int) / 2) (if outBit r m then 2197175160 else 0) = ((Crc.step r m).toNat : Int) := by
  have hr := r.isLt
  rw [step_shift]
  have h1 : ((r.toNat : Int) / 2) = ((r.toNat / 2 : Nat) : Int) := by omega
  have h2 : (r >>> 1).toNat = r.toNat / 2 := by rw [BitVec.toNat_ushiftRight, Nat.shiftRight_eq_div_pow]
  rw [h1, BitVec.toNat_xor, h2]
  cases outBit r m
  · exact u32_xor_nat (r.toNat / 2) 0 (by omega) (by omega)
  · exact u32_xor_nat (r.toNat / 2) 2197175160 (by omega) (by omega)

set_option maxRecDepth 100000 in
set_option maxHeartbeats 400000 in
/-- One bit is taken in. -/
theorem take_bit {w : World} {box rest : Nat} {r : BitVec 32} {m : Bool} (hb : Row w box 194 #[.pointer (some ⟨rest, 0, none⟩)]) (hr : Row w rest 179 #[.int .u32 (r.toNat : Int)]) :
    Calls Tryz.prog 146 #[.int .u32 (low m : Int), .pointer (some ⟨box, 0, none⟩)] w fun e w' => e = .returned (.tuple #[]) ∧ Row w' rest 179 #[.int .u32 ((Crc.step r m).toNat : Int)] ∧ w.grownBy w' (some rest) := by
  have c1 : w.cell? ⟨box, 0, none⟩ = some (.pointer (some ⟨rest, 0, none⟩)) := hb.at 0
  have c2 : w.cell? ⟨rest, 0, none⟩ = some (.int .u32 (r.toNat : Int)) := hr.at 0
  have f2 := hr.free 0
  have b1 := xor_bit r m
  have b2 := step_num r m
  have done : ∀ q : Int, q = ((Crc.step r m).toNat : Int) → ∀ n, Row (w.setCell ⟨rest, 0, none⟩ (.int .u32 q)) rest 179 #[.int .u32 ((Crc.step r m).toNat : Int)] ∧ w.grownBy ((w.setCell ⟨rest, 0, none⟩ (.int .u32 q)).drewN n) (some rest) := by
    rintro q rfl n
    exact ⟨hr.stored 0 _, gb_draws (gb_store (gb_refl _ _) 0 _) n⟩
  have hr0 : (0 : Int) ≤ (r.toNat : Int) := by omega
  have hr1 : (r.toNat : Int) ≤ 4294967295 := by have := r.isLt; omega
  have Done := Lib.hid done
  clear done
  generalize (Crc.step r m).toNat = q at *
  generalize r.toNat = rn at *
  generalize low m = mn at *
  cases ho : outBit r m
  all_goals
    rw [ho] at b1 b2
    simp only [low, if_true, if_false, Bool.false_eq_true] at b1 b2
    clear ho
    go_enter Tryz.func146, Tryz.ntmps146
    go_wp2_with fail
    go_region
    go_end0
    exact ⟨rfl, (hr.stored 0 _).behindDraw, gb_draw (gb_store (gb_refl _ _) 0 _)⟩

set_option maxRecDepth 100000 in
theorem taker_any (w : World) (rest : Nat) :
    Calls Tryz.prog 144 #[.pointer (some ⟨rest, 0, none⟩)] w fun e w' => e = .returned (.func (.func 146) #[] #[.pointer (some ⟨w.heap.size, 0, none⟩)]) ∧ w.alloc (.cells #[.pointer (some ⟨rest, 0, none⟩)] 194) = w' := by
  go_enter Tryz.func144, Tryz.ntmps144
  go_wp2_with fail
  go_ret
  exact ⟨rfl, rfl⟩

/-- Behind k bytes and i bits of the next one. -/
def SumAt (w : World) (r : BitVec 32) (wr : World) : Prop :=
  Row wr (w.heap.size + 1) 194 #[.pointer (some ⟨w.heap.size, 0, none⟩)] ∧ Row wr w.heap.size 179 #[.int .u32 (r.toNat : Int)] ∧ Below w.heap.size w wr

set_option maxRecDepth 100000 in
theorem sum_start (w : World) : SumAt w (BitVec.allOnes 32) ((w.alloc (.cells #[.int .u32 4294967295] 179)).alloc (.cells #[.pointer (some ⟨w.heap.size, 0, none⟩)] 194)) := by
  have h1 : Row (w.alloc (.cells #[.int .u32 4294967295] 179)) w.heap.size 179 #[.int .u32 4294967295] := Row.made _ _ _
  refine ⟨?_, h1.behindNew _, ?_⟩
  · have h4 := Row.made (w.alloc (.cells #[.int .u32 4294967295] 179)) 194 #[.pointer (some ⟨w.heap.size, 0, none⟩)]
    rw [show (w.alloc (.cells #[.int .u32 4294967295] 179)).heap.size = w.heap.size + 1 from by simp] at h4
    exact h4
  · exact ((Below.refl _ _).alloc (Nat.le_refl _) _).alloc (by simp) _

set_option maxRecDepth 100000 in
theorem sum_more {w wr w2 : World} {r r' : BitVec 32} (h : SumAt w r wr) (hr : Row w2 w.heap.size 179 #[.int .u32 (r'.toNat : Int)]) (hg : wr.grownBy w2 (some w.heap.size)) : SumAt w r' w2 := by
  obtain ⟨h1, h2, h3⟩ := h
  exact ⟨h1.grown hg (by intro e; injection e; omega), hr, h3.grown hg h3.size (fun k hk => by injection hk; omega)⟩

set_option maxRecDepth 100000 in
theorem the_bit (c : UInt8) (i : Nat) : bits .and .u32 ((c.toNat : Int) % 4294967296 / 2 ^ i) 1 = (low (c.toNat.testBit i) : Int) := by
  have hc := c.toNat_lt
  have h1 : ((c.toNat : Int) % 4294967296 / 2 ^ i) = ((c.toNat / 2 ^ i : Nat) : Int) := by
    rw [Int.emod_eq_of_lt (by omega) (by omega)]
    push_cast
    rfl
  have h2 : c.toNat / 2 ^ i ≤ c.toNat := Nat.div_le_self _ _
  have h := u32_and_nat (c.toNat / 2 ^ i) 1 (by omega) (by omega)
  rw [h1]
  rw [show ((1 : Nat) : Int) = 1 from rfl] at h
  rw [h, Nat.and_one_is_mod, Nat.testBit_eq_decide_div_mod_eq]
  congr 1
  unfold low
  by_cases hx : c.toNat / 2 ^ i % 2 = 1
  · rw [if_pos (by simpa using hx), hx]
  · rw [if_neg (by simpa using hx)]; omega

set_option maxRecDepth 100000 in
theorem not_num (r : BitVec 32) : wrap64 (bits .xor .u32 IntKind.u32.max (r.toNat : Int)) = ((~~~ r).toNat : Int) := by
  have hr := r.isLt
  have h := u32_xor_nat 4294967295 r.toNat (by omega) (by omega)
  have e : IntKind.u32.max = ((4294967295 : Nat) : Int) := by decide
  rw [e, h]
  have hn : (~~~ r).toNat = 4294967295 ^^^ r.toNat := by
    rw [← BitVec.allOnes_xor, BitVec.toNat_xor, BitVec.toNat_allOnes]
  rw [hn]
  have hx : 4294967295 ^^^ r.toNat < 4294967296 := Nat.xor_lt_two_pow (n := 32) (by omega) (by omega)
  exact IntWalk.wrap64_in _ ⟨by omega, by omega⟩

set_option maxRecDepth 100000 in
set_option maxHeartbeats 800000 in
theorem sum_any (s : ByteArray) (w : World) (hs : s.size ≤ 140737488351232) :
    Calls Tryz.prog 135 #[.string s] w fun e w' => e = .returned (.int .i64 ((Crc.sum s.data.toList).toNat : Int)) ∧ Below w.heap.size w w' := by
  have h0 : SumAt w (Crc.run (BitVec.allOnes 32) (Crc.msg (s.data.toList.take 0))) _ := sum_start w
  have hs2 : (s.size : Int) ≤ 140737488351232 := by omega
  clear hs
  go_enter Tryz.func135, Tryz.ntmps135
  go_wp2_with (go_at_call 144; with_reducible refine (taker_any _ _).mono ?_; rintro e w1 ⟨rfl, rfl⟩)
  go_loopw [10] (fun i wr => ∃ k : Nat, k ≤ s.size ∧ i = .int .i64 k ∧ SumAt w (Crc.run (BitVec.allOnes 32) (Crc.msg (s.data.toList.take k))) wr) (fun i _ => s.size - (intOf i).toNat)
  case atStart => exact ⟨0, Nat.zero_le _, rfl, h0⟩
  case round =>
    obtain ⟨k, hk, rfl, hrel⟩ := hrel
    clear h0
    by_cases hlt : k < s.size
    · obtain ⟨c, hc, ic⟩ := idx s k hlt
      have hsnoc : s.data.toList.take (k + 1) = s.data.toList.take k ++ [c] := by
        obtain ⟨hl, he⟩ := List.getElem?_eq_some_iff.1 hc
        rw [List.take_succ_eq_append_getElem hl, he]
      have Hsnoc := Lib.hid hsnoc
      have hin : SumAt w (Crc.run (Crc.run (BitVec.allOnes 32) (Crc.msg (s.data.toList.take k))) ((Crc.bitsOf c).take 0)) wr := hrel
      clear hc hsnoc hrel
      go_wp2_with fail
      obtain ⟨wo, rfl⟩ : ∃ wo : World, wo = wr := ⟨_, rfl⟩
      go_loopw [13] (fun j wr => ∃ i : Nat, i ≤ 8 ∧ j = .int .i64 i ∧ SumAt w (Crc.run (Crc.run (BitVec.allOnes 32) (Crc.msg (s.data.toList.take k))) ((Crc.bitsOf c).take i)) wr) (fun j _ => 8 - (intOf j).toNat)
      case atStart => exact ⟨0, by omega, rfl, hin⟩
      case round =>
        obtain ⟨i, hi8, rfl, hrel2⟩ := hrel
        clear hin
        by_cases hlt2 : i < 8
        · obtain ⟨m, hm⟩ : ∃ m : Bool, m = c.toNat.testBit i := ⟨_, rfl⟩
          have hsn : (Crc.bitsOf c).take (i + 1) = (Crc.bitsOf c).take i ++ [m] := by
            have hl : i < (Crc.bitsOf c).length := by rw [Crc.bits_len]; exact hlt2
            rw [List.take_succ_eq_append_getElem hl, hm]
            simp [Crc.bitsOf]
          have hrun : Crc.run (Crc.run (BitVec.allOnes 32) (Crc.msg (s.data.toList.take k))) ((Crc.bitsOf c).take (i + 1)) = Crc.step (Crc.run (Crc.run (BitVec.allOnes 32) (Crc.msg (s.data.toList.take k))) ((Crc.bitsOf c).take i)) m := by
            rw [hsn, Crc.run_append]; rfl
          have hcall : Calls Tryz.prog 146 #[.int .u32 (bits .and .u32 ((c.toNat : Int) % 4294967296 / 2 ^ i) 1), .pointer (some ⟨w.heap.size + 1, 0, none⟩)] wr fun e w' =>
              e = .returned (.tuple #[]) ∧ SumAt w (Crc.run (Crc.run (BitVec.allOnes 32) (Crc.msg (s.data.toList.take k))) ((Crc.bitsOf c).take (i + 1))) w' := by
            rw [the_bit c i, ← hm, hrun]
            refine (take_bit hrel2.1 hrel2.2.1).mono ?_
            rintro e w2 ⟨rfl, h1, h2⟩
            exact ⟨rfl, sum_more hrel2 h1 h2⟩
          have Hcall := Lib.hid hcall
          clear hm hsn hrun hcall hrel2
          go_wp2_with (go_at_call 146; with_reducible refine Hcall.out.mono ?_; rintro e w2 ⟨rfl, hnext⟩)
          go_roundw
          case rel => exact ⟨i + 1, by omega, by go_num, hnext⟩
          case measure => simp [intOf]; omega
        · obtain rfl : i = 8 := by omega
          have hout : SumAt w (Crc.run (BitVec.allOnes 32) (Crc.msg (s.data.toList.take (k + 1)))) wr := by
            rw [Hsnoc.out, Crc.msg_snoc, Crc.run_append]
            rw [List.take_of_length_le (l := Crc.bitsOf c) (by rw [Crc.bits_len]; exact Nat.le_refl _)] at hrel2
            exact hrel2
          clear hrel2
          go_wp2_with fail
          go_roundw
          case rel => exact ⟨k + 1, by omega, by go_num, hout⟩
          case measure => simp [intOf]; omega
    · obtain rfl : s.size = k := by omega
      obtain ⟨r, hr⟩ : ∃ r, r = Crc.run (BitVec.allOnes 32) (Crc.msg s.data.toList) := ⟨_, rfl⟩
      have hall : SumAt w r wr := by
        rw [List.take_of_length_le (by rw [← Lib.size_eq]; exact Nat.le_refl _)] at hrel
        rw [hr]; exact hrel
      have c1 : wr.cell? ⟨w.heap.size, 0, none⟩ = some (.int .u32 (r.toNat : Int)) := hall.2.1.at 0
      have hbel := hall.2.2
      have hfin : Hid ((Crc.sum s.data.toList) = ~~~ r) := Lib.hid (by rw [hr]; rfl)
      clear hr hrel hall
      go_wp2_with fail
      go_ret
      refine ⟨?_, hbel⟩
      show Ending.returned (.int .i64 (wrap64 (bits .xor .u32 IntKind.u32.max (r.toNat : Int)))) = _
      rw [hfin.out, not_num]

def fourCells (a b c d : Nat) : Array Value := #[.int .u8 a, .int .u8 b, .int .u8 c, .int .u8 d]

/-- The array of four, behind as many rounds as the counter says. -/
def FourAt (w : World) (B a b c d : Nat) (i : Value) (wr : World) : Prop :=
  Below w.heap.size w wr ∧ w.heap.size ≤ B ∧ ((i = .int .i64 0 ∧ Row wr B 182 (fourCells 0 0 0 0)) ∨ (i = .int .i64 1 ∧ Row wr B 182 (fourCells a 0 0 0)) ∨ (i = .int .i64 2 ∧ Row wr B 182 (fourCells a b 0 0)) ∨
    (i = .int .i64 3 ∧ Row wr B 182 (fourCells a b c 0)) ∨ (i = .int .i64 4 ∧ Row wr B 182 (fourCells a b c d)))

set_option maxRecDepth 100000 in
/-- The array of four, as a text. -/
theorem conv_four (W : World) (B a b c d : Nat) (ha : a < 256) (hb : b < 256) (hc : c < 256) (hd : d < 256) (hr : Row W B 182 (fourCells a b c d)) :
    (convert 99 9 (.slice (some ⟨B, 0, none⟩) 4 4)).run Tryz.prog W = .ok (.string ⟨#[UInt8.ofNat a, UInt8.ofNat b, UInt8.ofNat c, UInt8.ofNat d]⟩) W := by
  refine run_convert_bytes_back (P := Tryz.prog) _ 99 9 5 ⟨B, 0, none⟩ 4 [UInt8.ofNat a, UInt8.ofNat b, UInt8.ofNat c, UInt8.ofNat d] Tryz.underlying99 Tryz.underlying5 Tryz.underlying9 (fun j hj => ?_)
  rw [Go.WideShapes.add_plain, hr.at]
  match j, hj with
  | 0, _ => simp [fourCells, u8_num a ha]
  | 1, _ => simp [fourCells, u8_num b hb]
  | 2, _ => simp [fourCells, u8_num c hc]
  | 3, _ => simp [fourCells, u8_num d hd]

set_option maxRecDepth 100000 in
set_option maxHeartbeats 800000 in
theorem four_any (s : ByteArray) (w : World) (hs : s.size ≤ 140737488351232) :
    Calls Tryz.prog 109 #[.string s] w fun e w' => e = .returned (.string ⟨(fourOf (Crc.sum s.data.toList).toNat).toArray⟩) ∧ Below w.heap.size w w' := by
  have hsum := fun W => sum_any s W hs
  obtain ⟨X, hX⟩ : ∃ X : Nat, X = (Crc.sum s.data.toList).toNat := ⟨_, rfl⟩
  have hX32 : X < 4294967296 := by rw [hX]; exact BitVec.isLt _
  rw [← hX] at hsum ⊢
  have Hsum := Lib.hid hsum
  obtain ⟨a, ha⟩ : ∃ a : Nat, a = X % 256 := ⟨_, rfl⟩
  obtain ⟨b, hb⟩ : ∃ b : Nat, b = X / 256 % 256 := ⟨_, rfl⟩
  obtain ⟨c, hc⟩ : ∃ c : Nat, c = X / 65536 % 256 := ⟨_, rfl⟩
  obtain ⟨d, hd⟩ : ∃ d : Nat, d = X / 16777216 := ⟨_, rfl⟩
  have e1 : (X : Int) % 256 = (a : Int) := by omega
  have e2 : (X : Int) / 256 % 256 = (b : Int) := by omega
  have e3 : (X : Int) / 65536 % 256 = (c : Int) := by omega
  have e4 : (X : Int) / 16777216 = (d : Int) := by omega
  have a1 : a < 256 := by omega
  have b1 : b < 256 := by omega
  have c1 : c < 256 := by omega
  have d1 : d < 256 := by omega
  have hfin : Hid (fourOf X = [UInt8.ofNat a, UInt8.ofNat b, UInt8.ofNat c, UInt8.ofNat d]) := Lib.hid (by rw [ha, hb, hc, hd]; rfl)
  have hX63 : (X : Int) ≤ 4294967295 := by omega
  clear hsum hX hs ha hb hc hd hX32
  go_enter Tryz.func109, Tryz.ntmps109
  go_wp2_with (go_at_call 135; with_reducible refine (Hsum.out _).mono ?_; rintro e w1 ⟨rfl, hb1⟩)
  have h0 : FourAt w w1.heap.size a b c d (.int .i64 0) (w1.alloc (.cells (fourCells 0 0 0 0) 182)) := ⟨hb1.alloc hb1.size _, hb1.size, Or.inl ⟨rfl, Row.made _ _ _⟩⟩
  go_loopw [8] (fun i wr => FourAt w w1.heap.size a b c d i wr) (fun i _ => 4 - (intOf i).toNat)
  case atStart => exact h0
  case round =>
    obtain ⟨hbel, hB, hrel⟩ := hrel
    clear h0
    rcases hrel with ⟨rfl, hr⟩ | ⟨rfl, hr⟩ | ⟨rfl, hr⟩ | ⟨rfl, hr⟩ | ⟨rfl, hr⟩
    · have f := hr.free 0
      have hn : Row (wr.setCell ⟨w1.heap.size, 0, none⟩ (.int .u8 a)) w1.heap.size 182 (fourCells a 0 0 0) := hr.stored 0 (.int .u8 a)
      have g0 : wr.cell? ⟨w1.heap.size, 0, none⟩ = some (.int .u8 (0 : Nat)) := hr.at 0
      have hb2 := hbel.setCell (p := ⟨w1.heap.size, 0, none⟩) hB (.int .u8 a)
      have Hn := Lib.hid hn
      have Hb2 := Lib.hid hb2
      clear hn hr hb2
      go_wp2_with fail
      exact ⟨⟨Hb2.out, hB, (Or.inr (Or.inl ⟨rfl, Hn.out⟩))⟩, by simp [intOf]⟩
    · have f := hr.free 1
      have hn : Row (wr.setCell ⟨w1.heap.size, 1, none⟩ (.int .u8 b)) w1.heap.size 182 (fourCells a b 0 0) := hr.stored 1 (.int .u8 b)
      have g0 : wr.cell? ⟨w1.heap.size, 1, none⟩ = some (.int .u8 (0 : Nat)) := hr.at 1
      have hb2 := hbel.setCell (p := ⟨w1.heap.size, 1, none⟩) hB (.int .u8 b)
      have Hn := Lib.hid hn
      have Hb2 := Lib.hid hb2
      clear hn hr hb2
      go_wp2_with fail
      exact ⟨⟨Hb2.out, hB, (Or.inr (Or.inr (Or.inl ⟨rfl, Hn.out⟩)))⟩, by simp [intOf]⟩
    · have f := hr.free 2
      have hn : Row (wr.setCell ⟨w1.heap.size, 2, none⟩ (.int .u8 c)) w1.heap.size 182 (fourCells a b c 0) := hr.stored 2 (.int .u8 c)
      have g0 : wr.cell? ⟨w1.heap.size, 2, none⟩ = some (.int .u8 (0 : Nat)) := hr.at 2
      have hb2 := hbel.setCell (p := ⟨w1.heap.size, 2, none⟩) hB (.int .u8 c)
      have Hn := Lib.hid hn
      have Hb2 := Lib.hid hb2
      clear hn hr hb2
      go_wp2_with fail
      exact ⟨⟨Hb2.out, hB, (Or.inr (Or.inr (Or.inr (Or.inl ⟨rfl, Hn.out⟩))))⟩, by simp [intOf]⟩
    · have f := hr.free 3
      have hn : Row (wr.setCell ⟨w1.heap.size, 3, none⟩ (.int .u8 d)) w1.heap.size 182 (fourCells a b c d) := hr.stored 3 (.int .u8 d)
      have g0 : wr.cell? ⟨w1.heap.size, 3, none⟩ = some (.int .u8 (0 : Nat)) := hr.at 3
      have hb2 := hbel.setCell (p := ⟨w1.heap.size, 3, none⟩) hB (.int .u8 d)
      have Hn := Lib.hid hn
      have Hb2 := Lib.hid hb2
      clear hn hr hb2
      go_wp2_with fail
      exact ⟨⟨Hb2.out, hB, (Or.inr (Or.inr (Or.inr (Or.inr ⟨rfl, Hn.out⟩))))⟩, by simp [intOf]⟩
    · have conv := conv_four wr w1.heap.size a b c d a1 b1 c1 d1 hr
      have Hb2 := Lib.hid hbel
      clear hr hbel
      go_wp2_with fail
      go_ret
      exact ⟨by rw [hfin.out]; rfl, Hb2.out⟩

set_option maxRecDepth 100000 in
theorem bytes_same {a b : ByteArray} (h : a.data.toList = b.data.toList) : a = b := by
  cases a; cases b; simp only [ByteArray.mk.injEq]; exact Array.ext' h

set_option maxRecDepth 100000 in
set_option maxHeartbeats 400000 in
theorem check_any (s four : ByteArray) (w : World) (hs : s.size ≤ 140737488351232) :
    Calls Tryz.prog 105 #[.string s, .string four] w fun e w' => e = .returned (.int .i64 (checkOf s four)) ∧ Below w.heap.size w w' := by
  obtain ⟨want, hw⟩ : ∃ want : ByteArray, want = ⟨(fourOf (Crc.sum s.data.toList).toNat).toArray⟩ := ⟨_, rfl⟩
  have hwl : want.data.toList = fourOf (Crc.sum s.data.toList).toNat := by rw [hw]
  have F : Hid (∀ W, Calls Tryz.prog 109 #[.string s] W fun e w' => e = .returned (.string want) ∧ Below W.heap.size W w') := Lib.hid (fun W => by rw [hw]; exact four_any s W hs)
  unfold checkOf
  rw [← hwl]
  clear hw hwl hs
  by_cases h4 : four.size = 4
  · have g4 : ((four.size : Int) != 4) = false := by rw [h4]; rfl
    rw [if_pos h4]
    by_cases he : four = want
    · rw [if_pos (by rw [he])]
      have gb : (four.toList == want.toList) = true := by rw [he]; exact beq_self_eq_true _
      have gn : (four.toList != want.toList) = false := by rw [bne, gb]; rfl
      clear he h4
      go_enter Tryz.func105, Tryz.ntmps105
      go_wp2_with (go_at_call 109; with_reducible refine (F.out _).mono ?_; rintro e w1 ⟨rfl, hb1⟩)
      go_ret
      exact ⟨rfl, hb1⟩
    · rw [if_neg (fun h => he (bytes_same h))]
      have gb : (four.toList == want.toList) = false := by
        rw [beq_eq_false_iff_ne, Lib.toList_data, Lib.toList_data]
        exact fun hh => he (bytes_same hh)
      have gn : (four.toList != want.toList) = true := by rw [bne, gb]; rfl
      clear he h4
      go_enter Tryz.func105, Tryz.ntmps105
      go_wp2_with (go_at_call 109; with_reducible refine (F.out _).mono ?_; rintro e w1 ⟨rfl, hb1⟩)
      go_ret
      exact ⟨rfl, hb1⟩
  · have g4 : ((four.size : Int) != 4) = true := by simp; omega
    rw [if_neg h4]
    clear h4
    go_enter Tryz.func105, Tryz.ntmps105
    go_wp2_with fail
    go_ret
    exact ⟨rfl, Below.refl _ _⟩

set_option maxRecDepth 100000 in
theorem crc_ok : CrcOk := ⟨sum_any, four_any, check_any⟩
end Go.Proofs.YtbfjageaheijbaaGreat
/- The package frame as it landed answers as its contracts say. -/
namespace Go.Proofs.YtbfjageaheijbaaGreat
open Go.ChangeShapes Go.WideShapes Go.ChangeAt Go.RowKit Go.Deep

set_option maxRecDepth 100000 in
theorem frame_ok : FrameOk where
  lay := frm_lay crc_ok
  size := size_any
  first := frm_first crc_ok
  read := frm_read crc_ok
end Go.Proofs.YtbfjageaheijbaaGreat
/- The landed journal: a head's text, and a head that is set. -/
set_option linter.unusedSimpArgs false
set_option linter.unusedVariables false
namespace Go.Proofs.YtbfjageaheijbaaGreat
open Go.RowKit Dsk Jnl

set_option maxRecDepth 100000 in
/-- Three numbers, laid by leb. -/
theorem lay_three (q h u : Nat) (hq : q < 9223372036854775808) (hh : h < 9223372036854775808) (hu : u < 9223372036854775808) (w : World) :
    Calls Tryz.prog 97 #[.slice (some ⟨w.heap.size, 0, none⟩) 3 3] (w.alloc (.cells #[.int .i64 (q : Int), .string ⟨#[]⟩, .bool false, .int .i64 (h : Int), .string ⟨#[]⟩, .bool false, .int .i64 (u : Int), .string ⟨#[]⟩, .bool false] 144)) fun e w' =>
      e = .returned (.tuple #[.string (mk (Leb.enc q ++ Leb.enc h ++ Leb.enc u)), .int .i64 0]) ∧ Below w.heap.size w w' := by
  have hr := Row.made w 144 #[.int .i64 (q : Int), .string ⟨#[]⟩, .bool false, .int .i64 (h : Int), .string ⟨#[]⟩, .bool false, .int .i64 (u : Int), .string ⟨#[]⟩, .bool false]
  have hf : FieldsAt (w.alloc (.cells #[.int .i64 (q : Int), .string ⟨#[]⟩, .bool false, .int .i64 (h : Int), .string ⟨#[]⟩, .bool false, .int .i64 (u : Int), .string ⟨#[]⟩, .bool false] 144)) w.heap.size 0 [⟨q, ⟨#[]⟩, false⟩, ⟨h, ⟨#[]⟩, false⟩, ⟨u, ⟨#[]⟩, false⟩] := by
    intro i f hf
    rw [hr.at, hr.at, hr.at]
    match i, hf with
    | 0, hf => simp at hf; subst hf; exact ⟨rfl, rfl, rfl⟩
    | 1, hf => simp at hf; subst hf; exact ⟨rfl, rfl, rfl⟩
    | 2, hf => simp at hf; subst hf; exact ⟨rfl, rfl, rfl⟩
    | (j + 3), hf => simp at hf
  have hfit : Fits [⟨q, ⟨#[]⟩, false⟩, ⟨h, ⟨#[]⟩, false⟩, ⟨u, ⟨#[]⟩, false⟩] := by
    intro i f hf
    match i, hf with
    | 0, hf => simp at hf; subst hf; exact ⟨by simp [Fl.head, numOf]; omega, by simp [Fl.body, strOf]; decide⟩
    | 1, hf => simp at hf; subst hf; exact ⟨by simp [Fl.head, numOf]; omega, by simp [Fl.body, strOf]; decide⟩
    | 2, hf => simp at hf; subst hf; exact ⟨by simp [Fl.head, numOf]; omega, by simp [Fl.body, strOf]; decide⟩
    | (j + 3), hf => simp at hf
  have hl : layOf [⟨q, ⟨#[]⟩, false⟩, ⟨h, ⟨#[]⟩, false⟩, ⟨u, ⟨#[]⟩, false⟩] = (Leb.enc q ++ Leb.enc h ++ Leb.enc u, 0) := by
    have hb : allBytes [⟨q, ⟨#[]⟩, false⟩, ⟨h, ⟨#[]⟩, false⟩, ⟨u, ⟨#[]⟩, false⟩] = Leb.enc q ++ Leb.enc h ++ Leb.enc u := by simp [allBytes, Fl.bytes, Fl.head, Fl.body, numOf, strOf]
    have h9 := Leb.enc_len q
    unfold layOf
    rw [hb, if_neg (by simp [Fl.head, numOf]), if_neg (by have h1 := head_len q h u; unfold head headOf at h1; simp only [List.length_append] at h1 ⊢; omega)]
  refine (lay_any (cap := 3) hf (by simp) (by simp) hfit).mono ?_
  rintro e w' ⟨rfl, hb⟩
  rw [hl]
  exact ⟨rfl, ((Below.refl _ _).alloc (Nat.le_refl _) _).trans (hb.mono (by simp))⟩

set_option maxRecDepth 100000 in
theorem head_mk (q h u : Nat) : (⟨#[76, 73, 71, 72, 84, 69, 82]⟩ : ByteArray) ++ mk (Leb.enc q ++ Leb.enc h ++ Leb.enc u) = mk (headOf q h u) := bytes_ext (by
  rw [ByteArray.data_append, Array.toList_append, mk_data, mk_data]
  simp [headOf, tag])

set_option maxRecDepth 100000 in
theorem head_mk2 (q h u : Nat) : mk (headOf q h u) ++ mk (Frm.sumOf (headOf q h u)) = mk (head q h u) := bytes_ext (by
  rw [ByteArray.data_append, Array.toList_append, mk_data, mk_data, mk_data]
  rfl)

set_option maxRecDepth 100000 in
theorem below_one {w w' : World} {o : Obj} (h : Below (w.heap.size + 1) (w.alloc o) w') : w.heap.size + 1 ≤ w'.heap.size := by
  have := h.size
  simpa using this

set_option maxRecDepth 100000 in
theorem below_box {w w' : World} {o : Obj} (h : Below (w.heap.size + 1) (w.alloc o) w') : Below w.heap.size w w' := ((Below.refl _ _).alloc (Nat.le_refl _) _).trans (h.mono (by omega))

set_option maxRecDepth 100000 in
set_option maxHeartbeats 1600000 in
theorem head_text (q h u : Nat) (hq : q < 9223372036854775808) (hh : h < 9223372036854775808) (hu : u < 9223372036854775808) (w : World) :
    Calls Tryz.prog 85 #[.agg #[.int .i64 (q : Int), .int .i64 (h : Int), .int .i64 (u : Int)]] w fun e w' => e = .returned (.string (mk (head q h u))) ∧ Below w.heap.size w w' := by
  have HL := Lib.hid (lay_three q h u hq hh hu)
  have HC : Hid (∀ W : World, Calls Tryz.prog 109 #[.string (mk (headOf q h u))] W fun e w' => e = .returned (.string (mk (Frm.sumOf (headOf q h u)))) ∧ Below W.heap.size W w') := Lib.hid (fun W => crc_ok.four (mk (headOf q h u)) W (by have h1 := head_len q h u; unfold head at h1; rw [List.length_append] at h1; rw [mk_len]; omega))
  have hz : (mk (Leb.enc q ++ Leb.enc h ++ Leb.enc u)).size ≤ 38 := by
    have h1 := head_len q h u
    unfold head headOf at h1
    rw [mk_len]
    simp only [List.length_append] at h1 ⊢
    omega
  have hz2 : (mk (headOf q h u)).size ≤ 38 := by
    have h1 := head_len q h u
    unfold head at h1
    rw [List.length_append] at h1
    rw [mk_len]
    omega
  have E1 := Lib.hid (head_mk q h u)
  have E2 := Lib.hid (head_mk2 q h u)
  have hc := (Row.made w 96 #[.int .i64 (q : Int), .int .i64 (h : Int), .int .i64 (u : Int)])
  have Hc : Hid (∀ w', Below (w.heap.size + 1) (w.alloc (.cells #[.int .i64 (q : Int), .int .i64 (h : Int), .int .i64 (u : Int)] 96)) w' → w'.cell? ⟨w.heap.size, 0, none⟩ = some (.int .i64 (q : Int)) ∧ w'.cell? ⟨w.heap.size, 1, none⟩ = some (.int .i64 (h : Int)) ∧ w'.cell? ⟨w.heap.size, 2, none⟩ = some (.int .i64 (u : Int))) := Lib.hid (fun w' hb => by
    have hr := hc.below hb (by omega)
    exact ⟨hr.at 0, hr.at 1, hr.at 2⟩)
  clear hc hq hh hu
  generalize Leb.enc q ++ Leb.enc h ++ Leb.enc u = T at *
  have hT0 : ¬ 9223372036854775807 < 7 + (mk T).size := by omega
  have hT1 : ¬ 9223372036854775807 < (mk (headOf q h u)).size + (mk (Frm.sumOf (headOf q h u))).size := by
    have e : (mk (Frm.sumOf (headOf q h u))).size = 4 := rfl
    omega
  have hB : Hid (∀ w', Below (w.heap.size + 1) (w.alloc (.cells #[.int .i64 (q : Int), .int .i64 (h : Int), .int .i64 (u : Int)] 96)) w' → Below w.heap.size w w') := Lib.hid (fun w' hb => below_box hb)
  clear hz hz2
  generalize hX : mk T = X at *
  generalize hY : mk (headOf q h u) = Y at *
  generalize hZ : mk (head q h u) = Z at *
  generalize hU : mk (Frm.sumOf (headOf q h u)) = U at *
  clear hX hY hZ hU
  go_enter Tryz.func85, Tryz.ntmps85
  go_wp2_with fail
  refine wp_region_held_drew (S := (Below (w.heap.size + 1) (w.alloc (.cells #[.int .i64 (q : Int), .int .i64 (h : Int), .int .i64 (u : Int)] 96)))) (by kernel_rfl) (Below.drew (Below.refl _ _)) (fun hHeld => ?_)
  refine wpAnyH_take (i := 0) (v := ?_) rfl (by kernel_rfl) (by kernel_rfl) (by kernel_rfl) (fun _ _ _ h => h) (Or.inl ⟨by rfl, (by intro w hSw; go_simp; try with_reducible rfl)⟩) (by assumption) ?_
  simp only [Act.put, List.getElem_toArray, List.getElem_cons_zero, List.getElem_cons_succ, List.setIfInBounds_toArray, List.set_cons_zero, List.set_cons_succ]
  refine wpAnyH_take (i := 1) (v := ?_) rfl (by kernel_rfl) (by kernel_rfl) (by kernel_rfl) (fun _ _ _ h => h) (Or.inl ⟨by rfl, (by intro w hSw; have c1 := (Hc.out w hSw).1; go_simp; try with_reducible rfl)⟩) (by assumption) ?_
  simp only [Act.put, List.getElem_toArray, List.getElem_cons_zero, List.getElem_cons_succ, List.setIfInBounds_toArray, List.set_cons_zero, List.set_cons_succ]
  refine wpAnyH_take (i := 3) (v := ?_) rfl (by kernel_rfl) (by kernel_rfl) (by kernel_rfl) (fun _ _ _ h => h) (Or.inl ⟨by rfl, (by intro w hSw; go_simp; try with_reducible rfl)⟩) (by assumption) ?_
  simp only [Act.put, List.getElem_toArray, List.getElem_cons_zero, List.getElem_cons_succ, List.setIfInBounds_toArray, List.set_cons_zero, List.set_cons_succ]
  refine wpAnyH_take (i := 4) (v := ?_) rfl (by kernel_rfl) (by kernel_rfl) (by kernel_rfl) (fun _ _ _ h => h) (Or.inl ⟨by rfl, (by intro w hSw; have c1 := (Hc.out w hSw).2.1; go_simp; try with_reducible rfl)⟩) (by assumption) ?_
  simp only [Act.put, List.getElem_toArray, List.getElem_cons_zero, List.getElem_cons_succ, List.setIfInBounds_toArray, List.set_cons_zero, List.set_cons_succ]
  refine wpAnyH_take (i := 6) (v := ?_) rfl (by kernel_rfl) (by kernel_rfl) (by kernel_rfl) (fun _ _ _ h => h) (Or.inl ⟨by rfl, (by intro w hSw; go_simp; try with_reducible rfl)⟩) (by assumption) ?_
  simp only [Act.put, List.getElem_toArray, List.getElem_cons_zero, List.getElem_cons_succ, List.setIfInBounds_toArray, List.set_cons_zero, List.set_cons_succ]
  refine wpAnyH_take (i := 7) (v := ?_) rfl (by kernel_rfl) (by kernel_rfl) (by kernel_rfl) (fun _ _ _ h => h) (Or.inl ⟨by rfl, (by intro w hSw; have c1 := (Hc.out w hSw).2.2; go_simp; try with_reducible rfl)⟩) (by assumption) ?_
  simp only [Act.put, List.getElem_toArray, List.getElem_cons_zero, List.getElem_cons_succ, List.setIfInBounds_toArray, List.set_cons_zero, List.set_cons_succ]
  refine wpAnyH_ready (rs := [2]) (by kernel_rfl) (by simp) ?_
  refine AllReadyH.cons rfl (fun K hK => ?_) AllReadyH.nil
  go_simp
  go_at_call 96
  refine (field_n _ _).mono ?_
  rintro e w2 ⟨rfl, hb2⟩
  refine hK.out _ _ (hHeld.trans (hb2.mono (below_one hHeld))) (fun hHeld => ?_)
  clear hb2
  clear hK K
  refine wpAnyH_ready (rs := [5]) (by kernel_rfl) (by simp) ?_
  refine AllReadyH.cons rfl (fun K hK => ?_) AllReadyH.nil
  go_simp
  go_at_call 96
  refine (field_n _ _).mono ?_
  rintro e w2 ⟨rfl, hb2⟩
  refine hK.out _ _ (hHeld.trans (hb2.mono (below_one hHeld))) (fun hHeld => ?_)
  clear hb2
  clear hK K
  refine wpAnyH_ready (rs := [8]) (by kernel_rfl) (by simp) ?_
  refine AllReadyH.cons rfl (fun K hK => ?_) AllReadyH.nil
  go_simp
  go_at_call 96
  refine (field_n _ _).mono ?_
  rintro e w2 ⟨rfl, hb2⟩
  refine hK.out _ _ (hHeld.trans (hb2.mono (below_one hHeld))) (fun hHeld => ?_)
  clear hb2
  clear hK K
  refine wpAnyH_ready (rs := [9]) (by kernel_rfl) (by simp) ?_
  refine AllReadyH.cons rfl (fun K hK => ?_) AllReadyH.nil
  go_simp
  refine hK.out _ _ (hHeld.alloc (below_one hHeld) _) (fun hHeld2 => ?_)
  clear hK K
  refine wpAnyH_ready (rs := [10]) (by kernel_rfl) (by simp) ?_
  refine AllReadyH.cons rfl (fun K hK => ?_) AllReadyH.nil
  go_simp
  go_at_call 97
  refine (HL.out _).mono ?_
  rintro e w5 ⟨rfl, hb5⟩
  refine hK.out _ _ (hHeld.trans (hb5.mono (below_one hHeld))) (fun hHeld => ?_)
  clear hK K
  refine wpAnyH_take (i := 11) (v := ?_) rfl (by kernel_rfl) (by kernel_rfl) (by kernel_rfl) (fun _ _ _ h => h) (Or.inl ⟨by rfl, (by intro w hSw; go_simp; try with_reducible rfl)⟩) (by assumption) ?_
  simp only [Act.put, List.getElem_toArray, List.getElem_cons_zero, List.getElem_cons_succ, List.setIfInBounds_toArray, List.set_cons_zero, List.set_cons_succ]
  refine wpAnyH_take (i := 12) (v := ?_) rfl (by kernel_rfl) (by kernel_rfl) (by kernel_rfl) (fun _ _ _ h => h) (Or.inl ⟨by rfl, (by intro w hSw; go_simp; try with_reducible rfl)⟩) (by assumption) ?_
  simp only [Act.put, List.getElem_toArray, List.getElem_cons_zero, List.getElem_cons_succ, List.setIfInBounds_toArray, List.set_cons_zero, List.set_cons_succ]
  refine wpAnyH_take (i := 13) (v := ?_) rfl (by kernel_rfl) (by kernel_rfl) (by kernel_rfl) (fun _ _ _ h => h) (Or.inl ⟨by rfl, (by intro w hSw; go_simp; try with_reducible rfl)⟩) (by assumption) ?_
  simp only [Act.put, List.getElem_toArray, List.getElem_cons_zero, List.getElem_cons_succ, List.setIfInBounds_toArray, List.set_cons_zero, List.set_cons_succ]
  refine wpAnyH_take (i := 14) (v := ?_) rfl (by kernel_rfl) (by kernel_rfl) (by kernel_rfl) (fun _ _ _ h => h) (Or.inl ⟨by rfl, (by intro w hSw; go_simp; try with_reducible rfl)⟩) (by assumption) ?_
  simp only [Act.put, List.getElem_toArray, List.getElem_cons_zero, List.getElem_cons_succ, List.setIfInBounds_toArray, List.set_cons_zero, List.set_cons_succ]
  refine wpAnyH_take (i := 15) (v := ?_) rfl (by kernel_rfl) (by kernel_rfl) (by kernel_rfl) (fun _ _ _ h => h) (Or.inl ⟨by rfl, (by intro w hSw; go_simp; try with_reducible rfl)⟩) (by assumption) ?_
  simp only [Act.put, List.getElem_toArray, List.getElem_cons_zero, List.getElem_cons_succ, List.setIfInBounds_toArray, List.set_cons_zero, List.set_cons_succ]
  refine wpAnyH_done (by kernel_rfl) ?_ _
  have Hend := Lib.hid (hB.out _ hHeld)
  clear hHeld
  go_wp2_with fail
  rw [E1.out]
  refine (HC.out _).mono ?_
  rintro e w6 ⟨rfl, hb6⟩
  have Hb6 := Lib.hid hb6
  clear hb6
  go_wp2_with fail
  go_ret
  exact ⟨by rw [← E2.out]; rfl, Hend.out.trans (Hb6.out.mono Hend.out.size)⟩
end Go.Proofs.YtbfjageaheijbaaGreat
