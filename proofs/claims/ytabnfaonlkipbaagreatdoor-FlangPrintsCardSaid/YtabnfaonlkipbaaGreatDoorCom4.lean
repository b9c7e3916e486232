/- What the statement of a law asks behind the call, out of two facts: the call answers true, and nothing that was there has turned. -/
import Derived.Test.YtabnfaonlkipbaaGreatDoorCom1
import Derived.Test.YtabnfaonlkipbaaGreatDoorRows
import Derived.WalkKit
import Derived.ProofKit
import Derived.OpenShut
import Derived.ShutString
import Derived.SizedLaws
import Derived.Carry
import Derived.OwnWalk
import Derived.Lib.Hide
import Derived.Lib.Strings
import Derived.BigRegion
import Derived.Laws.OwnMore
import Derived.Deep.RegionLaw
import Derived.Deep.AppendLies
import Derived.Lib.BufferRead
import Derived.Laws.BitsAllLaws
import Derived.Lib.AppendStr
namespace Go.Proofs.YtabnfaonlkipbaaGreatDoor
open Go.ChangeShapes Go.WideShapes Go.ChangeAt Go.RowKit

set_option maxRecDepth 100000 in
theorem own : ownKnob Tryz.prog.godebug = none := by kernel_rfl
set_option maxRecDepth 100000 in
theorem laidOut : laidOutB Tryz.prog = true := by kernel_rfl

section
variable {H : Type} {enc : TypeId × Value → H}

set_option maxRecDepth 100000 in
/-- All arguments read as they did, where nothing that was there has turned. -/
theorem args_stay {W W' : World} (hb : Below W.heap.size W W') : ∀ (ts : List TypeId) (vs : List Value) (ds : List (DataW H)) (ps : List MemPlace),
    (∀ t ∈ ts, Tryz.prog.readableRec t = true ∧ t < Tryz.prog.types.size) → (∀ p ∈ ps, p.block < W.heap.size) →
    DataW.TrodAll enc Tryz.prog W 0 (fun _ => true) true ts vs ds ps → DataW.TrodAll enc Tryz.prog W' 0 (fun b => decide (b < W.heap.size)) true ts vs ds ps
  | [], vs, ds, ps, _, _, h => by
    obtain ⟨rfl, rfl, rfl⟩ := trodAll_nil h
    exact trodAll_mk0
  | t :: ts, vs, ds, ps, ht, hp, h => by
    obtain ⟨v, vs', d, ds', p, q, rfl, rfl, rfl, h1, h2⟩ := trodAll_cons h
    obtain ⟨r1, r2⟩ := ht t (by simp)
    exact trodAll_cons_mk (Below.trod laidOut r1 r2 h1 hb (fun x hx => hp x (by simp [hx]))) (args_stay hb ts vs' ds' q (fun u hu => ht u (by simp [hu])) (fun x hx => hp x (by simp [hx])) h2)

set_option maxRecDepth 100000 in
/-- The statement's end, for every law that answers true and whose arguments read as they did. -/
theorem law_done {f : Func} {s : ChangeSpec} {W W' : World} {args : Array Value} {ds gs : List (DataW H)} {before : List MemPlace} (hres : f.resultTypes = #[4]) (hv : s.vars = [])
    (hW : DataW.Whole enc Tryz.prog f.params.toList s.vars false W args.toList ds gs before) (hfn : s.fn H (ds ++ gs) = { results := [.lit (.bool true)], args := ds })
    (hr : ∀ t ∈ f.params.toList, Tryz.prog.readableRec t = true ∧ t < Tryz.prog.types.size) (hb : Below W.heap.size W W') :
    s.post enc Tryz.prog f false true false false W args (.bool true) W' := by
  have hlt : ∀ p ∈ before, p.block < W.heap.size := fun p hp => hW.lt p hp
  have hW0 := hW
  obtain ⟨p, q, hA, hV, hpq, _, _⟩ := hW
  rw [hv] at hV
  obtain ⟨rfl, rfl⟩ := trodVars_none hV
  rw [List.append_nil] at hpq
  subst hpq
  refine ⟨ds, [], before, [], before, [], hW0, ?_, ?_, ?_, hb.frame _, fun h => by cases h⟩
  · rw [hfn, hres]
    exact trodAll_mk1 (shut_bool Tryz.underlying4 true)
  · rw [hfn]
    exact args_stay hb _ _ _ _ hr hlt hA
  · rw [hfn, hv]
    rfl
end
end Go.Proofs.YtabnfaonlkipbaaGreatDoor
/- CRC-32C on bits: a register of 32 bits, its linearity, that one bit turned makes another sum. No program is spoken of. -/
namespace Go.Proofs.YtabnfaonlkipbaaGreatDoor.Crc

/-- The polynomial, its highest coefficient in the lowest bit. -/
def poly : BitVec 32 := 0x82F63B78#32

/-- One place on. -/
def z (c : BitVec 32) : BitVec 32 := (c >>> 1) ^^^ (if c.getLsbD 0 then poly else 0#32)

def one (m : Bool) : BitVec 32 := if m then 1#32 else 0#32

/-- One bit is taken in. -/
def step (r : BitVec 32) (m : Bool) : BitVec 32 := z (r ^^^ one m)

def run (r : BitVec 32) (ms : List Bool) : BitVec 32 := ms.foldl step r

set_option maxRecDepth 100000 in
theorem one_xor (a b : Bool) : one (a ^^ b) = one a ^^^ one b := by cases a <;> cases b <;> rfl

set_option maxRecDepth 100000 in
theorem twice (x y p : BitVec 32) : (x ^^^ p) ^^^ (y ^^^ p) = x ^^^ y := by
  rw [show (x ^^^ p) ^^^ (y ^^^ p) = (x ^^^ y) ^^^ (p ^^^ p) from by ac_rfl, BitVec.xor_self, BitVec.xor_zero]

set_option maxRecDepth 100000 in
theorem z_xor (a b : BitVec 32) : z (a ^^^ b) = z a ^^^ z b := by
  unfold z
  rw [BitVec.getLsbD_xor, BitVec.ushiftRight_xor_distrib]
  cases a.getLsbD 0 <;> cases b.getLsbD 0
  · simp
  · simp only [Bool.false_xor, if_true, Bool.false_eq_true, if_false, BitVec.xor_zero]; ac_rfl
  · simp only [Bool.true_xor, Bool.not_false, if_true, Bool.false_eq_true, if_false, BitVec.xor_zero]; ac_rfl
  · simp only [Bool.true_xor, Bool.not_true, Bool.false_eq_true, if_false, if_true, BitVec.xor_zero]
    exact (twice _ _ _).symm

set_option maxRecDepth 100000 in
theorem z_zero : z 0#32 = 0#32 := by decide

set_option maxRecDepth 100000 in
theorem z_ne {c : BitVec 32} (h : c ≠ 0#32) : z c ≠ 0#32 := by
  intro hz
  apply h
  have h31 : (z c).getLsbD 31 = false := by rw [hz]; simp
  have hp : poly.getLsbD 31 = true := by decide
  have hl : c.getLsbD 0 = false := by
    cases hc : c.getLsbD 0 with
    | false => rfl
    | true =>
      unfold z at h31
      rw [hc, if_pos rfl, BitVec.getLsbD_xor, hp] at h31
      simp at h31
  unfold z at hz
  rw [hl] at hz
  simp at hz
  apply BitVec.eq_of_getLsbD_eq
  intro i hi
  cases i with
  | zero => rw [hl]; simp
  | succ j =>
    have : (c >>> 1).getLsbD j = false := by rw [hz]; simp
    rw [BitVec.getLsbD_ushiftRight] at this
    rw [Nat.add_comm, this]; simp

set_option maxRecDepth 100000 in
theorem step_xor (a b : BitVec 32) (m n : Bool) : step (a ^^^ b) (m ^^ n) = step a m ^^^ step b n := by
  unfold step
  rw [one_xor, ← z_xor]
  congr 1
  ac_rfl

set_option maxRecDepth 100000 in
theorem run_xor : ∀ (ms ns : List Bool) (a b : BitVec 32), ms.length = ns.length → run (a ^^^ b) (List.zipWith (· ^^ ·) ms ns) = run a ms ^^^ run b ns
  | [], [], a, b, _ => rfl
  | m :: ms, n :: ns, a, b, h => by
    simp only [List.zipWith_cons_cons, run, List.foldl_cons]
    rw [step_xor]
    exact run_xor ms ns _ _ (by simpa using h)
  | [], _ :: _, _, _, h => by simp at h
  | _ :: _, [], _, _, h => by simp at h

set_option maxRecDepth 100000 in
theorem run_append (r : BitVec 32) (a b : List Bool) : run r (a ++ b) = run (run r a) b := List.foldl_append ..

set_option maxRecDepth 100000 in
theorem run_falses (r : BitVec 32) (n : Nat) (h : r ≠ 0#32) : run r (List.replicate n false) ≠ 0#32 := by
  induction n generalizing r with
  | zero => exact h
  | succ n ih =>
    rw [List.replicate_succ]
    refine ih _ ?_
    unfold step one
    simp
    exact z_ne h

/-- The bits of a byte, the lowest first. -/
def bitsOf (b : UInt8) : List Bool := (List.range 8).map fun k => b.toNat.testBit k

def msg (s : List UInt8) : List Bool := s.flatMap bitsOf

/-- The checksum. -/
def sum (s : List UInt8) : BitVec 32 := ~~~ run (BitVec.allOnes 32) (msg s)

set_option maxRecDepth 100000 in
theorem bits_len (b : UInt8) : (bitsOf b).length = 8 := by simp [bitsOf]

set_option maxRecDepth 100000 in
theorem msg_len (s : List UInt8) : (msg s).length = 8 * s.length := by
  induction s with
  | nil => rfl
  | cons b s ih =>
    show (bitsOf b ++ msg s).length = _
    rw [List.length_append, bits_len, ih, List.length_cons]
    omega

set_option maxRecDepth 100000 in
theorem bits_xor (a b : UInt8) : bitsOf (a ^^^ b) = List.zipWith (· ^^ ·) (bitsOf a) (bitsOf b) := by
  unfold bitsOf
  rw [List.zipWith_map_left, List.zipWith_map_right]
  apply List.ext_getElem
  · simp
  · intro i h1 h2
    simp [UInt8.toNat_xor, Nat.testBit_xor]

set_option maxRecDepth 100000 in
theorem msg_xor : ∀ (s t : List UInt8), s.length = t.length → msg (List.zipWith (· ^^^ ·) s t) = List.zipWith (· ^^ ·) (msg s) (msg t)
  | [], [], _ => rfl
  | a :: s, b :: t, h => by
    show bitsOf (a ^^^ b) ++ msg (List.zipWith (· ^^^ ·) s t) = List.zipWith (· ^^ ·) (bitsOf a ++ msg s) (bitsOf b ++ msg t)
    rw [List.zipWith_append (by rw [bits_len, bits_len]), bits_xor, msg_xor s t (by simpa using h)]
  | [], _ :: _, h => by simp at h
  | _ :: _, [], h => by simp at h

set_option maxRecDepth 100000 in
/-- Of two texts of one length: the sums differ as the bits that differ make them. -/
theorem sum_xor (s t : List UInt8) (h : s.length = t.length) : sum s ^^^ sum t = run 0#32 (msg (List.zipWith (· ^^^ ·) s t)) := by
  rw [msg_xor s t h]
  have := run_xor (msg s) (msg t) (BitVec.allOnes 32) (BitVec.allOnes 32) (by rw [msg_len, msg_len, h])
  rw [BitVec.xor_self] at this
  rw [this]
  unfold sum
  have hn : ∀ x y : BitVec 32, ~~~x ^^^ ~~~y = x ^^^ y := fun x y => by
    apply BitVec.eq_of_getLsbD_eq
    intro i hi
    simp [hi]
  exact hn _ _

/-! ### A byte at a time -/

/-- n places on. -/
def zs : Nat → BitVec 32 → BitVec 32
  | 0, c => c
  | n + 1, c => z (zs n c)

set_option maxRecDepth 100000 in
theorem one_shift (m : Bool) : one m >>> 1 = 0#32 := by cases m <;> decide
set_option maxRecDepth 100000 in
theorem one_low (m : Bool) : (one m).getLsbD 0 = m := by cases m <;> decide

set_option maxRecDepth 100000 in
theorem z_low (c : BitVec 32) (m : Bool) (h : c.getLsbD 0 = m) : z (c ^^^ one m) = c >>> 1 := by
  have hl : (c ^^^ one m).getLsbD 0 = false := by rw [BitVec.getLsbD_xor, one_low, h]; simp
  unfold z
  rw [hl, BitVec.ushiftRight_xor_distrib, one_shift]
  simp

def lows (k : Nat) (b : BitVec 32) : List Bool := (List.range k).map fun i => b.getLsbD i

set_option maxRecDepth 100000 in
theorem zs_run (k : Nat) (r b : BitVec 32) : zs k (r ^^^ b) = run r (lows k b) ^^^ (b >>> k) := by
  induction k with
  | zero => simp [zs, lows, run]
  | succ k ih =>
    have hl : lows (k + 1) b = lows k b ++ [b.getLsbD k] := by simp [lows, List.range_succ]
    have hb : (b >>> k).getLsbD 0 = b.getLsbD k := by rw [BitVec.getLsbD_ushiftRight]; simp
    have hz := z_low (b >>> k) (b.getLsbD k) hb
    rw [zs, ih, hl, run_append]
    show z (run r (lows k b) ^^^ b >>> k) = step (run r (lows k b)) (b.getLsbD k) ^^^ b >>> (k + 1)
    unfold step
    have e : run r (lows k b) ^^^ b >>> k = (run r (lows k b) ^^^ one (b.getLsbD k)) ^^^ (b >>> k ^^^ one (b.getLsbD k)) := (twice _ _ _).symm
    rw [e, z_xor, hz, BitVec.shiftRight_add]

set_option maxRecDepth 100000 in
/-- Eight places on, with the byte laid into the register first. -/
theorem byte_run (r : BitVec 32) (b : UInt8) : zs 8 (r ^^^ BitVec.ofNat 32 b.toNat) = run r (bitsOf b) := by
  have hb : b.toNat < 256 := b.toNat_lt
  rw [zs_run]
  have h1 : lows 8 (BitVec.ofNat 32 b.toNat) = bitsOf b := by
    unfold lows bitsOf
    apply List.map_congr_left
    intro i hi
    have : i < 8 := List.mem_range.1 hi
    rw [BitVec.getLsbD_ofNat, decide_eq_true (by omega)]
    simp
  have h2 : (BitVec.ofNat 32 b.toNat) >>> 8 = 0#32 := by
    apply BitVec.eq_of_toNat_eq
    rw [BitVec.toNat_ushiftRight, BitVec.toNat_ofNat, Nat.mod_eq_of_lt (by omega), Nat.shiftRight_eq_div_pow]
    simp
    omega
  rw [h1, h2, BitVec.xor_zero]

set_option maxRecDepth 100000 in
theorem msg_snoc (s : List UInt8) (b : UInt8) : msg (s ++ [b]) = msg s ++ bitsOf b := by
  simp [msg]

set_option maxRecDepth 100000 in
/-- The register behind one byte more. -/
theorem run_snoc (r : BitVec 32) (s : List UInt8) (b : UInt8) : run r (msg (s ++ [b])) = zs 8 (run r (msg s) ^^^ BitVec.ofNat 32 b.toNat) := by
  rw [msg_snoc, run_append, byte_run]

/-! ### One bit turned -/

set_option maxRecDepth 100000 in
theorem run_zero (n : Nat) : run 0#32 (List.replicate n false) = 0#32 := by
  induction n with
  | zero => rfl
  | succ n ih =>
    rw [List.replicate_succ]
    show run (step 0#32 false) _ = _
    rw [show step 0#32 false = 0#32 from by decide]
    exact ih

set_option maxRecDepth 100000 in
theorem run_single (a b : Nat) : run 0#32 (List.replicate a false ++ true :: List.replicate b false) ≠ 0#32 := by
  rw [run_append, run_zero]
  show run (step 0#32 true) (List.replicate b false) ≠ _
  exact run_falses _ _ (by decide)

set_option maxRecDepth 100000 in
theorem bits_zero : bitsOf 0 = List.replicate 8 false := by decide

set_option maxRecDepth 100000 in
theorem msg_zeros (n : Nat) : msg (List.replicate n 0) = List.replicate (8 * n) false := by
  induction n with
  | zero => rfl
  | succ n ih =>
    rw [List.replicate_succ]
    show bitsOf 0 ++ msg (List.replicate n 0) = _
    rw [bits_zero, ih, List.replicate_append_replicate]
    congr 1
    omega

set_option maxRecDepth 100000 in
theorem bits_pow (k : Nat) (hk : k < 8) : bitsOf (UInt8.ofNat (2 ^ k)) = List.replicate k false ++ true :: List.replicate (7 - k) false := by
  have h : ∀ j : Fin 8, bitsOf (UInt8.ofNat (2 ^ j.val)) = List.replicate j.val false ++ true :: List.replicate (7 - j.val) false := by decide +kernel
  exact h ⟨k, hk⟩

set_option maxRecDepth 100000 in
/-- Texts of one length that differ in one bit have sums that differ. -/
theorem sum_turn (s t : List UInt8) (h : s.length = t.length) (i k : Nat) (hk : k < 8) (hd : List.zipWith (· ^^^ ·) s t = List.replicate i 0 ++ UInt8.ofNat (2 ^ k) :: List.replicate (s.length - i - 1) 0) : sum s ≠ sum t := by
  intro he
  have hx := sum_xor s t h
  rw [he, BitVec.xor_self, hd] at hx
  have hm : msg (List.replicate i 0 ++ UInt8.ofNat (2 ^ k) :: List.replicate (s.length - i - 1) 0) =
      List.replicate (8 * i + k) false ++ true :: List.replicate (7 - k + 8 * (s.length - i - 1)) false := by
    have e : msg (List.replicate i 0 ++ UInt8.ofNat (2 ^ k) :: List.replicate (s.length - i - 1) 0) =
        msg (List.replicate i 0) ++ (bitsOf (UInt8.ofNat (2 ^ k)) ++ msg (List.replicate (s.length - i - 1) 0)) := by simp [msg]
    rw [e, msg_zeros, bits_pow k hk, msg_zeros]
    simp only [List.append_assoc, List.cons_append, List.replicate_append_replicate]
    rw [← List.append_assoc, List.replicate_append_replicate]
  rw [hm] at hx
  exact run_single _ _ hx.symm

set_option maxRecDepth 100000 in
/-- Of four texts of one length that are nought when they are added without carry, so are the sums. -/
theorem sum_even (a b c d : List UInt8) (h1 : a.length = b.length) (h2 : c.length = d.length) (hd : List.zipWith (· ^^^ ·) a b = List.zipWith (· ^^^ ·) c d) : sum a ^^^ sum b ^^^ sum c ^^^ sum d = 0#32 := by
  have e : sum a ^^^ sum b ^^^ sum c ^^^ sum d = (sum a ^^^ sum b) ^^^ (sum c ^^^ sum d) := by ac_rfl
  rw [e, sum_xor a b h1, sum_xor c d h2, hd, BitVec.xor_self]
end Go.Proofs.YtabnfaonlkipbaaGreatDoor.Crc
/- The document's own answer of layer 2: the bits of bytes, and 32 of nought. -/
namespace Go.Proofs.YtabnfaonlkipbaaGreatDoor
open Go.RowKit

set_option maxRecDepth 100000 in
theorem boolInfo : (Tryz.prog.info? 4).map (fun i => (i.zero, i.size, i.bytes)) = some (some (.bool false), 1, 1) := by kernel_rfl

def bools (l : List Bool) : List Value := l.map Value.bool

/-- The call's own slice holds these bits. -/
def BitsAt (w : World) (out : List Bool) (v : Value) (wr : World) : Prop := wr.ownsRow w.heap.size 4 1 v out.length (bools out) ∧ Below w.heap.size w wr

set_option maxRecDepth 100000 in
theorem bits_start (w : World) : BitsAt w [] (.slice none 0 0) w := ⟨World.ownsRow_nil _ _ _ _, Below.refl _ _⟩

set_option maxRecDepth 100000 in
theorem from_own {w : World} {base t size n : Nat} {v : Value} {xs : List Value} (h : w.ownsRow base t size v n xs) : ∀ k, v.ownBlock = some k → base ≤ k := by
  intro k hk
  rcases h.2 with ⟨hv, _⟩ | ⟨g, cap, cur, hv, hb, _⟩
  · rw [hv] at hk; simp [Value.ownBlock] at hk
  · rw [hv] at hk
    have : g = k := by simpa [Value.ownBlock] using hk
    omega

set_option maxRecDepth 100000 in
theorem bits_more {w wr w2 : World} {out : List Bool} {v v' : Value} {o : Obj} {x : Bool} (h : BitsAt w out v wr) (hown : w2.ownsRow w.heap.size 4 1 v' (out.length + 1) (bools out ++ [.bool x])) (hg : (wr.alloc o).grownBy w2 v.ownBlock) :
    BitsAt w (out ++ [x]) v' w2 := by
  obtain ⟨h1, h2⟩ := h
  refine ⟨?_, (h2.alloc h2.size o).grown hg (by have := h2.size; simp; omega) (fun k hk => from_own h1 k hk)⟩
  rw [List.length_append]
  simpa [bools] using hown

set_option maxRecDepth 100000 in
theorem half_bit (x k : Nat) : x.testBit k = ((x / 2 ^ k : Nat) % 2 == 1) := by
  rw [Nat.testBit_eq_decide_div_mod_eq]
  rfl

end Go.Proofs.YtabnfaonlkipbaaGreatDoor
/- The division, bit by bit, as the document's own answer does it: its cells are the register's bits added to the message's. No program is spoken of. -/
namespace Go.Proofs.YtabnfaonlkipbaaGreatDoor.Crc

/-- Bit j of a message, nought behind its end. -/
def mbit (M : List Bool) (j : Nat) : Bool := M.getD j false

/-- The register behind i bits. -/
def reg (M : List Bool) (i : Nat) : BitVec 32 := run (BitVec.allOnes 32) (M.take i)

/-- Cell j behind i steps of the division, for j from i on. -/
def cell (M : List Bool) (i j : Nat) : Bool := (reg M i).getLsbD (j - i) ^^ mbit M j

set_option maxRecDepth 100000 in
theorem reg_zero (M : List Bool) : reg M 0 = BitVec.allOnes 32 := rfl

set_option maxRecDepth 100000 in
theorem reg_succ (M : List Bool) (i : Nat) (h : i < M.length) : reg M (i + 1) = step (reg M i) (mbit M i) := by
  unfold reg
  rw [List.take_succ_eq_append_getElem h, run_append]
  have : mbit M i = M[i] := by simp [mbit, h]
  rw [this]
  rfl

set_option maxRecDepth 100000 in
theorem one_high (m : Bool) (t : Nat) : (one m).getLsbD (t + 1) = false := by
  cases m
  · simp [one]
  · simp [one]

set_option maxRecDepth 100000 in
theorem step_bit (r : BitVec 32) (m : Bool) (t : Nat) : (step r m).getLsbD t = (r.getLsbD (t + 1) ^^ ((r.getLsbD 0 ^^ m) && poly.getLsbD t)) := by
  unfold step z
  rw [BitVec.getLsbD_xor, BitVec.getLsbD_ushiftRight, BitVec.getLsbD_xor, Nat.add_comm 1 t, one_high, Bool.xor_false]
  have h0 : (r ^^^ one m).getLsbD 0 = (r.getLsbD 0 ^^ m) := by rw [BitVec.getLsbD_xor, one_low]
  rw [h0]
  cases (r.getLsbD 0 ^^ m) <;> simp

/-- The powers below 32, falling. -/
def pows : List Nat := [28, 27, 26, 25, 23, 22, 20, 19, 18, 14, 13, 11, 10, 9, 8, 6, 0]

set_option maxRecDepth 100000 in
theorem pows_bits : ∀ t : Fin 33, pows.any (fun p => 32 - p == t.val + 1) = poly.getLsbD t.val := by decide +kernel

/-- Cells are turned at these powers. -/
def togg (i : Nat) (B : List Bool) : List Nat → List Bool
  | [] => B
  | p :: ps => togg i (B.set (i + 32 - p) (!B.getD (i + 32 - p) false)) ps

set_option maxRecDepth 100000 in
theorem togg_len (i : Nat) (ps : List Nat) (B : List Bool) : (togg i B ps).length = B.length := by
  induction ps generalizing B with
  | nil => rfl
  | cons p ps ih => rw [togg, ih, List.length_set]

set_option maxRecDepth 100000 in
theorem togg_snoc (i : Nat) (ps : List Nat) (p : Nat) (B : List Bool) : togg i B (ps ++ [p]) = (togg i B ps).set (i + 32 - p) (!(togg i B ps).getD (i + 32 - p) false) := by
  induction ps generalizing B with
  | nil => rfl
  | cons q ps ih => rw [List.cons_append, togg, ih]; rfl

set_option maxRecDepth 100000 in
theorem togg_get (i j : Nat) (ps : List Nat) (B : List Bool) (hp : ∀ p ∈ ps, p ≤ 32) (hn : ps.Nodup) (hj : j < B.length) :
    (togg i B ps).getD j false = (B.getD j false ^^ ps.any (fun p => i + 32 - p == j)) := by
  induction ps generalizing B with
  | nil => simp [togg]
  | cons p ps ih =>
    obtain ⟨h1, h2⟩ := List.nodup_cons.1 hn
    rw [togg, ih _ (fun q hq => hp q (by simp [hq])) h2 (by simpa using hj), List.any_cons]
    by_cases hpj : i + 32 - p = j
    · have hno : ps.any (fun q => i + 32 - q == j) = false := by
        rw [List.any_eq_false]
        intro q hq
        have hq32 := hp q (by simp [hq])
        have hp32 := hp p (by simp)
        have : q ≠ p := fun e => h1 (e ▸ hq)
        simp
        omega
      rw [hno, hpj]
      simp [hj]
    · have hb : (i + 32 - p == j) = false := by simpa using hpj
      rw [hb, Bool.false_or]
      congr 1
      simp [List.getD, hpj]

set_option maxRecDepth 100000 in
theorem pows_nodup : pows.Nodup := by decide
set_option maxRecDepth 100000 in
theorem pows_le : ∀ p ∈ pows, p ≤ 32 := by decide

/-- The cells behind i steps. -/
def Cells (M : List Bool) (i : Nat) (B : List Bool) : Prop := B.length = M.length + 32 ∧ ∀ j, i ≤ j → j < M.length + 32 → B.getD j false = cell M i j

set_option maxRecDepth 100000 in
/-- The first 32 bits are turned. -/
theorem cells_start (M B : List Bool) (hl : B.length = M.length + 32) (h : ∀ j, j < M.length + 32 → B.getD j false = (mbit M j ^^ decide (j < 32))) : Cells M 0 B := by
  refine ⟨hl, fun j _ hj => ?_⟩
  rw [h j hj]
  unfold cell
  rw [reg_zero, BitVec.getLsbD_allOnes, Nat.sub_zero, Bool.xor_comm]

set_option maxRecDepth 100000 in
theorem cells_first {M B : List Bool} {i : Nat} (h : Cells M i B) (hi : i < M.length) : B.getD i false = ((reg M i).getLsbD 0 ^^ mbit M i) := by
  rw [h.2 i (Nat.le_refl _) (by omega)]
  unfold cell
  rw [Nat.sub_self]

set_option maxRecDepth 100000 in
/-- A step at which the first cell is nought. -/
theorem cells_skip {M B : List Bool} {i : Nat} (h : Cells M i B) (hi : i < M.length) (hb : B.getD i false = false) : Cells M (i + 1) B := by
  refine ⟨h.1, fun j hj hjl => ?_⟩
  rw [h.2 j (by omega) hjl]
  have hf := cells_first h hi
  rw [hb] at hf
  unfold cell
  rw [reg_succ M i hi, step_bit, ← hf, Bool.false_and, Bool.xor_false, show j - (i + 1) + 1 = j - i from by omega]

set_option maxRecDepth 100000 in
/-- A step at which it is one: the cells at the powers are turned. -/
theorem cells_turn {M B : List Bool} {i : Nat} (h : Cells M i B) (hi : i < M.length) (hb : B.getD i false = true) : Cells M (i + 1) (togg i B pows) := by
  refine ⟨by rw [togg_len]; exact h.1, fun j hj hjl => ?_⟩
  rw [togg_get i j pows B pows_le pows_nodup (by rw [h.1]; exact hjl), h.2 j (by omega) hjl]
  have hf := cells_first h hi
  rw [hb] at hf
  unfold cell
  rw [reg_succ M i hi, step_bit, ← hf, Bool.true_and, show j - (i + 1) + 1 = j - i from by omega]
  have hp : pows.any (fun p => i + 32 - p == j) = poly.getLsbD (j - (i + 1)) := by
    by_cases hs : j - (i + 1) < 33
    · rw [← pows_bits ⟨j - (i + 1), hs⟩]
      congr 1
      funext p
      rw [Bool.eq_iff_iff]
      simp
      omega
    · rw [BitVec.getLsbD_of_ge _ _ (by omega), List.any_eq_false]
      intro p hp
      simp
      omega
  rw [hp]
  cases (reg M i).getLsbD (j - i) <;> cases mbit M j <;> cases poly.getLsbD (j - (i + 1)) <;> rfl

set_option maxRecDepth 100000 in
/-- The last 32 cells are the register. -/
theorem cells_end {M B : List Bool} (h : Cells M M.length B) (t : Nat) (ht : t < 32) : (!B.getD (M.length + t) false) = (~~~ run (BitVec.allOnes 32) M).getLsbD t := by
  rw [h.2 _ (by omega) (by omega)]
  unfold cell reg
  have hm : mbit M (M.length + t) = false := by
    unfold mbit
    rw [List.getD_eq_getElem?_getD, List.getElem?_eq_none (by omega)]
    rfl
  rw [hm, Nat.add_sub_cancel_left, Bool.xor_false, List.take_length, BitVec.getLsbD_not, decide_eq_true ht, Bool.true_and]

set_option maxRecDepth 100000 in
/-- The highest bits of a number, one more. -/
theorem top_bit (x i : Nat) (hi : i < 32) : x / 2 ^ (32 - (i + 1)) = x / 2 ^ (32 - i) * 2 + (if x.testBit (31 - i) then 1 else 0) := by
  have e : 32 - i = (31 - i) + 1 := by omega
  have e2 : 32 - (i + 1) = 31 - i := by omega
  rw [e, e2, Nat.pow_succ, ← Nat.div_div_eq_div_mul, Nat.testBit_eq_decide_div_mod_eq]
  generalize x / 2 ^ (31 - i) = y
  by_cases h : y % 2 = 1
  · rw [decide_eq_true h]; simp; omega
  · rw [decide_eq_false h]; simp; omega
end Go.Proofs.YtabnfaonlkipbaaGreatDoor.Crc
/- The document's own answer of layer 2: the sum by division. -/
namespace Go.Proofs.YtabnfaonlkipbaaGreatDoor
open Go.RowKit

def powCells : Array Value := #[.int .i64 28, .int .i64 27, .int .i64 26, .int .i64 25, .int .i64 23, .int .i64 22, .int .i64 20, .int .i64 19, .int .i64 18, .int .i64 14, .int .i64 13, .int .i64 11, .int .i64 10, .int .i64 9, .int .i64 8, .int .i64 6, .int .i64 0]

set_option maxRecDepth 100000 in
theorem powCells_at (k p : Nat) (h : Crc.pows[k]? = some p) : powCells[k]? = some (.int .i64 p) := by
  have hk : k < 17 := (List.getElem?_eq_some_iff.1 h).1
  have : ∀ j : Fin 17, powCells[j.val]? = (Crc.pows[j.val]?).map fun q => Value.int .i64 (q : Int) := by
    intro j
    match j with
    | ⟨0, _⟩ | ⟨1, _⟩ | ⟨2, _⟩ | ⟨3, _⟩ | ⟨4, _⟩ | ⟨5, _⟩ | ⟨6, _⟩ | ⟨7, _⟩ | ⟨8, _⟩ | ⟨9, _⟩ | ⟨10, _⟩ | ⟨11, _⟩ | ⟨12, _⟩ | ⟨13, _⟩ | ⟨14, _⟩ | ⟨15, _⟩ | ⟨16, _⟩ => rfl
    | ⟨n + 17, h⟩ => exact absurd h (by omega)
  rw [this ⟨k, hk⟩, h]
  rfl

/-- The call's own row of bits at block g. -/
def Cel (w : World) (g n cap : Nat) (B : List Bool) (wr : World) : Prop := B.length = n ∧ w.heap.size ≤ g ∧ wr.ownsRow w.heap.size 4 1 (.slice (some ⟨g, 0, none⟩) n cap) n (bools B) ∧ Below w.heap.size w wr

set_option maxRecDepth 100000 in
theorem Cel.at {w wr : World} {g n cap : Nat} {B : List Bool} (h : Cel w g n cap B wr) {j : Nat} (hj : j < n) : wr.cell? ⟨g, j, none⟩ = some (.bool (B.getD j false)) := by
  rw [h.2.2.1.cellAt j (by omega)]
  have : j < B.length := by rw [h.1]; exact hj
  simp [bools, List.getD, this]

set_option maxRecDepth 100000 in
theorem Cel.free {w wr : World} {g n cap : Nat} {B : List Bool} (h : Cel w g n cap B wr) (j : Nat) : wr.frozen? ⟨g, j, none⟩ = false := h.2.2.1.frozenAt j

set_option maxRecDepth 100000 in
theorem Cel.set {w wr : World} {g n cap : Nat} {B : List Bool} (h : Cel w g n cap B wr) (j : Nat) (x : Bool) : Cel w g n cap (B.set j x) (wr.setCell ⟨g, j, none⟩ (.bool x)) := by
  refine ⟨by rw [List.length_set]; exact h.1, h.2.1, ?_, h.2.2.2.setCell (p := ⟨g, j, none⟩) h.2.1 _⟩
  have := (h.2.2.1.stored j (.bool x)).1
  simpa [bools, List.map_set] using this

set_option maxRecDepth 100000 in
theorem Cel.new {w wr : World} {g n cap : Nat} {B : List Bool} (h : Cel w g n cap B wr) (o : Obj) : Cel w g n cap B (wr.alloc o) := ⟨h.1, h.2.1, h.2.2.1.alloc o, h.2.2.2.alloc h.2.2.2.size o⟩

set_option maxRecDepth 100000 in
theorem Cel.draws {w wr : World} {g n cap : Nat} {B : List Bool} (h : Cel w g n cap B wr) : Cel w g n cap B wr.drew := ⟨h.1, h.2.1, h.2.2.1.drew, h.2.2.2.drew⟩

set_option maxRecDepth 100000 in
theorem Cel.ne {w wr : World} {g n cap : Nat} {B : List Bool} (h : Cel w g n cap B wr) {b : Nat} {u : TypeId} {cs : Array Value} (hr : Row wr b u cs) (hu : u ≠ 4) : g ≠ b := by
  rintro rfl
  rcases h.2.2.1.2 with ⟨hv, _⟩ | ⟨g', cap', cur, hv, _, hh, _⟩
  · simp at hv
  · simp only [Value.slice.injEq, Option.some.injEq, Addr.mk.injEq, and_true, true_and] at hv
    obtain ⟨rfl, _⟩ := hv
    have h2 : wr.heap[g]? = some (Obj.cells cs u (0, 0)) := hr
    rw [h2] at hh
    injection hh with hh
    injection hh with _ ht
    exact hu ht

set_option maxRecDepth 100000 in
theorem cel_of {w wr : World} {v : Value} {B : List Bool} (h : BitsAt w B v wr) (hn : 0 < B.length) : ∃ g cap, v = .slice (some ⟨g, 0, none⟩) B.length cap ∧ Cel w g B.length cap B wr := by
  rcases h.1.2 with ⟨_, h0⟩ | ⟨g, cap, cur, hv, hb, _⟩
  · omega
  · refine ⟨g, cap, hv, rfl, hb, ?_, h.2⟩
    have := h.1
    rw [hv] at this
    exact this

set_option maxRecDepth 100000 in
theorem pad_get (M : List Bool) (n j : Nat) : (M ++ List.replicate n false).getD j false = Crc.mbit M j := by
  unfold Crc.mbit
  simp only [List.getD_eq_getElem?_getD]
  by_cases h : j < M.length
  · rw [List.getElem?_append_left h]
  · rw [List.getElem?_append_right (by omega), List.getElem?_eq_none (l := M) (by omega), List.getElem?_replicate]
    by_cases h2 : j - M.length < n
    · rw [if_pos h2]; rfl
    · rw [if_neg h2]

/-- The first i bits are turned. -/
def Turned (M : List Bool) (i : Nat) (B : List Bool) : Prop := B.length = M.length + 32 ∧ ∀ j, j < M.length + 32 → B.getD j false = (Crc.mbit M j ^^ decide (j < i))

set_option maxRecDepth 100000 in
theorem turned_more {M B : List Bool} {i : Nat} (h : Turned M i B) (hi : i < M.length + 32) : Turned M (i + 1) (B.set i (!B.getD i false)) := by
  refine ⟨by rw [List.length_set]; exact h.1, fun j hj => ?_⟩
  have hl := h.1
  by_cases e : i = j
  · subst e
    have : (B.set i (!B.getD i false)).getD i false = !B.getD i false := by
      rw [List.getD_eq_getElem?_getD, List.getElem?_set_self (by omega)]; rfl
    rw [this, h.2 i hj, decide_eq_true (show i < i + 1 by omega), decide_eq_false (show ¬ i < i by omega)]
    cases Crc.mbit M i <;> rfl
  · have : (B.set i (!B.getD i false)).getD j false = B.getD j false := by
      rw [List.getD_eq_getElem?_getD, List.getElem?_set_ne e, List.getD_eq_getElem?_getD]
    rw [this, h.2 j hj]
    congr 1
    rw [decide_eq_decide]
    omega

end Go.Proofs.YtabnfaonlkipbaaGreatDoor
/- The four bytes of a number, and the document's own answer of layer 2 for them. -/
namespace Go.Proofs.YtabnfaonlkipbaaGreatDoor
open Go.RowKit

/-- The four bytes of a number, the lowest first. -/
def fourOf (n : Nat) : List UInt8 := [UInt8.ofNat (n % 256), UInt8.ofNat (n / 256 % 256), UInt8.ofNat (n / 65536 % 256), UInt8.ofNat (n / 16777216)]

set_option maxRecDepth 100000 in
theorem u8_num (n : Nat) (h : n < 256) : (UInt8.ofNat n).toNat = n := by rw [UInt8.toNat_ofNat']; omega

set_option maxRecDepth 100000 in
/-- Four bytes in a row of their own, as a text. -/
theorem run_four (W : World) (a b c d : Nat) (ha : a < 256) (hb : b < 256) (hc : c < 256) (hd : d < 256) :
    (convert 66 9 (.slice (some ⟨W.heap.size, 0, none⟩) 4 4)).run Tryz.prog (W.alloc (.cells #[.int .u8 a, .int .u8 b, .int .u8 c, .int .u8 d] 5)) =
      .ok (.string ⟨#[UInt8.ofNat a, UInt8.ofNat b, UInt8.ofNat c, UInt8.ofNat d]⟩) (W.alloc (.cells #[.int .u8 a, .int .u8 b, .int .u8 c, .int .u8 d] 5)) := by
  have hr := Row.made W 5 #[.int .u8 a, .int .u8 b, .int .u8 c, .int .u8 d]
  refine run_convert_bytes_back (P := Tryz.prog) _ 66 9 5 ⟨W.heap.size, 0, none⟩ 4 [UInt8.ofNat a, UInt8.ofNat b, UInt8.ofNat c, UInt8.ofNat d] Tryz.underlying66 Tryz.underlying5 Tryz.underlying9 (fun j hj => ?_)
  rw [Go.WideShapes.add_plain, hr.at]
  match j, hj with
  | 0, _ => simp [u8_num a ha]
  | 1, _ => simp [u8_num b hb]
  | 2, _ => simp [u8_num c hc]
  | 3, _ => simp [u8_num d hd]

set_option maxRecDepth 100000 in
theorem idx (s : ByteArray) (k : Nat) (h : k < s.size) : ∃ c : UInt8, s.data.toList[k]? = some c ∧ ∀ V : World, (Instr.index 9 (.string s) (.int .i64 (k : Int))).run Tryz.prog V = .ok (.int .u8 (c.toNat : Int)) V := by
  refine ⟨s[k]'h, ?_, fun V => by go_simp⟩
  rw [List.getElem?_eq_getElem (by rw [← Lib.size_eq]; exact h), Array.getElem_toList]
  rfl

end Go.Proofs.YtabnfaonlkipbaaGreatDoor
