/- CRC-32C on bits: a register of 32 bits, its linearity, that one bit turned makes another sum. No program is spoken of. -/
namespace Go.Proofs.Ytenlcadndfbnaaa.Crc

/-- The polynomial, its highest coefficient in the lowest bit. -/
def poly : BitVec 32 := 0x82F63B78#32

/-- One place on. -/
def z (c : BitVec 32) : BitVec 32 := (c >>> 1) ^^^ (if c.getLsbD 0 then poly else 0#32)

def one (m : Bool) : BitVec 32 := if m then 1#32 else 0#32

/-- One bit is taken in. -/
def step (r : BitVec 32) (m : Bool) : BitVec 32 := z (r ^^^ one m)

def run (r : BitVec 32) (ms : List Bool) : BitVec 32 := ms.foldl step r

set_option maxRecDepth 100000 in
theorem one_xor (a b : Bool) : one (a ^^ b) = one a ^^^ one b := by cases a <;> cases b <;> rfl

set_option maxRecDepth 100000 in
theorem twice (x y p : BitVec 32) : (x ^^^ p) ^^^ (y ^^^ p) = x ^^^ y := by
  rw [show (x ^^^ p) ^^^ (y ^^^ p) = (x ^^^ y) ^^^ (p ^^^ p) from by ac_rfl, BitVec.xor_self, BitVec.xor_zero]

set_option maxRecDepth 100000 in
theorem z_xor (a b : BitVec 32) : z (a ^^^ b) = z a ^^^ z b := by
  unfold z
  rw [BitVec.getLsbD_xor, BitVec.ushiftRight_xor_distrib]
  cases a.getLsbD 0 <;> cases b.getLsbD 0
  · simp
  · simp only [Bool.false_xor, if_true, Bool.false_eq_true, if_false, BitVec.xor_zero]; ac_rfl
  · simp only [Bool.true_xor, Bool.not_false, if_true, Bool.false_eq_true, if_false, BitVec.xor_zero]; ac_rfl
  · simp only [Bool.true_xor, Bool.not_true, Bool.false_eq_true, if_false, if_true, BitVec.xor_zero]
    exact (twice _ _ _).symm

set_option maxRecDepth 100000 in
theorem z_zero : z 0#32 = 0#32 := by decide

set_option maxRecDepth 100000 in
theorem z_ne {c : BitVec 32} (h : c ≠ 0#32) : z c ≠ 0#32 := by
  intro hz
  apply h
  have h31 : (z c).getLsbD 31 = false := by rw [hz]; simp
  have hp : poly.getLsbD 31 = true := by decide
  have hl : c.getLsbD 0 = false := by
    cases hc : c.getLsbD 0 with
    | false => rfl
    | true =>
      unfold z at h31
      rw [hc, if_pos rfl, BitVec.getLsbD_xor, hp] at h31
      simp at h31
  unfold z at hz
  rw [hl] at hz
  simp at hz
  apply BitVec.eq_of_getLsbD_eq
  intro i hi
  cases i with
  | zero => rw [hl]; simp
  | succ j =>
    have : (c >>> 1).getLsbD j = false := by rw [hz]; simp
    rw [BitVec.getLsbD_ushiftRight] at this
    rw [Nat.add_comm, this]; simp

set_option maxRecDepth 100000 in
theorem step_xor (a b : BitVec 32) (m n : Bool) : step (a ^^^ b) (m ^^ n) = step a m ^^^ step b n := by
  unfold step
  rw [one_xor, ← z_xor]
  congr 1
  ac_rfl

set_option maxRecDepth 100000 in
theorem run_xor : ∀ (ms ns : List Bool) (a b : BitVec 32), ms.length = ns.length → run (a ^^^ b) (List.zipWith (· ^^ ·) ms ns) = run a ms ^^^ run b ns
  | [], [], a, b, _ => rfl
  | m :: ms, n :: ns, a, b, h => by
    simp only [List.zipWith_cons_cons, run, List.foldl_cons]
    rw [step_xor]
    exact run_xor ms ns _ _ (by simpa using h)
  | [], _ :: _, _, _, h => by simp at h
  | _ :: _, [], _, _, h => by simp at h

set_option maxRecDepth 100000 in
theorem run_append (r : BitVec 32) (a b : List Bool) : run r (a ++ b) = run (run r a) b := List.foldl_append ..

set_option maxRecDepth 100000 in
theorem run_falses (r : BitVec 32) (n : Nat) (h : r ≠ 0#32) : run r (List.replicate n false) ≠ 0#32 := by
  induction n generalizing r with
  | zero => exact h
  | succ n ih =>
    rw [List.replicate_succ]
    refine ih _ ?_
    unfold step one
    simp
    exact z_ne h

/-- The bits of a byte, the lowest first. -/
def bitsOf (b : UInt8) : List Bool := (List.range 8).map fun k => b.toNat.testBit k

def msg (s : List UInt8) : List Bool := s.flatMap bitsOf

/-- The checksum. -/
def sum (s : List UInt8) : BitVec 32 := ~~~ run (BitVec.allOnes 32) (msg s)

set_option maxRecDepth 100000 in
theorem bits_len (b : UInt8) : (bitsOf b).length = 8 := by simp [bitsOf]

set_option maxRecDepth 100000 in
theorem msg_len (s : List UInt8) : (msg s).length = 8 * s.length := by
  induction s with
  | nil => rfl
  | cons b s ih =>
    show (bitsOf b ++ msg s).length = _
    rw [List.length_append, bits_len, ih, List.length_cons]
    omega

set_option maxRecDepth 100000 in
theorem bits_xor (a b : UInt8) : bitsOf (a ^^^ b) = List.zipWith (· ^^ ·) (bitsOf a) (bitsOf b) := by
  unfold bitsOf
  rw [List.zipWith_map_left, List.zipWith_map_right]
  apply List.ext_getElem
  · simp
  · intro i h1 h2
    simp [UInt8.toNat_xor, Nat.testBit_xor]

set_option maxRecDepth 100000 in
theorem msg_xor : ∀ (s t : List UInt8), s.length = t.length → msg (List.zipWith (· ^^^ ·) s t) = List.zipWith (· ^^ ·) (msg s) (msg t)
  | [], [], _ => rfl
  | a :: s, b :: t, h => by
    show bitsOf (a ^^^ b) ++ msg (List.zipWith (· ^^^ ·) s t) = List.zipWith (· ^^ ·) (bitsOf a ++ msg s) (bitsOf b ++ msg t)
    rw [List.zipWith_append (by rw [bits_len, bits_len]), bits_xor, msg_xor s t (by simpa using h)]
  | [], _ :: _, h => by simp at h
  | _ :: _, [], h => by simp at h

set_option maxRecDepth 100000 in
/-- Of two texts of one length: the sums differ as the bits that differ make them. -/
theorem sum_xor (s t : List UInt8) (h : s.length = t.length) : sum s ^^^ sum t = run 0#32 (msg (List.zipWith (· ^^^ ·) s t)) := by
  rw [msg_xor s t h]
  have := run_xor (msg s) (msg t) (BitVec.allOnes 32) (BitVec.allOnes 32) (by rw [msg_len, msg_len, h])
  rw [BitVec.xor_self] at this
  rw [this]
  unfold sum
  have hn : ∀ x y : BitVec 32, ~~~x ^^^ ~~~y = x ^^^ y := fun x y => by
    apply BitVec.eq_of_getLsbD_eq
    intro i hi
    simp [hi]
  exact hn _ _

/-! ### A byte at a time -/

/-- n places on. -/
def zs : Nat → BitVec 32 → BitVec 32
  | 0, c => c
  | n + 1, c => z (zs n c)

set_option maxRecDepth 100000 in
theorem one_shift (m : Bool) : one m >>> 1 = 0#32 := by cases m <;> decide
set_option maxRecDepth 100000 in
theorem one_low (m : Bool) : (one m).getLsbD 0 = m := by cases m <;> decide

set_option maxRecDepth 100000 in
theorem z_low (c : BitVec 32) (m : Bool) (h : c.getLsbD 0 = m) : z (c ^^^ one m) = c >>> 1 := by
  have hl : (c ^^^ one m).getLsbD 0 = false := by rw [BitVec.getLsbD_xor, one_low, h]; simp
  unfold z
  rw [hl, BitVec.ushiftRight_xor_distrib, one_shift]
  simp

def lows (k : Nat) (b : BitVec 32) : List Bool := (List.range k).map fun i => b.getLsbD i

set_option maxRecDepth 100000 in
theorem zs_run (k : Nat) (r b : BitVec 32) : zs k (r ^^^ b) = run r (lows k b) ^^^ (b >>> k) := by
  induction k with
  | zero => simp [zs, lows, run]
  | succ k ih =>
    have hl : lows (k + 1) b = lows k b ++ [b.getLsbD k] := by simp [lows, List.range_succ]
    have hb : (b >>> k).getLsbD 0 = b.getLsbD k := by rw [BitVec.getLsbD_ushiftRight]; simp
    have hz := z_low (b >>> k) (b.getLsbD k) hb
    rw [zs, ih, hl, run_append]
    show z (run r (lows k b) ^^^ b >>> k) = step (run r (lows k b)) (b.getLsbD k) ^^^ b >>> (k + 1)
    unfold step
    have e : run r (lows k b) ^^^ b >>> k = (run r (lows k b) ^^^ one (b.getLsbD k)) ^^^ (b >>> k ^^^ one (b.getLsbD k)) := (twice _ _ _).symm
    rw [e, z_xor, hz, BitVec.shiftRight_add]

set_option maxRecDepth 100000 in
/-- Eight places on, with the byte laid into the register first. -/
theorem byte_run (r : BitVec 32) (b : UInt8) : zs 8 (r ^^^ BitVec.ofNat 32 b.toNat) = run r (bitsOf b) := by
  have hb : b.toNat < 256 := b.toNat_lt
  rw [zs_run]
  have h1 : lows 8 (BitVec.ofNat 32 b.toNat) = bitsOf b := by
    unfold lows bitsOf
    apply List.map_congr_left
    intro i hi
    have : i < 8 := List.mem_range.1 hi
    rw [BitVec.getLsbD_ofNat, decide_eq_true (by omega)]
    simp
  have h2 : (BitVec.ofNat 32 b.toNat) >>> 8 = 0#32 := by
    apply BitVec.eq_of_toNat_eq
    rw [BitVec.toNat_ushiftRight, BitVec.toNat_ofNat, Nat.mod_eq_of_lt (by omega), Nat.shiftRight_eq_div_pow]
    simp
    omega
  rw [h1, h2, BitVec.xor_zero]

set_option maxRecDepth 100000 in
theorem msg_snoc (s : List UInt8) (b : UInt8) : msg (s ++ [b]) = msg s ++ bitsOf b := by
  simp [msg]

set_option maxRecDepth 100000 in
/-- The register behind one byte more. -/
theorem run_snoc (r : BitVec 32) (s : List UInt8) (b : UInt8) : run r (msg (s ++ [b])) = zs 8 (run r (msg s) ^^^ BitVec.ofNat 32 b.toNat) := by
  rw [msg_snoc, run_append, byte_run]

/-! ### One bit turned -/

set_option maxRecDepth 100000 in
theorem run_zero (n : Nat) : run 0#32 (List.replicate n false) = 0#32 := by
  induction n with
  | zero => rfl
  | succ n ih =>
    rw [List.replicate_succ]
    show run (step 0#32 false) _ = _
    rw [show step 0#32 false = 0#32 from by decide]
    exact ih

set_option maxRecDepth 100000 in
theorem run_single (a b : Nat) : run 0#32 (List.replicate a false ++ true :: List.replicate b false) ≠ 0#32 := by
  rw [run_append, run_zero]
  show run (step 0#32 true) (List.replicate b false) ≠ _
  exact run_falses _ _ (by decide)

set_option maxRecDepth 100000 in
theorem bits_zero : bitsOf 0 = List.replicate 8 false := by decide

set_option maxRecDepth 100000 in
theorem msg_zeros (n : Nat) : msg (List.replicate n 0) = List.replicate (8 * n) false := by
  induction n with
  | zero => rfl
  | succ n ih =>
    rw [List.replicate_succ]
    show bitsOf 0 ++ msg (List.replicate n 0) = _
    rw [bits_zero, ih, List.replicate_append_replicate]
    congr 1
    omega

set_option maxRecDepth 100000 in
theorem bits_pow (k : Nat) (hk : k < 8) : bitsOf (UInt8.ofNat (2 ^ k)) = List.replicate k false ++ true :: List.replicate (7 - k) false := by
  have h : ∀ j : Fin 8, bitsOf (UInt8.ofNat (2 ^ j.val)) = List.replicate j.val false ++ true :: List.replicate (7 - j.val) false := by decide +kernel
  exact h ⟨k, hk⟩

set_option maxRecDepth 100000 in
/-- Texts of one length that differ in one bit have sums that differ. -/
theorem sum_turn (s t : List UInt8) (h : s.length = t.length) (i k : Nat) (hk : k < 8) (hd : List.zipWith (· ^^^ ·) s t = List.replicate i 0 ++ UInt8.ofNat (2 ^ k) :: List.replicate (s.length - i - 1) 0) : sum s ≠ sum t := by
  intro he
  have hx := sum_xor s t h
  rw [he, BitVec.xor_self, hd] at hx
  have hm : msg (List.replicate i 0 ++ UInt8.ofNat (2 ^ k) :: List.replicate (s.length - i - 1) 0) =
      List.replicate (8 * i + k) false ++ true :: List.replicate (7 - k + 8 * (s.length - i - 1)) false := by
    have e : msg (List.replicate i 0 ++ UInt8.ofNat (2 ^ k) :: List.replicate (s.length - i - 1) 0) =
        msg (List.replicate i 0) ++ (bitsOf (UInt8.ofNat (2 ^ k)) ++ msg (List.replicate (s.length - i - 1) 0)) := by simp [msg]
    rw [e, msg_zeros, bits_pow k hk, msg_zeros]
    simp only [List.append_assoc, List.cons_append, List.replicate_append_replicate]
    rw [← List.append_assoc, List.replicate_append_replicate]
  rw [hm] at hx
  exact run_single _ _ hx.symm

set_option maxRecDepth 100000 in
/-- Of four texts of one length that are nought when they are added without carry, so are the sums. -/
theorem sum_even (a b c d : List UInt8) (h1 : a.length = b.length) (h2 : c.length = d.length) (hd : List.zipWith (· ^^^ ·) a b = List.zipWith (· ^^^ ·) c d) : sum a ^^^ sum b ^^^ sum c ^^^ sum d = 0#32 := by
  have e : sum a ^^^ sum b ^^^ sum c ^^^ sum d = (sum a ^^^ sum b) ^^^ (sum c ^^^ sum d) := by ac_rfl
  rw [e, sum_xor a b h1, sum_xor c d h2, hd, BitVec.xor_self]
end Go.Proofs.Ytenlcadndfbnaaa.Crc
