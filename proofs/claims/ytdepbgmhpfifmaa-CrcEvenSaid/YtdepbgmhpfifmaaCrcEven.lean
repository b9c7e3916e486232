/- The sums of three texts of one length, and of the one that they make, are nought together: CrcEven's walk, out of what the package's functions are to answer (CrcOk). -/
import Derived.Test.YtdepbgmhpfifmaaCrcAwake
namespace Go.Proofs.Ytdepbgmhpfifmaa
open Go.RowKit

theorem i64_xor_nat (a b : Nat) (ha : a < 4294967296) (hb : b < 4294967296) : bits .xor .i64 (a : Int) (b : Int) = ((a ^^^ b : Nat) : Int) := by
  have hx : a ^^^ b < 2 ^ 32 := Nat.xor_lt_two_pow (by omega) (by omega)
  show IntKind.i64.wrap ((BitVec.ofInt 64 (a : Int) ^^^ BitVec.ofInt 64 (b : Int)).toNat : Int) = _
  have h1 : ∀ x : Nat, x < 4294967296 → (BitVec.ofInt 64 (x : Int)).toNat = x := fun x h => by
    rw [BitVec.ofInt_natCast, BitVec.toNat_ofNat]; exact Nat.mod_eq_of_lt (by omega)
  rw [BitVec.toNat_xor, h1 a ha, h1 b hb, IntKind.wrap_i64]
  omega

theorem add3_half : ∀ (a b c : List UInt8), a.length = b.length → b.length = c.length → List.zipWith (· ^^^ ·) a b = List.zipWith (· ^^^ ·) c (add3 a b c)
  | [], [], [], _, _ => rfl
  | x :: a, y :: b, z :: c, h1, h2 => by
    have ih := add3_half a b c (by simpa using h1) (by simpa using h2)
    have e : x ^^^ y = z ^^^ (x ^^^ y ^^^ z) := by rw [UInt8.xor_comm (x ^^^ y) z, ← UInt8.xor_assoc, UInt8.xor_self, UInt8.zero_xor]
    show (x ^^^ y) :: List.zipWith (· ^^^ ·) a b = (z ^^^ (x ^^^ y ^^^ z)) :: List.zipWith (· ^^^ ·) c (add3 a b c)
    rw [← ih, ← e]

theorem cut_size (a : ByteArray) (n : Nat) (h : n ≤ a.size) : (a.extract 0 n).size = n := by
  rw [ByteArray.size_extract]; omega

set_option maxRecDepth 100000 in
set_option maxHeartbeats 1600000 in
theorem even_walk (H : CrcOk) (a b c : ByteArray) (w : World) (ha : a.size ≤ 140737488351232) :
    Calls Try.prog 4 #[.string a, .string b, .string c] w fun e w' => e = .returned (.bool true) ∧ Below w.heap.size w w' := by
  obtain ⟨m, hm⟩ : ∃ m, m = min a.size b.size := ⟨_, rfl⟩
  obtain ⟨n, hn⟩ : ∃ n, n = min m c.size := ⟨_, rfl⟩
  have L1 : Hid (∀ W, Calls Try.prog 12 #[.int .i64 (a.size : Int), .int .i64 (b.size : Int)] W fun e w' => e = .returned (.int .i64 (m : Int)) ∧ W = w') := Lib.hid (fun W => by rw [hm]; exact low_nat _ _ W)
  have L2 : Hid (∀ W, Calls Try.prog 12 #[.int .i64 (m : Int), .int .i64 (c.size : Int)] W fun e w' => e = .returned (.int .i64 (n : Int)) ∧ W = w') := Lib.hid (fun W => by rw [hn]; exact low_nat _ _ W)
  have hna : n ≤ a.size := by omega
  have hnb : n ≤ b.size := by omega
  have hnc : n ≤ c.size := by omega
  have za := cut_size a n hna
  have zb := cut_size b n hnb
  have zc := cut_size c n hnc
  obtain ⟨A, hA⟩ : ∃ A, A = (a.extract 0 n).data.toList := ⟨_, rfl⟩
  obtain ⟨B, hB⟩ : ∃ B, B = (b.extract 0 n).data.toList := ⟨_, rfl⟩
  obtain ⟨C, hC⟩ : ∃ C, C = (c.extract 0 n).data.toList := ⟨_, rfl⟩
  have lA : A.length = n := by rw [hA, ← Lib.size_eq, za]
  have lB : B.length = n := by rw [hB, ← Lib.size_eq, zb]
  have lC : C.length = n := by rw [hC, ← Lib.size_eq, zc]
  have lD : (add3 A B C).length = n := by unfold add3; rw [List.length_zipWith, List.length_zipWith]; omega
  have hev := Crc.sum_even A B C (add3 A B C) (by omega) (by omega) (add3_half A B C (by omega) (by omega))
  have hnat : (Crc.sum A).toNat ^^^ (Crc.sum B).toNat ^^^ (Crc.sum C).toNat ^^^ (Crc.sum (add3 A B C)).toNat = 0 := by
    rw [← BitVec.toNat_xor, ← BitVec.toNat_xor, ← BitVec.toNat_xor, hev]; rfl
  have S1 : Hid (∀ W, Calls Try.prog 9 #[.string (a.extract 0 n)] W fun e w' => e = .returned (.int .i64 ((Crc.sum A).toNat : Int)) ∧ Below W.heap.size W w') := Lib.hid (fun W => by rw [hA]; exact H.sum _ W (by omega))
  have S2 : Hid (∀ W, Calls Try.prog 9 #[.string (b.extract 0 n)] W fun e w' => e = .returned (.int .i64 ((Crc.sum B).toNat : Int)) ∧ Below W.heap.size W w') := Lib.hid (fun W => by rw [hB]; exact H.sum _ W (by omega))
  have S3 : Hid (∀ W, Calls Try.prog 9 #[.string (c.extract 0 n)] W fun e w' => e = .returned (.int .i64 ((Crc.sum C).toNat : Int)) ∧ Below W.heap.size W w') := Lib.hid (fun W => by rw [hC]; exact H.sum _ W (by omega))
  have S4 : Hid (∀ W, Calls Try.prog 9 #[.string ⟨(add3 A B C).toArray⟩] W fun e w' => e = .returned (.int .i64 ((Crc.sum (add3 A B C)).toNat : Int)) ∧ Below W.heap.size W w') := Lib.hid (fun W => H.sum ⟨(add3 A B C).toArray⟩ W (by show (add3 A B C).toArray.size ≤ _; rw [List.size_toArray]; omega))
  have T3 : Hid (∀ W, Calls Try.prog 13 #[.string (a.extract 0 n), .string (b.extract 0 n), .string (c.extract 0 n)] W fun e w' => e = .returned (.string ⟨(add3 A B C).toArray⟩) ∧ Below W.heap.size W w') := Lib.hid (fun W => by rw [hA, hB, hC]; exact three_any _ _ _ W (by omega) (by omega) (by omega))
  have p32 := (Crc.sum A).isLt
  have q32 := (Crc.sum B).isLt
  have r32 := (Crc.sum C).isLt
  have t32 := (Crc.sum (add3 A B C)).isLt
  generalize (Crc.sum A).toNat = p at *
  generalize (Crc.sum B).toNat = q at *
  generalize (Crc.sum C).toNat = r at *
  generalize (Crc.sum (add3 A B C)).toNat = t at *
  generalize (⟨(add3 A B C).toArray⟩ : ByteArray) = D at *
  have x1 : p ^^^ q < 2 ^ 32 := Nat.xor_lt_two_pow p32 q32
  have x2 : p ^^^ q ^^^ r < 2 ^ 32 := Nat.xor_lt_two_pow x1 r32
  have b1 := i64_xor_nat p q p32 q32
  have b2 := i64_xor_nat (p ^^^ q) r x1 r32
  have b3 := i64_xor_nat (p ^^^ q ^^^ r) t x2 t32
  rw [hnat] at b3
  generalize p ^^^ q ^^^ r = pqr at *
  generalize p ^^^ q = pq at *
  have hna2 : (n : Int) ≤ (a.size : Int) := by omega
  have hnb2 : (n : Int) ≤ (b.size : Int) := by omega
  have hnc2 : (n : Int) ≤ (c.size : Int) := by omega
  have HH := Lib.hid H
  clear hev hnat p32 q32 r32 t32 x1 x2 lA lB lC lD hA hB hC za zb zc hm hn H ha
  go_enter Try.func4, Try.ntmps4
  go_wp2_with (first
    | (go_at_call 12; with_reducible refine (L1.out _).mono ?_; rintro e w1 ⟨rfl, rfl⟩)
    | (go_at_call 12; with_reducible refine (L2.out _).mono ?_; rintro e w1 ⟨rfl, rfl⟩)
    | (go_at_call 6; with_reducible refine (crc_awake HH.out _).mono ?_; rintro e w1 ⟨rfl, hb1⟩)
    | (go_at_call 9; with_reducible refine (S1.out _).mono ?_; rintro e w2 ⟨rfl, hb2⟩)
    | (go_at_call 9; with_reducible refine (S2.out _).mono ?_; rintro e w3 ⟨rfl, hb3⟩)
    | (go_at_call 9; with_reducible refine (S3.out _).mono ?_; rintro e w4 ⟨rfl, hb4⟩)
    | (go_at_call 13; with_reducible refine (T3.out _).mono ?_; rintro e w5 ⟨rfl, hb5⟩)
    | (go_at_call 9; with_reducible refine (S4.out _).mono ?_; rintro e w6 ⟨rfl, hb6⟩))
  go_ret
  have z1 := hb1.size
  have z2 := hb2.size
  have z3 := hb3.size
  have z4 := hb4.size
  have z5 := hb5.size
  exact ⟨rfl, ((((hb1.trans (hb2.mono (by omega))).trans (hb3.mono (by omega))).trans (hb4.mono (by omega))).trans (hb5.mono (by omega))).trans (hb6.mono (by omega))⟩
end Go.Proofs.Ytdepbgmhpfifmaa
