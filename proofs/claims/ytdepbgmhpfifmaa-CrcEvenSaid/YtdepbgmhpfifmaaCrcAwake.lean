/- What must come at any rate in layer 2, and CrcEven's walk: both out of what the package's three functions are to answer (CrcOk), which is proved of the landed code elsewhere. -/
import Derived.Test.YtdepbgmhpfifmaaCrcThree
namespace Go.Proofs.Ytdepbgmhpfifmaa
open Go.RowKit

def checkOf (s four : ByteArray) : Int := if four.size = 4 then (if four.data.toList = fourOf (Crc.sum s.data.toList).toNat then 0 else 7) else 5

/-- What the package is to answer. -/
structure CrcOk : Prop where
  sum : ∀ (s : ByteArray) (w : World), s.size ≤ 140737488351232 → Calls Try.prog 9 #[.string s] w fun e w' => e = .returned (.int .i64 ((Crc.sum s.data.toList).toNat : Int)) ∧ Below w.heap.size w w'
  four : ∀ (s : ByteArray) (w : World), s.size ≤ 140737488351232 → Calls Try.prog 11 #[.string s] w fun e w' => e = .returned (.string ⟨(fourOf (Crc.sum s.data.toList).toNat).toArray⟩) ∧ Below w.heap.size w w'

  check : ∀ (s four : ByteArray) (w : World), s.size ≤ 140737488351232 → Calls Try.prog 8 #[.string s, .string four] w fun e w' => e = .returned (.int .i64 (checkOf s four)) ∧ Below w.heap.size w w'

theorem low_nat (a b : Nat) (w : World) : Calls Try.prog 12 #[.int .i64 a, .int .i64 b] w fun e w' => e = .returned (.int .i64 ((min a b : Nat) : Int)) ∧ w = w' := by
  refine (low_any a b w).mono ?_
  rintro e w' ⟨rfl, h⟩
  refine ⟨?_, h⟩
  congr 2
  split <;> omega

set_option maxRecDepth 100000 in
set_option maxHeartbeats 1600000 in
theorem crc_awake (H : CrcOk) (w : World) : Calls Try.prog 6 #[] w fun e w' => e = .returned (.bool true) ∧ Below w.heap.size w w' := by
  have h1 : ∀ W, Calls Try.prog 9 #[.string ⟨#[49, 50, 51, 52, 53, 54, 55, 56, 57]⟩] W fun e w' => e = .returned (.int .i64 3808858755) ∧ Below W.heap.size W w' := fun W => by
    have h := H.sum ⟨#[49, 50, 51, 52, 53, 54, 55, 56, 57]⟩ W (by decide)
    have e : (Crc.sum (⟨#[49, 50, 51, 52, 53, 54, 55, 56, 57]⟩ : ByteArray).data.toList).toNat = 3808858755 := by decide +kernel
    rw [e] at h
    exact h
  have h2 : ∀ W, Calls Try.prog 9 #[.string ⟨#[]⟩] W fun e w' => e = .returned (.int .i64 0) ∧ Below W.heap.size W w' := fun W => by
    have h := H.sum ⟨#[]⟩ W (by decide)
    have e : (Crc.sum (⟨#[]⟩ : ByteArray).data.toList).toNat = 0 := by decide +kernel
    rw [e] at h
    exact h
  have h3 : ∀ W, Calls Try.prog 11 #[.string ⟨#[49, 50, 51, 52, 53, 54, 55, 56, 57]⟩] W fun e w' => e = .returned (.string ⟨#[131, 146, 6, 227]⟩) ∧ Below W.heap.size W w' := fun W => by
    have h := H.four ⟨#[49, 50, 51, 52, 53, 54, 55, 56, 57]⟩ W (by decide)
    have e : fourOf (Crc.sum (⟨#[49, 50, 51, 52, 53, 54, 55, 56, 57]⟩ : ByteArray).data.toList).toNat = [131, 146, 6, 227] := by decide +kernel
    rw [e] at h
    exact h
  have H1 := Lib.hid h1
  have H2 := Lib.hid h2
  have H3 := Lib.hid h3
  clear h1 h2 h3
  go_enter Try.func6, Try.ntmps6
  go_wp2_with (first
    | (go_at_call 9; with_reducible refine (H1.out _).mono ?_; rintro e w1 ⟨rfl, hb1⟩)
    | (go_at_call 9; with_reducible refine (H2.out _).mono ?_; rintro e w2 ⟨rfl, hb2⟩)
    | (go_at_call 11; with_reducible refine (H3.out _).mono ?_; rintro e w3 ⟨rfl, hb3⟩))
  go_ret
  have z1 := hb1.size
  have z2 := hb2.size
  exact ⟨rfl, (hb1.trans (hb2.mono z1)).trans (hb3.mono (by omega))⟩
end Go.Proofs.Ytdepbgmhpfifmaa
