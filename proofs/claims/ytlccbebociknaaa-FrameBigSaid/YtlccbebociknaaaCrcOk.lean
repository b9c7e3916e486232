/- What the package crc is to answer (CrcOk), which is proved of the landed code elsewhere. -/
import Derived.Test.YtlccbebociknaaaCrcFour
namespace Go.Proofs.Ytlccbebociknaaa
open Go.RowKit

def checkOf (s four : ByteArray) : Int := if four.size = 4 then (if four.data.toList = fourOf (Crc.sum s.data.toList).toNat then 0 else 7) else 5

/-- What the package is to answer. -/
structure CrcOk : Prop where
  sum : ∀ (s : ByteArray) (w : World), s.size ≤ 140737488351232 → Calls Try.prog 41 #[.string s] w fun e w' => e = .returned (.int .i64 ((Crc.sum s.data.toList).toNat : Int)) ∧ Below w.heap.size w w'
  four : ∀ (s : ByteArray) (w : World), s.size ≤ 140737488351232 → Calls Try.prog 31 #[.string s] w fun e w' => e = .returned (.string ⟨(fourOf (Crc.sum s.data.toList).toNat).toArray⟩) ∧ Below w.heap.size w w'

  check : ∀ (s four : ByteArray) (w : World), s.size ≤ 140737488351232 → Calls Try.prog 25 #[.string s, .string four] w fun e w' => e = .returned (.int .i64 (checkOf s four)) ∧ Below w.heap.size w w'

end Go.Proofs.Ytlccbebociknaaa
