/- The four bytes of a number, and the document's own answer of layer 2 for them. -/
import Derived.Test.YtlccbebociknaaaCrcSum
import Derived.Deep.RegionLaw
import Derived.Deep.AppendLies
import Derived.Lib.BufferRead
import Derived.Laws.BitsAllLaws
import Derived.Lib.AppendStr
namespace Go.Proofs.Ytlccbebociknaaa
open Go.RowKit

/-- The four bytes of a number, the lowest first. -/
def fourOf (n : Nat) : List UInt8 := [UInt8.ofNat (n % 256), UInt8.ofNat (n / 256 % 256), UInt8.ofNat (n / 65536 % 256), UInt8.ofNat (n / 16777216)]

theorem u8_num (n : Nat) (h : n < 256) : (UInt8.ofNat n).toNat = n := by rw [UInt8.toNat_ofNat']; omega

/-- Four bytes in a row of their own, as a text. -/
theorem run_four (W : World) (a b c d : Nat) (ha : a < 256) (hb : b < 256) (hc : c < 256) (hd : d < 256) :
    (convert 38 9 (.slice (some ⟨W.heap.size, 0, none⟩) 4 4)).run Try.prog (W.alloc (.cells #[.int .u8 a, .int .u8 b, .int .u8 c, .int .u8 d] 5)) =
      .ok (.string ⟨#[UInt8.ofNat a, UInt8.ofNat b, UInt8.ofNat c, UInt8.ofNat d]⟩) (W.alloc (.cells #[.int .u8 a, .int .u8 b, .int .u8 c, .int .u8 d] 5)) := by
  have hr := Row.made W 5 #[.int .u8 a, .int .u8 b, .int .u8 c, .int .u8 d]
  refine run_convert_bytes_back (P := Try.prog) _ 38 9 5 ⟨W.heap.size, 0, none⟩ 4 [UInt8.ofNat a, UInt8.ofNat b, UInt8.ofNat c, UInt8.ofNat d] Try.underlying38 Try.underlying5 Try.underlying9 (fun j hj => ?_)
  rw [Go.WideShapes.add_plain, hr.at]
  match j, hj with
  | 0, _ => simp [u8_num a ha]
  | 1, _ => simp [u8_num b hb]
  | 2, _ => simp [u8_num c hc]
  | 3, _ => simp [u8_num d hd]

set_option maxRecDepth 100000 in
set_option maxHeartbeats 800000 in
theorem ref_four (s : ByteArray) (w : World) (hs : s.size ≤ 100000) :
    Calls Try.prog 27 #[.string s] w fun e w' => e = .returned (.string ⟨(fourOf (Crc.sum s.data.toList).toNat).toArray⟩) ∧ Below w.heap.size w w' := by
  have hsum := fun W => ref_sum s W hs
  have Hsum := Lib.hid hsum
  obtain ⟨X, hX⟩ : ∃ X : Nat, X = (Crc.sum s.data.toList).toNat := ⟨_, rfl⟩
  have hX32 : X < 4294967296 := by rw [hX]; exact BitVec.isLt _
  rw [← hX] at hsum ⊢
  have Hsum2 := Lib.hid hsum
  obtain ⟨a, ha⟩ : ∃ a : Nat, a = X % 256 := ⟨_, rfl⟩
  obtain ⟨b, hb⟩ : ∃ b : Nat, b = X / 256 % 256 := ⟨_, rfl⟩
  obtain ⟨c, hc⟩ : ∃ c : Nat, c = X / 65536 % 256 := ⟨_, rfl⟩
  obtain ⟨d, hd⟩ : ∃ d : Nat, d = X / 16777216 := ⟨_, rfl⟩
  have e1 : (X : Int) % 256 = (a : Int) := by omega
  have e2 : (X : Int) / 256 % 256 = (b : Int) := by omega
  have e3 : (X : Int) / 65536 % 256 = (c : Int) := by omega
  have e4 : (X : Int) / 16777216 = (d : Int) := by omega
  have a1 : a < 256 := by omega
  have b1 : b < 256 := by omega
  have c1 : c < 256 := by omega
  have d1 : d < 256 := by omega
  have hconv := fun W => run_four W a b c d a1 b1 c1 d1
  have hfin : Hid (fourOf X = [UInt8.ofNat a, UInt8.ofNat b, UInt8.ofNat c, UInt8.ofNat d]) := by rw [ha, hb, hc, hd]; rfl
  have hX63 : (X : Int) ≤ 4294967295 := by omega
  clear hsum ha hb hc hd hX hX32
  go_enter Try.func27, Try.ntmps27
  go_wp2_with (go_at_call 38; refine (Hsum2.out _).mono ?_; rintro e w1 ⟨rfl, hb1⟩)
  go_ret
  exact ⟨by rw [hfin.out]; rfl, hb1.alloc hb1.size _⟩

theorem idx (s : ByteArray) (k : Nat) (h : k < s.size) : ∃ c : UInt8, s.data.toList[k]? = some c ∧ ∀ V : World, (Instr.index 9 (.string s) (.int .i64 (k : Int))).run Try.prog V = .ok (.int .u8 (c.toNat : Int)) V := by
  refine ⟨s[k]'h, ?_, fun V => by go_simp⟩
  rw [List.getElem?_eq_getElem (by rw [← Lib.size_eq]; exact h), Array.getElem_toList]
  rfl

end Go.Proofs.Ytlccbebociknaaa
