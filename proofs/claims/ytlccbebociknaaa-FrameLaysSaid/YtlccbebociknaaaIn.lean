/- The small methods of the reader: Err, Left, fail, take, End. -/
import Derived.Test.YtlccbebociknaaaRows
import Derived.Test.YtlccbebociknaaaBase
import Derived.WalkKit
import Derived.WalkSpells
import Derived.Lib.Hide
import Derived.Lib.Strings
namespace Go.Proofs.Ytlccbebociknaaa
open Go.RowKit

/-- The reader at block b: what is left of its bytes, and its error. -/
def Rd (w : World) (b : Nat) (r : ByteArray) (e : Int) : Prop := Row w b 58 #[.string r, .int .i64 e]

theorem err_nil (w : World) : Calls Try.prog 23 #[.pointer none] w fun e w' => e = .returned (.int .i64 1) ∧ w = w' := by
  go_enter Try.func23, Try.ntmps23
  go_wp2
  go_ret
  exact ⟨rfl, rfl⟩

theorem err_any {w : World} {b : Nat} {r : ByteArray} {e0 : Int} (h : Rd w b r e0) :
    Calls Try.prog 23 #[.pointer (some ⟨b, 0, none⟩)] w fun e w' => e = .returned (.int .i64 e0) ∧ w = w' := by
  have c1 : w.cell? ⟨b, 1, none⟩ = some (.int .i64 e0) := Row.at h 1
  clear h
  go_enter Try.func23, Try.ntmps23
  go_wp2
  go_ret
  exact ⟨rfl, rfl⟩

theorem left_nil (w : World) : Calls Try.prog 24 #[.pointer none] w fun e w' => e = .returned (.int .i64 0) ∧ w = w' := by
  go_enter Try.func24, Try.ntmps24
  go_wp2
  go_ret
  exact ⟨rfl, rfl⟩

theorem left_any {w : World} {b : Nat} {r : ByteArray} {e0 : Int} (h : Rd w b r e0) :
    Calls Try.prog 24 #[.pointer (some ⟨b, 0, none⟩)] w fun e w' => e = .returned (.int .i64 r.size) ∧ w = w' := by
  have c0 : w.cell? ⟨b, 0, none⟩ = some (.string r) := Row.at h 0
  clear h
  go_enter Try.func24, Try.ntmps24
  go_wp2
  go_ret
  exact ⟨rfl, rfl⟩

theorem fail_any {w : World} {b : Nat} {r : ByteArray} {e0 : Int} (h : Rd w b r e0) (x : Int) :
    Calls Try.prog 35 #[.pointer (some ⟨b, 0, none⟩), .int .i64 x] w fun e w' => e = .returned (.tuple #[]) ∧ Rd w' b ⟨#[]⟩ x ∧ w.grownBy w' (some b) := by
  have c0 : w.cell? ⟨b, 0, none⟩ = some (.string r) := Row.at h 0
  have c1 : w.cell? ⟨b, 1, none⟩ = some (.int .i64 e0) := Row.at h 1
  have f0 := Row.free h 0
  have f1 := Row.free h 1
  have k1 : Row ((w.setCell ⟨b, 0, none⟩ (.string ⟨#[]⟩)).setCell ⟨b, 1, none⟩ (.int .i64 x)) b 58 #[.string ⟨#[]⟩, .int .i64 x] := by
    simpa using (Row.stored h 0 (.string ⟨#[]⟩)).stored 1 (.int .i64 x)
  have K1 := Lib.hid k1
  clear k1 h
  go_enter Try.func35, Try.ntmps35
  go_wp2
  go_end0
  exact ⟨rfl, K1.out, gb_store (gb_store (gb_refl _ _) 0 _) 1 _⟩

theorem take_none {w : World} {b : Nat} {r : ByteArray} {e0 : Int} (h : Rd w b r e0) (h0 : r.size = 0) :
    Calls Try.prog 43 #[.pointer (some ⟨b, 0, none⟩)] w fun e w' => e = .returned (.tuple #[.int .u8 0, .bool false]) ∧ w = w' := by
  obtain rfl : r = ⟨#[]⟩ := ByteArray.ext (Array.eq_empty_of_size_eq_zero h0)
  have c0 : w.cell? ⟨b, 0, none⟩ = some (.string ⟨#[]⟩) := Row.at h 0
  clear h h0
  go_enter Try.func43, Try.ntmps43
  go_wp2
  go_ret2
  exact ⟨rfl, rfl⟩

theorem take_some {w : World} {b : Nat} {r : ByteArray} {e0 : Int} (h : Rd w b r e0) (h0 : 0 < r.size) (hm : r.size ≤ 281474976710656) :
    Calls Try.prog 43 #[.pointer (some ⟨b, 0, none⟩)] w fun e w' =>
      e = .returned (.tuple #[.int .u8 (r[0]'h0).toNat, .bool true]) ∧ Rd w' b (r.extract 1 r.size) e0 ∧ w.grownBy w' (some b) := by
  have c0 : w.cell? ⟨b, 0, none⟩ = some (.string r) := Row.at h 0
  have f0 := Row.free h 0
  have k1 : Row (w.setCell ⟨b, 0, none⟩ (.string (r.extract 1 r.size))) b 58 #[.string (r.extract 1 r.size), .int .i64 e0] := by
    simpa using Row.stored h 0 (.string (r.extract 1 r.size))
  have K1 := Lib.hid k1
  clear k1 h
  have hne : r.toList.isEmpty = false := by
    rw [List.isEmpty_eq_false_iff, Lib.toList_data]
    intro hh
    have := Lib.size_eq r
    rw [hh] at this
    simp only [List.length_nil] at this
    omega
  go_enter Try.func43, Try.ntmps43
  go_wp2
  go_ret2
  exact ⟨rfl, K1.out, gb_store (gb_refl _ _) 0 _⟩

/-- What End answers, by what is left and by the error. -/
def endOf (n : Nat) (e : Int) : Int := if e = 0 then (if n = 0 then 0 else 6) else e

end Go.Proofs.Ytlccbebociknaaa
