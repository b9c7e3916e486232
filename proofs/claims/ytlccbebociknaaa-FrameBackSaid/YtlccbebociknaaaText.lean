/- The reader's N and T, Over, and the copy of a text. -/
import Derived.Test.YtlccbebociknaaaNum
import Derived.Lib.BufferWrite
import Derived.Lib.UnsafeStr
import Derived.Laws.MakeOwn
namespace Go.Proofs.Ytlccbebociknaaa
open Go.RowKit

/-- The reader at block b, its bytes as a list. -/
def RdL (w : World) (b : Nat) (l : List UInt8) (e : Int) : Prop := Rd w b ⟨l.toArray⟩ e

theorem ba_of (r : ByteArray) : (⟨r.data.toList.toArray⟩ : ByteArray) = r := bytes_ext rfl
theorem rd_list {w : World} {b : Nat} {r : ByteArray} {e : Int} {l : List UInt8} (h : Rd w b r e) (hl : r.data.toList = l) : RdL w b l e := by
  subst hl
  unfold RdL
  rw [ba_of]
  exact h

/-- What N makes of bytes and an error: the number, the bytes left, the error. -/
def stepN (l : List UInt8) (e : Int) : Nat × List UInt8 × Int :=
  if e = 0 then (if (Leb.first l).2.2 = 0 then ((Leb.first l).1, l.drop (Leb.first l).2.1, 0) else (0, [], (Leb.first l).2.2)) else (0, l, e)

/-- What T makes of them: the text, the bytes left, the error. -/
def stepT (l : List UInt8) (e : Int) : List UInt8 × List UInt8 × Int :=
  if e = 0 then (if (Leb.second l).2.2 = 0 then ((Leb.second l).1, l.drop (Leb.second l).2.1, 0) else ([], [], (Leb.second l).2.2)) else ([], l, e)

theorem over_any (s : ByteArray) (w : World) :
    Calls Try.prog 21 #[.string s] w fun e w' => e = .returned (.pointer (some ⟨w.heap.size, 0, none⟩)) ∧ RdL w' w.heap.size s.data.toList 0 ∧ Below w.heap.size w w' := by
  have k := Lib.hid (Row.made w 58 #[.string s, .int .i64 0])
  go_enter Try.func21, Try.ntmps21
  go_wp2
  go_ret
  exact ⟨rfl, rd_list k.out rfl, (Below.refl _ _).alloc (Nat.le_refl _) _⟩

def NPost (w : World) (b : Nat) (n : Nat) (l : List UInt8) (e0 : Int) (e : Ending) (w' : World) : Prop :=
  e = .returned (.int .i64 n) ∧ RdL w' b l e0 ∧ w.grownBy w' (some b)

theorem n_any {w : World} {b : Nat} {l : List UInt8} {e0 : Int} (h : RdL w b l e0) (hm : l.length ≤ 281474976710656) :
    Calls Try.prog 34 #[.pointer (some ⟨b, 0, none⟩)] w (NPost w b (stepN l e0).1 (stepN l e0).2.1 (stepN l e0).2.2) := by
  by_cases he : e0 = 0
  · subst he
    have hz : ((0 : Int) != 0) = false := rfl
    have hnum : Calls Try.prog 42 #[.func (.func 43) #[.pointer (some ⟨b, 0, none⟩)] #[]] w (NumPost w b ⟨l.toArray⟩ 0) := number_any h (by rw [mk_size]; exact hm)
    have herr := err_any h
    have Herr := Lib.hid herr
    by_cases hf : (Leb.first l).2.2 = 0
    · have hs : stepN l 0 = ((Leb.first l).1, l.drop (Leb.first l).2.1, 0) := by simp [stepN, hf]
      have hnum2 : Calls Try.prog 42 #[.func (.func 43) #[.pointer (some ⟨b, 0, none⟩)] #[]] w
          fun e w' => e = .returned (.tuple #[.int .i64 (Leb.first l).1, .int .i64 0]) ∧ RdL w' b (l.drop (Leb.first l).2.1) 0 ∧ w.grownBy w' (some b) := by
        refine hnum.mono ?_
        rintro e w' ⟨j, rfl, h1, h2, h3⟩
        have hj : j = (Leb.first l).2.1 := h3 hf
        refine ⟨?_, rd_list h1 ?_, h2⟩
        · show Ending.returned (.tuple #[.int .i64 (Leb.first l).1, .int .i64 (Leb.first l).2.2]) = _
          rw [hf]
        · rw [cut_data, hj]
      rw [hs]
      have Hnum := Lib.hid hnum2
      generalize (Leb.first l).1 = n at *
      generalize l.drop (Leb.first l).2.1 = l1 at *
      clear hnum hnum2 hf hs h herr
      go_enter Try.func34, Try.ntmps34
      go_wp2_with (first
        | (go_at_call 23; refine (Herr.out).mono ?_; rintro e w' ⟨rfl, rfl⟩)
        | (go_at_call 42; refine (Hnum.out).mono ?_; rintro e w' ⟨rfl, h1, h2⟩))
      go_ret
      exact ⟨rfl, h1, h2⟩
    · have hs : stepN l 0 = (0, [], (Leb.first l).2.2) := by simp [stepN, hf]
      have hn0 : (Leb.first l).1 = 0 := by
        rcases (Leb.first_fits l).2.2.1 with h1 | h1
        · exact absurd h1 hf
        · exact h1.1
      have hnum2 : Calls Try.prog 42 #[.func (.func 43) #[.pointer (some ⟨b, 0, none⟩)] #[]] w
          fun e w' => e = .returned (.tuple #[.int .i64 0, .int .i64 (Leb.first l).2.2]) ∧ (∃ r, Rd w' b r 0) ∧ w.grownBy w' (some b) := by
        refine hnum.mono ?_
        rintro e w' ⟨j, rfl, h1, h2, _⟩
        refine ⟨?_, ⟨_, h1⟩, h2⟩
        show Ending.returned (.tuple #[.int .i64 (Leb.first l).1, .int .i64 (Leb.first l).2.2]) = _
        rw [hn0]; rfl
      rw [hs]
      have Hnum := Lib.hid hnum2
      have hne : ((Leb.first l).2.2 != 0) = true := by simp [hf]
      generalize (Leb.first l).2.2 = x at *
      clear hnum hnum2 hf hs h herr hn0
      go_enter Try.func34, Try.ntmps34
      go_wp2_with (first
        | (go_at_call 23; refine (Herr.out).mono ?_; rintro e w' ⟨rfl, rfl⟩)
        | (go_at_call 42; refine (Hnum.out).mono ?_; rintro e w' ⟨rfl, ⟨r1, h1⟩, h2⟩)
        | (go_at_call 35; refine (fail_any h1 _).mono ?_; rintro e w' ⟨rfl, h3, h4⟩))
      go_ret
      exact ⟨rfl, rd_list h3 rfl, gb_trans h2 h4⟩
  · have hs : stepN l e0 = (0, l, e0) := by simp [stepN, he]
    rw [hs]
    have hne : (e0 != 0) = true := by simp [he]
    clear he hs
    go_enter Try.func34, Try.ntmps34
    go_wp2_with (first | (go_at_call 23; refine (err_any h).mono ?_; rintro e w' ⟨rfl, rfl⟩))
    go_ret
    exact ⟨rfl, h, gb_refl _ _⟩

theorem n_nil (w : World) : Calls Try.prog 34 #[.pointer none] w fun e w' => e = .returned (.int .i64 0) ∧ w = w' := by
  go_enter Try.func34, Try.ntmps34
  go_wp2_with (first | (go_at_call 23; refine (err_nil _).mono ?_; rintro e w' ⟨rfl, rfl⟩))
  go_ret
  exact ⟨rfl, rfl⟩

theorem t_nil (w : World) : Calls Try.prog 22 #[.pointer none] w fun e w' => e = .returned (.string ⟨#[]⟩) ∧ w = w' := by
  go_enter Try.func22, Try.ntmps22
  go_wp2_with (first
    | (go_at_call 34; refine (n_nil _).mono ?_; rintro e w' ⟨rfl, rfl⟩)
    | (go_at_call 23; refine (err_nil _).mono ?_; rintro e w' ⟨rfl, rfl⟩))
  go_ret
  exact ⟨rfl, rfl⟩
end Go.Proofs.Ytlccbebociknaaa
