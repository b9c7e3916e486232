/- Second, and what must come at any rate: awake. -/
import Derived.Test.YtnjmdbgpabekaaaRef
import Derived.Test.YtnjmdbgpabekaaaCopy
namespace Go.Proofs.Ytnjmdbgpabekaaa
open Go.RowKit

def SecondIs (t : List UInt8) (k : Nat) (x : Int) (w : World) (e : Ending) (w' : World) : Prop := e = .returned (.tuple #[.string ⟨t.toArray⟩, .int .i64 k, .int .i64 x]) ∧ w = w'

set_option maxRecDepth 100000 in
theorem ref_second (s : ByteArray) (w : World) (hs : s.size ≤ 281474976710656) :
    Calls Try.prog 12 #[.string s] w (SecondIs (Leb.second s.data.toList).1 (Leb.second s.data.toList).2.1 (Leb.second s.data.toList).2.2 w) := by
  have hfirst : Hid (∀ W, Calls Try.prog 13 #[.string s] W (TripleIs (Leb.first s.data.toList).1 (Leb.first s.data.toList).2.1 (Leb.first s.data.toList).2.2 W)) := fun W => ref_first s W hs
  have hff := Leb.first_fits s.data.toList
  rw [← Lib.size_eq] at hff
  obtain ⟨h1, h2, _, _⟩ := hff
  by_cases he : (Leb.first s.data.toList).2.2 = 0
  · by_cases hl : s.size - (Leb.first s.data.toList).2.1 < (Leb.first s.data.toList).1
    · have hfin : Hid (Leb.second s.data.toList = ([], 0, 5)) := by
        unfold Leb.second
        rw [if_pos he, if_pos (by rw [← Lib.size_eq]; exact hl)]; rfl
      have hb : decide ((s.size : Int) - ((Leb.first s.data.toList).2.1 : Int) < ((Leb.first s.data.toList).1 : Int)) = true := by simp; omega
      generalize (Leb.first s.data.toList).1 = n at *
      generalize (Leb.first s.data.toList).2.1 = k at *
      have hk : (k : Int) ≤ (s.size : Int) := by omega
      have Hf2 : Hid (∀ W, Calls Try.prog 13 #[.string s] W (TripleIs n k 0 W)) := by rw [← he]; exact hfirst
      clear hfirst he hl h1 h2
      go_enter Try.func12, Try.ntmps12
      go_wp2_with (go_at_call 13; refine (Hf2.out _).mono ?_; rintro e w' ⟨rfl, rfl⟩)
      go_ret3
      exact ⟨by rw [hfin.out]; rfl, rfl⟩
    · have hfin : Hid (Leb.second s.data.toList = ((s.data.toList.drop (Leb.first s.data.toList).2.1).take (Leb.first s.data.toList).1, (Leb.first s.data.toList).2.1 + (Leb.first s.data.toList).1, 0)) := by
        unfold Leb.second
        rw [if_pos he, if_neg (by rw [← Lib.size_eq]; exact hl)]; rfl
      have hb : decide ((s.size : Int) - ((Leb.first s.data.toList).2.1 : Int) < ((Leb.first s.data.toList).1 : Int)) = false := by simp; omega
      generalize (Leb.first s.data.toList).1 = n at *
      generalize (Leb.first s.data.toList).2.1 = k at *
      have hk : (k : Int) ≤ (s.size : Int) := by omega
      have hkn : k + n ≤ s.size := by omega
      have Hf2 : Hid (∀ W, Calls Try.prog 13 #[.string s] W (TripleIs n k 0 W)) := by rw [← he]; exact hfirst
      have hcut : Hid (s.extract k (k + n) = ⟨((s.data.toList.drop k).take n).toArray⟩) := bytes_ext (by rw [Lib.extract_data, Nat.add_sub_cancel_left])
      clear hfirst he hl h1 h2
      go_enter Try.func12, Try.ntmps12
      go_wp2_with (go_at_call 13; refine (Hf2.out _).mono ?_; rintro e w' ⟨rfl, rfl⟩)
      go_ret3
      exact ⟨by rw [hfin.out, ← hcut.out]; rfl, rfl⟩
  · have hfin : Hid (Leb.second s.data.toList = ([], 0, (Leb.first s.data.toList).2.2)) := by
      unfold Leb.second
      rw [if_neg he]; rfl
    have hb : ((Leb.first s.data.toList).2.2 != 0) = true := by simp [he]
    generalize (Leb.first s.data.toList).2.2 = x at *
    clear he h1 h2
    go_enter Try.func12, Try.ntmps12
    go_wp2_with (go_at_call 13; refine (hfirst.out _).mono ?_; rintro e w' ⟨rfl, rfl⟩)
    go_ret3
    exact ⟨by rw [hfin.out]; rfl, rfl⟩

/-! ### awake -/
def two : List Fl := [⟨300, ⟨#[]⟩, false⟩, ⟨0, ⟨#[97]⟩, true⟩]
def twoCells : Array Value := #[.int .i64 300, .string ⟨#[]⟩, .bool false, .int .i64 0, .string ⟨#[97]⟩, .bool true]

theorem two_laid : layOf two = ([172, 2, 1, 97], 0) := by decide +kernel

theorem lay_two (w : World) : Calls Try.prog 10 #[.slice (some ⟨w.heap.size, 0, none⟩) 2 2] (w.alloc (.cells twoCells 25)) fun e w' =>
    e = .returned (.tuple #[.string ⟨#[172, 2, 1, 97]⟩, .int .i64 0]) ∧ Below w.heap.size w w' := by
  have hr := Row.made w 25 twoCells
  have h : FieldsAt (w.alloc (.cells twoCells 25)) w.heap.size 0 two := by
    intro i f hf
    rw [hr.at, hr.at, hr.at]
    match i, hf with
    | 0, hf => simp [two] at hf; subst hf; exact ⟨rfl, rfl, rfl⟩
    | 1, hf => simp [two] at hf; subst hf; exact ⟨rfl, rfl, rfl⟩
    | (j + 2), hf => simp [two] at hf
  have hfit : Fits two := by
    intro i f hf
    match i, hf with
    | 0, hf => simp [two] at hf; subst hf; exact ⟨by decide, by decide⟩
    | 1, hf => simp [two] at hf; subst hf; exact ⟨by decide, by decide⟩
    | (j + 2), hf => simp [two] at hf
  refine (lay_any (cap := 2) h (by simp) (by decide) hfit).mono ?_
  rintro e w' ⟨rfl, hb⟩
  rw [two_laid]
  exact ⟨rfl, ((Below.refl _ _).alloc (Nat.le_refl _) _).trans (hb.mono (by simp))⟩

theorem n_300 {w : World} {b : Nat} (h : RdL w b [172, 2, 1, 97] 0) : Calls Try.prog 15 #[.pointer (some ⟨b, 0, none⟩)] w fun e w' => e = .returned (.int .i64 300) ∧ RdL w' b [1, 97] 0 ∧ w.grownBy w' (some b) := by
  have hs : stepN [172, 2, 1, 97] 0 = (300, [1, 97], 0) := by decide +kernel
  have := n_any h (by decide)
  rw [hs] at this
  exact this

theorem t_one {w : World} {b : Nat} (h : RdL w b [1, 97] 0) : Calls Try.prog 14 #[.pointer (some ⟨b, 0, none⟩)] w fun e w' => e = .returned (.string ⟨#[97]⟩) ∧ RdL w' b [] 0 ∧ w.grownBy w' (some b) := by
  have hs : stepT [1, 97] 0 = ([97], [], 0) := by decide +kernel
  have := t_any h (by decide)
  rw [hs] at this
  exact this

theorem end_of {w : World} {b : Nat} {l : List UInt8} {e0 : Int} (h : RdL w b l e0) (hm : l.length ≤ 281474976710656) : Calls Try.prog 18 #[.pointer (some ⟨b, 0, none⟩)] w fun e w' => e = .returned (.int .i64 (endOf l.length e0)) ∧ w = w' := by
  have := end_any h (by rw [mk_size]; exact hm)
  rw [mk_size] at this
  exact this

set_option maxRecDepth 100000 in
set_option maxHeartbeats 1600000 in
theorem awake_any (w : World) : Calls Try.prog 7 #[] w fun e w' => e = .returned (.bool true) ∧ Below w.heap.size w w' := by
  have hlay := fun W => lay_two W
  unfold twoCells at hlay
  have Hlay := Lib.hid hlay
  clear hlay
  go_enter Try.func7, Try.ntmps7
  go_wp2_with (first
    | (go_at_call 19; refine (field_n _ _).mono ?_; rintro e w1 ⟨rfl, hb1⟩)
    | (go_at_call 20; refine (field_t _ _).mono ?_; rintro e w2 ⟨rfl, hb2⟩)
    | (go_at_call 10; refine (Hlay.out _).mono ?_; rintro e w3 ⟨rfl, hb3⟩)
    | (go_at_call 11; refine (over_any _ _).mono ?_; rintro e w4 ⟨rfl, hr4, hb4⟩)
    | (go_at_call 15; refine (n_300 hr4).mono ?_; rintro e w5 ⟨rfl, hr5, hb5⟩)
    | (go_at_call 14; refine (t_one hr5).mono ?_; rintro e w6 ⟨rfl, hr6, hb6⟩)
    | (go_at_call 18; refine (end_of hr6 (by decide)).mono ?_; rintro e w7 ⟨rfl, rfl⟩))
  go_ret
  have z1 := hb1.size
  have z2 := hb2.size
  have z3 := hb3.size
  have z4 := hb4.size
  have z5 := hb5.size
  exact ⟨rfl, ((((hb1.trans (hb2.mono z1)).trans (hb3.mono (by omega))).trans (hb4.mono (by omega))).trans (below_gb hb5 (by omega) (by omega))).trans (below_gb hb6 (by omega) (by omega))⟩
end Go.Proofs.Ytnjmdbgpabekaaa
