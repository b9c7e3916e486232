/- The document's own answer: Second. -/
import Derived.Test.YtlccbebociknaaaRef
import Derived.WalkSpells
namespace Go.Proofs.Ytlccbebociknaaa
open Go.RowKit

def SecondIs (t : List UInt8) (k : Nat) (x : Int) (w : World) (e : Ending) (w' : World) : Prop := e = .returned (.tuple #[.string ⟨t.toArray⟩, .int .i64 k, .int .i64 x]) ∧ w = w'

set_option maxRecDepth 100000 in
theorem ref_second (s : ByteArray) (w : World) (hs : s.size ≤ 281474976710656) :
    Calls Try.prog 26 #[.string s] w (SecondIs (Leb.second s.data.toList).1 (Leb.second s.data.toList).2.1 (Leb.second s.data.toList).2.2 w) := by
  have hfirst : Hid (∀ W, Calls Try.prog 37 #[.string s] W (TripleIs (Leb.first s.data.toList).1 (Leb.first s.data.toList).2.1 (Leb.first s.data.toList).2.2 W)) := fun W => ref_first s W hs
  have hff := Leb.first_fits s.data.toList
  rw [← Lib.size_eq] at hff
  obtain ⟨h1, h2, _, _⟩ := hff
  by_cases he : (Leb.first s.data.toList).2.2 = 0
  · by_cases hl : s.size - (Leb.first s.data.toList).2.1 < (Leb.first s.data.toList).1
    · have hfin : Hid (Leb.second s.data.toList = ([], 0, 5)) := by
        unfold Leb.second
        rw [if_pos he, if_pos (by rw [← Lib.size_eq]; exact hl)]; rfl
      have hb : decide ((s.size : Int) - ((Leb.first s.data.toList).2.1 : Int) < ((Leb.first s.data.toList).1 : Int)) = true := by simp; omega
      generalize (Leb.first s.data.toList).1 = n at *
      generalize (Leb.first s.data.toList).2.1 = k at *
      have hk : (k : Int) ≤ (s.size : Int) := by omega
      have Hf2 : Hid (∀ W, Calls Try.prog 37 #[.string s] W (TripleIs n k 0 W)) := by rw [← he]; exact hfirst
      clear hfirst he hl h1 h2
      go_enter Try.func26, Try.ntmps26
      go_wp2_with (go_at_call 37; refine (Hf2.out _).mono ?_; rintro e w' ⟨rfl, rfl⟩)
      go_ret3
      exact ⟨by rw [hfin.out]; rfl, rfl⟩
    · have hfin : Hid (Leb.second s.data.toList = ((s.data.toList.drop (Leb.first s.data.toList).2.1).take (Leb.first s.data.toList).1, (Leb.first s.data.toList).2.1 + (Leb.first s.data.toList).1, 0)) := by
        unfold Leb.second
        rw [if_pos he, if_neg (by rw [← Lib.size_eq]; exact hl)]; rfl
      have hb : decide ((s.size : Int) - ((Leb.first s.data.toList).2.1 : Int) < ((Leb.first s.data.toList).1 : Int)) = false := by simp; omega
      generalize (Leb.first s.data.toList).1 = n at *
      generalize (Leb.first s.data.toList).2.1 = k at *
      have hk : (k : Int) ≤ (s.size : Int) := by omega
      have hkn : k + n ≤ s.size := by omega
      have Hf2 : Hid (∀ W, Calls Try.prog 37 #[.string s] W (TripleIs n k 0 W)) := by rw [← he]; exact hfirst
      have hcut : Hid (s.extract k (k + n) = ⟨((s.data.toList.drop k).take n).toArray⟩) := bytes_ext (by rw [Lib.extract_data, Nat.add_sub_cancel_left])
      clear hfirst he hl h1 h2
      go_enter Try.func26, Try.ntmps26
      go_wp2_with (go_at_call 37; refine (Hf2.out _).mono ?_; rintro e w' ⟨rfl, rfl⟩)
      go_ret3
      exact ⟨by rw [hfin.out, ← hcut.out]; rfl, rfl⟩
  · have hfin : Hid (Leb.second s.data.toList = ([], 0, (Leb.first s.data.toList).2.2)) := by
      unfold Leb.second
      rw [if_neg he]; rfl
    have hb : ((Leb.first s.data.toList).2.2 != 0) = true := by simp [he]
    generalize (Leb.first s.data.toList).2.2 = x at *
    clear he h1 h2
    go_enter Try.func26, Try.ntmps26
    go_wp2_with (go_at_call 37; refine (hfirst.out _).mono ?_; rintro e w' ⟨rfl, rfl⟩)
    go_ret3
    exact ⟨by rw [hfin.out]; rfl, rfl⟩

end Go.Proofs.Ytlccbebociknaaa
