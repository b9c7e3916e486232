/- The reader's state as the statement LebReads follows it. -/
import Derived.Test.YtnjmdbgpabekaaaOpen
import Derived.Test.YtnjmdbgpabekaaaAwake
namespace Go.Proofs.Ytnjmdbgpabekaaa
open Go.RowKit

/-- The reader at block b is at byte a of s, with the error e. -/
def At (W : World) (b : Nat) (s : ByteArray) (a : Nat) (e : Int) : Prop := a ≤ s.size ∧ RdL W b (if e = 0 then s.data.toList.drop a else []) e

theorem At.below {W W' : World} {b a : Nat} {s : ByteArray} {e : Int} (h : At W b s a e) (hb : Below W.heap.size W W') : At W' b s a e := ⟨h.1, Row.below h.2 hb (Row.inHeap h.2)⟩

theorem err_at {W : World} {b a : Nat} {s : ByteArray} {e0 : Int} (h : At W b s a e0) : Calls Try.prog 16 #[.pointer (some ⟨b, 0, none⟩)] W fun e w' => e = .returned (.int .i64 e0) ∧ W = w' := err_any h.2

theorem left_at {W : World} {b a : Nat} {s : ByteArray} (h : At W b s a 0) : Calls Try.prog 17 #[.pointer (some ⟨b, 0, none⟩)] W fun e w' => e = .returned (.int .i64 ((s.size : Int) - (a : Int))) ∧ W = w' := by
  obtain ⟨h1, h2⟩ := h
  rw [if_pos rfl] at h2
  refine (left_any h2).mono ?_
  rintro e w' ⟨rfl, rfl⟩
  refine ⟨?_, rfl⟩
  rw [mk_size, List.length_drop, ← Lib.size_eq, show ((s.size - a : Nat) : Int) = (s.size : Int) - (a : Int) from by omega]

theorem left_bad {W : World} {b a : Nat} {s : ByteArray} {e0 : Int} (h : At W b s a e0) (he : e0 ≠ 0) : Calls Try.prog 17 #[.pointer (some ⟨b, 0, none⟩)] W fun e w' => e = .returned (.int .i64 0) ∧ W = w' := by
  obtain ⟨h1, h2⟩ := h
  rw [if_neg he] at h2
  exact left_any h2

theorem end_at {W : World} {b a : Nat} {s : ByteArray} {e0 : Int} (h : At W b s a e0) (hs : s.size ≤ 281474976710656) :
    Calls Try.prog 18 #[.pointer (some ⟨b, 0, none⟩)] W fun e w' => e = .returned (.int .i64 (if e0 = 0 then (if a < s.size then 6 else 0) else e0)) ∧ W = w' := by
  obtain ⟨h1, h2⟩ := h
  by_cases he : e0 = 0
  · rw [if_pos he] at h2
    have := end_of h2 (by rw [List.length_drop, ← Lib.size_eq]; omega)
    refine this.mono ?_
    rintro e w' ⟨rfl, rfl⟩
    refine ⟨?_, rfl⟩
    unfold endOf
    rw [if_pos he, if_pos he, List.length_drop, ← Lib.size_eq]
    by_cases ha : a < s.size
    · rw [if_pos ha, if_neg (by omega)]
    · rw [if_neg ha, if_pos (by omega)]
  · rw [if_neg he] at h2
    have := end_of h2 (by simp)
    refine this.mono ?_
    rintro e w' ⟨rfl, rfl⟩
    refine ⟨?_, rfl⟩
    unfold endOf
    rw [if_neg he, if_neg he]

/-- A text is read as the document says: the text, how far, the error. -/
theorem text_at {W : World} {b a : Nat} {s : ByteArray} (h : At W b s a 0) (hs : s.size ≤ 281474976710656) : ∃ (t : ByteArray) (k : Nat) (x : Int), a + k ≤ s.size ∧
    (∀ V, Calls Try.prog 12 #[.string (s.extract a s.size)] V fun e w' => e = .returned (.tuple #[.string t, .int .i64 k, .int .i64 x]) ∧ V = w') ∧
    Calls Try.prog 14 #[.pointer (some ⟨b, 0, none⟩)] W fun e w' => e = .returned (.string t) ∧ At w' b s (a + k) x ∧ W.grownBy w' (some b) := by
  obtain ⟨h1, h2⟩ := h
  rw [if_pos rfl] at h2
  have hl : (s.data.toList.drop a).length = s.size - a := by rw [List.length_drop, ← Lib.size_eq]
  have hsec : ∀ V, Calls Try.prog 12 #[.string (s.extract a s.size)] V (SecondIs (Leb.second (s.data.toList.drop a)).1 (Leb.second (s.data.toList.drop a)).2.1 (Leb.second (s.data.toList.drop a)).2.2 V) := fun V => by
    have := ref_second (s.extract a s.size) V (by rw [Lib.size_eq, cut_data, hl]; omega)
    rw [cut_data] at this
    exact this
  have hT := t_any h2 (by rw [hl]; omega)
  have hk : a + (Leb.second (s.data.toList.drop a)).2.1 ≤ s.size := by
    have hf := (Leb.first_fits (s.data.toList.drop a)).2.1
    rw [hl] at hf
    unfold Leb.second
    split
    · split
      · simpa using h1
      · rename_i hh
        rw [hl] at hh
        simp only
        omega
    · simpa using h1
  refine ⟨⟨(Leb.second (s.data.toList.drop a)).1.toArray⟩, _, _, hk, hsec, hT.mono ?_⟩
  rintro e w' ⟨rfl, k1, k2⟩
  by_cases he : (Leb.second (s.data.toList.drop a)).2.2 = 0
  · have hst : stepT (s.data.toList.drop a) 0 = ((Leb.second (s.data.toList.drop a)).1, (s.data.toList.drop a).drop (Leb.second (s.data.toList.drop a)).2.1, 0) := by simp [stepT, he]
    rw [hst] at k1 ⊢
    refine ⟨rfl, ⟨hk, ?_⟩, k2⟩
    rw [he, if_pos rfl, ← List.drop_drop]
    exact k1
  · have hst : stepT (s.data.toList.drop a) 0 = ([], [], (Leb.second (s.data.toList.drop a)).2.2) := by simp [stepT, he]
    have ht : (Leb.second (s.data.toList.drop a)).1 = [] := by
      unfold Leb.second at he ⊢
      split
      · split
        · rfl
        · rename_i h3 h4
          rw [if_pos h3, if_neg h4] at he
          exact absurd rfl he
      · rfl
    rw [hst] at k1 ⊢
    refine ⟨by rw [ht], ⟨hk, ?_⟩, k2⟩
    rw [if_neg he]
    exact k1

/-- A number is read as the document says. -/
theorem num_at {W : World} {b a : Nat} {s : ByteArray} (h : At W b s a 0) (hs : s.size ≤ 281474976710656) : ∃ (n k : Nat) (x : Int), a + k ≤ s.size ∧
    (∀ V, Calls Try.prog 13 #[.string (s.extract a s.size)] V fun e w' => e = .returned (.tuple #[.int .i64 n, .int .i64 k, .int .i64 x]) ∧ V = w') ∧
    Calls Try.prog 15 #[.pointer (some ⟨b, 0, none⟩)] W fun e w' => e = .returned (.int .i64 n) ∧ At w' b s (a + k) x ∧ W.grownBy w' (some b) := by
  obtain ⟨h1, h2⟩ := h
  rw [if_pos rfl] at h2
  have hl : (s.data.toList.drop a).length = s.size - a := by rw [List.length_drop, ← Lib.size_eq]
  have hfst : ∀ V, Calls Try.prog 13 #[.string (s.extract a s.size)] V (TripleIs (Leb.first (s.data.toList.drop a)).1 (Leb.first (s.data.toList.drop a)).2.1 (Leb.first (s.data.toList.drop a)).2.2 V) := fun V => by
    have := ref_first (s.extract a s.size) V (by rw [Lib.size_eq, cut_data, hl]; omega)
    rw [cut_data] at this
    exact this
  have hN := n_any h2 (by rw [hl]; omega)
  have hff := Leb.first_fits (s.data.toList.drop a)
  have hk : a + (Leb.first (s.data.toList.drop a)).2.1 ≤ s.size := by
    have := hff.2.1
    rw [hl] at this
    omega
  refine ⟨(Leb.first (s.data.toList.drop a)).1, _, _, hk, hfst, hN.mono ?_⟩
  rintro e w' ⟨rfl, k1, k2⟩
  by_cases he : (Leb.first (s.data.toList.drop a)).2.2 = 0
  · have hst : stepN (s.data.toList.drop a) 0 = ((Leb.first (s.data.toList.drop a)).1, (s.data.toList.drop a).drop (Leb.first (s.data.toList.drop a)).2.1, 0) := by simp [stepN, he]
    rw [hst] at k1 ⊢
    refine ⟨rfl, ⟨hk, ?_⟩, k2⟩
    rw [he, if_pos rfl, ← List.drop_drop]
    exact k1
  · have hst : stepN (s.data.toList.drop a) 0 = (0, [], (Leb.first (s.data.toList.drop a)).2.2) := by simp [stepN, he]
    have ht : (Leb.first (s.data.toList.drop a)).1 = 0 := by
      rcases hff.2.2.1 with h3 | h3
      · exact absurd h3 he
      · exact h3.1
    rw [hst] at k1 ⊢
    refine ⟨by rw [ht], ⟨hk, ?_⟩, k2⟩
    rw [if_neg he]
    exact k1

/-- Behind an error nothing is read. -/
theorem text_bad {W : World} {b a : Nat} {s : ByteArray} {e0 : Int} (h : At W b s a e0) (he : e0 ≠ 0) :
    Calls Try.prog 14 #[.pointer (some ⟨b, 0, none⟩)] W fun e w' => e = .returned (.string ⟨#[]⟩) ∧ At w' b s a e0 ∧ W.grownBy w' (some b) := by
  obtain ⟨h1, h2⟩ := h
  rw [if_neg he] at h2
  refine (t_any h2 (by simp)).mono ?_
  have hst : stepT [] e0 = ([], [], e0) := by simp [stepT, he]
  rw [hst]
  rintro e w' ⟨rfl, k1, k2⟩
  exact ⟨rfl, ⟨h1, by rw [if_neg he]; exact k1⟩, k2⟩

theorem num_bad {W : World} {b a : Nat} {s : ByteArray} {e0 : Int} (h : At W b s a e0) (he : e0 ≠ 0) :
    Calls Try.prog 15 #[.pointer (some ⟨b, 0, none⟩)] W fun e w' => e = .returned (.int .i64 0) ∧ At w' b s a e0 ∧ W.grownBy w' (some b) := by
  obtain ⟨h1, h2⟩ := h
  rw [if_neg he] at h2
  refine (n_any h2 (by simp)).mono ?_
  have hst : stepN [] e0 = (0, [], e0) := by simp [stepN, he]
  rw [hst]
  rintro e w' ⟨rfl, k1, k2⟩
  exact ⟨rfl, ⟨h1, by rw [if_neg he]; exact k1⟩, k2⟩
end Go.Proofs.Ytnjmdbgpabekaaa
