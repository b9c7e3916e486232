/- What was laid is read as it was: what the statement LebBack follows. -/
import Derived.Test.YtnjmdbgpabekaaaLays
import Derived.Deep.RegionHeld3
namespace Go.Proofs.Ytnjmdbgpabekaaa
open Go.RowKit

theorem text_back {W : World} {b : Nat} {txt : ByteArray} {rest : List UInt8} (h : RdL W b (Leb.enc txt.size ++ txt.data.toList ++ rest) 0) (hl : (Leb.enc txt.size ++ txt.data.toList ++ rest).length ≤ 281474976710656) :
    Calls Try.prog 14 #[.pointer (some ⟨b, 0, none⟩)] W fun e w' => e = .returned (.string txt) ∧ RdL w' b rest 0 ∧ W.grownBy w' (some b) := by
  have hsz : txt.data.toList.length = txt.size := (Lib.size_eq txt).symm
  have hlen : (Leb.enc txt.size ++ txt.data.toList ++ rest).length = (Leb.enc txt.size).length + txt.size + rest.length := by rw [List.length_append, List.length_append, hsz]
  have hf : Leb.first (Leb.enc txt.size ++ txt.data.toList ++ rest) = (txt.size, (Leb.enc txt.size).length, 0) := by
    rw [List.append_assoc]
    exact Leb.first_enc _ _ (by omega)
  have hd : (Leb.enc txt.size ++ txt.data.toList ++ rest).drop (Leb.enc txt.size).length = txt.data.toList ++ rest := by
    rw [List.append_assoc, List.drop_left]
  have hs : Leb.second (Leb.enc txt.size ++ txt.data.toList ++ rest) = (txt.data.toList, (Leb.enc txt.size).length + txt.size, 0) := by
    unfold Leb.second
    rw [hf]
    simp only [if_true]
    rw [if_neg (by omega), hd, ← hsz, List.take_left]
  have hd2 : (Leb.enc txt.size ++ txt.data.toList ++ rest).drop ((Leb.enc txt.size).length + txt.size) = rest := by
    rw [← List.drop_drop, hd, ← hsz, List.drop_left]
  have hst : stepT (Leb.enc txt.size ++ txt.data.toList ++ rest) 0 = (txt.data.toList, rest, 0) := by
    unfold stepT
    rw [hs]
    simp only [if_true]
    rw [hd2]
  refine (t_any h hl).mono ?_
  rw [hst]
  rintro e w' ⟨rfl, k1, k2⟩
  refine ⟨?_, k1, k2⟩
  rw [mk_of]

theorem num_back {W : World} {b n : Nat} {rest : List UInt8} (h : RdL W b (Leb.enc n ++ rest) 0) (hn : n < 9223372036854775808) (hl : (Leb.enc n ++ rest).length ≤ 281474976710656) :
    Calls Try.prog 15 #[.pointer (some ⟨b, 0, none⟩)] W fun e w' => e = .returned (.int .i64 n) ∧ RdL w' b rest 0 ∧ W.grownBy w' (some b) := by
  have hst : stepN (Leb.enc n ++ rest) 0 = (n, rest, 0) := by
    unfold stepN
    rw [Leb.first_enc n rest hn]
    simp
  refine (n_any h hl).mono ?_
  rw [hst]
  rintro e w' ⟨rfl, k1, k2⟩
  exact ⟨rfl, k1, k2⟩

theorem bytes_drop {fs : List Fl} {k : Nat} {f : Fl} (hf : fs[k]? = some f) : allBytes (fs.drop k) = f.bytes ++ allBytes (fs.drop (k + 1)) := by
  obtain ⟨hl, he⟩ := List.getElem?_eq_some_iff.1 hf
  rw [List.drop_eq_getElem_cons hl, he]
  simp [allBytes]

theorem bytes_drop_le (fs : List Fl) (k : Nat) : (allBytes (fs.drop k)).length ≤ (allBytes fs).length := by
  have : allBytes fs = allBytes (fs.take k) ++ allBytes (fs.drop k) := by
    unfold allBytes
    rw [← List.flatMap_append, List.take_append_drop]
  rw [this, List.length_append]
  omega

/-- What is laid well: no number is negative, and it is short. -/
theorem laid_well {fs : List Fl} {l : List UInt8} (h : layOf fs = (l, 0)) : l = allBytes fs ∧ (allBytes fs).length ≤ 65536 ∧ ∀ (i : Nat) (f : Fl), fs[i]? = some f → 0 ≤ f.head := by
  unfold layOf at h
  split at h
  · simp at h
  · split at h
    · simp at h
    · rename_i h1 h2
      simp only [Prod.mk.injEq, and_true] at h
      refine ⟨h.symm, by omega, fun i f hf => ?_⟩
      have h3 : ¬ fs.any (fun f => decide (f.head < 0)) = true := h1
      rcases Int.lt_or_le f.head 0 with hn | hn
      · exact absurd (List.any_eq_true.2 ⟨f, List.mem_of_getElem? hf, by simpa using hn⟩) h3
      · exact hn

/-- Either all is laid, or an error is told. -/
theorem lay_ways (fs : List Fl) : (layOf fs).2 = 0 ∨ ((layOf fs).2 ≠ 0 ∧ (layOf fs).1 = []) := by
  unfold layOf
  split
  · right; exact ⟨by decide, rfl⟩
  · split
    · right; exact ⟨by decide, rfl⟩
    · left; rfl

/-- One number, laid. -/
theorem lay_num (n : Nat) (hn : n < 9223372036854775808) (w : World) :
    Calls Try.prog 10 #[.slice (some ⟨w.heap.size, 0, none⟩) 1 1] (w.alloc (.cells #[.int .i64 n, .string ⟨#[]⟩, .bool false] 25)) fun e w' =>
      e = .returned (.tuple #[.string ⟨(Leb.enc n).toArray⟩, .int .i64 0]) ∧ Below w.heap.size w w' := by
  have hr := Row.made w 25 #[.int .i64 n, .string ⟨#[]⟩, .bool false]
  have h : FieldsAt (w.alloc (.cells #[.int .i64 n, .string ⟨#[]⟩, .bool false] 25)) w.heap.size 0 [⟨n, ⟨#[]⟩, false⟩] := by
    intro i f hf
    rw [hr.at, hr.at, hr.at]
    match i, hf with
    | 0, hf => simp at hf; subst hf; exact ⟨rfl, rfl, rfl⟩
    | (j + 1), hf => simp at hf
  have hfit : Fits [⟨n, ⟨#[]⟩, false⟩] := by
    intro i f hf
    match i, hf with
    | 0, hf =>
      simp at hf; subst hf
      refine ⟨?_, Nat.zero_le _⟩
      show (n : Int) < _
      omega
    | (j + 1), hf => simp at hf
  refine (lay_any (cap := 1) h (by simp) (by simp) hfit).mono ?_
  rintro e w' ⟨rfl, hb⟩
  have hab : allBytes [⟨(n : Int), ⟨#[]⟩, false⟩] = Leb.enc n := by
    show (Leb.enc n ++ []) ++ [] = _
    simp
  have he : layOf [⟨(n : Int), ⟨#[]⟩, false⟩] = (Leb.enc n, 0) := by
    have hl := (Leb.enc_len n).2
    unfold layOf
    rw [if_neg (by simp [Fl.head, numOf]), hab, if_neg (by omega)]
  rw [he]
  exact ⟨rfl, ((Below.refl _ _).alloc (Nat.le_refl _) _).trans (hb.mono (by simp))⟩

/-- The first number of s, or an error; where there is one, its bytes are the only ones. -/
theorem num_first (s : ByteArray) (hs : s.size ≤ 281474976710656) : ∃ (n : Nat) (x : Int) (r : List UInt8), n < 9223372036854775808 ∧
    (∀ (W : World) (b : Nat), RdL W b s.data.toList 0 → Calls Try.prog 15 #[.pointer (some ⟨b, 0, none⟩)] W fun e w' => e = .returned (.int .i64 n) ∧ RdL w' b r x ∧ W.grownBy w' (some b)) ∧
    (x ≠ 0 ∨ (x = 0 ∧ (Leb.enc n).length ≤ s.size ∧ s.extract 0 (Leb.enc n).length = ⟨(Leb.enc n).toArray⟩ ∧ (s.size : Int) - (r.length : Int) = ((Leb.enc n).length : Int))) := by
  have hff := Leb.first_fits s.data.toList
  by_cases he : (Leb.first s.data.toList).2.2 = 0
  · obtain ⟨n, k, x, hfe⟩ : ∃ n k x, Leb.first s.data.toList = (n, k, x) := ⟨_, _, _, rfl⟩
    rw [hfe] at he
    have hx : x = 0 := he
    subst hx
    obtain ⟨h1, h2, h3⟩ := Leb.first_only s.data.toList n k hfe
    have hks : (Leb.enc n).length ≤ s.size := by
      have := hff.2.1
      rw [hfe, ← Lib.size_eq] at this
      have : k ≤ s.size := this
      omega
    have hst : stepN s.data.toList 0 = (n, s.data.toList.drop k, 0) := by
      unfold stepN
      rw [hfe]
      simp
    refine ⟨n, 0, s.data.toList.drop k, h1, fun W b h => ?_, .inr ⟨rfl, hks, ?_, ?_⟩⟩
    · have hN := n_any h (by rw [← Lib.size_eq]; exact hs)
      rw [hst] at hN
      exact hN
    · refine bytes_ext ?_
      rw [Lib.extract_data, List.drop_zero, Nat.sub_zero, ← h2]
      exact h3
    · rw [List.length_drop, ← Lib.size_eq]
      omega
  · have hst : stepN s.data.toList 0 = (0, [], (Leb.first s.data.toList).2.2) := by simp [stepN, he]
    refine ⟨0, _, [], by omega, fun W b h => ?_, .inl he⟩
    have hN := n_any h (by rw [← Lib.size_eq]; exact hs)
    rw [hst] at hN
    exact hN

theorem err_len {W : World} {b : Nat} {l : List UInt8} {e0 : Int} (h : RdL W b l e0) : Calls Try.prog 16 #[.pointer (some ⟨b, 0, none⟩)] W fun e w' => e = .returned (.int .i64 e0) ∧ W = w' := err_any h

theorem RdL.stays {W W' : World} {b : Nat} {l : List UInt8} {e : Int} (h : RdL W b l e) (hb : Below W.heap.size W W') : RdL W' b l e := Row.below h hb (Row.inHeap h)

theorem left_len {W : World} {b : Nat} {l : List UInt8} {e0 : Int} (h : RdL W b l e0) : Calls Try.prog 17 #[.pointer (some ⟨b, 0, none⟩)] W fun e w' => e = .returned (.int .i64 (l.length : Int)) ∧ W = w' := by
  refine (left_any h).mono ?_
  rintro e w' ⟨rfl, rfl⟩
  rw [mk_size]
  exact ⟨rfl, rfl⟩
end Go.Proofs.Ytnjmdbgpabekaaa
