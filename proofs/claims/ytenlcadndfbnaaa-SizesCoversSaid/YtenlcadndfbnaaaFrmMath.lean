/- Records with their sums: lists of bytes alone. -/
import Derived.Test.YtenlcadndfbnaaaCrcFour
import Derived.Test.YtenlcadndfbnaaaMath
namespace Go.Proofs.Ytenlcadndfbnaaa.Frm

def sumOf (t : List UInt8) : List UInt8 := fourOf (Crc.sum t).toNat

set_option maxRecDepth 100000 in
theorem sumOf_len (t : List UInt8) : (sumOf t).length = 4 := rfl

/-- A record, as it stands. -/
def one (t : List UInt8) : List UInt8 := Leb.enc t.length ++ t ++ sumOf t

def all (l : List (List UInt8)) : List UInt8 := l.flatMap one

set_option maxRecDepth 100000 in
theorem one_len (t : List UInt8) : (one t).length = (Leb.enc t.length).length + t.length + 4 := by
  unfold one
  rw [List.length_append, List.length_append, sumOf_len]

set_option maxRecDepth 100000 in
theorem all_cons (t : List UInt8) (l : List (List UInt8)) : all (t :: l) = one t ++ all l := rfl
set_option maxRecDepth 100000 in
theorem all_snoc (l : List (List UInt8)) (t : List UInt8) : all (l ++ [t]) = all l ++ one t := by simp [all]

/-- The record that bytes begin with. -/
def first (s : List UInt8) : List UInt8 × Nat × Int :=
  if (Leb.second s).2.2 = 0 then
    if s.length - (Leb.second s).2.1 < 4 then ([], 0, 5)
    else if (s.drop (Leb.second s).2.1).take 4 = sumOf (Leb.second s).1 then ((Leb.second s).1, (Leb.second s).2.1 + 4, 0) else ([], 0, 7)
  else ([], 0, (Leb.second s).2.2)

def readF : Nat → List UInt8 → List (List UInt8) × Int
  | 0, s => if s = [] then ([], 0) else ([], 5)
  | f + 1, s =>
    if s = [] then ([], 0)
    else if (first s).2.2 = 0 then
      if (readF f (s.drop (first s).2.1)).2 = 0 then ((first s).1 :: (readF f (s.drop (first s).2.1)).1, 0) else ([], (readF f (s.drop (first s).2.1)).2)
    else ([], (first s).2.2)

/-- All records. -/
def read (s : List UInt8) : List (List UInt8) × Int := readF s.length s

set_option maxRecDepth 100000 in
theorem second_enc (t r : List UInt8) (h : t.length < 9223372036854775808) : Leb.second (Leb.enc t.length ++ t ++ r) = (t, (Leb.enc t.length).length + t.length, 0) := by
  have h1 := Leb.first_enc t.length (t ++ r) h
  rw [← List.append_assoc] at h1
  unfold Leb.second
  rw [h1]
  simp only [if_true]
  rw [if_neg (by simp)]
  congr 1
  rw [List.append_assoc, List.drop_left, List.take_left]

set_option maxRecDepth 100000 in
theorem first_one (t r : List UInt8) (h : t.length < 9223372036854775808) : first (one t ++ r) = (t, (one t).length, 0) := by
  have h2 : Leb.second (one t ++ r) = (t, (Leb.enc t.length).length + t.length, 0) := by
    unfold one
    rw [List.append_assoc (Leb.enc t.length ++ t)]
    exact second_enc t (sumOf t ++ r) h
  unfold first
  rw [h2]
  simp only [if_true]
  rw [if_neg (by rw [List.length_append, one_len]; omega)]
  have h3 : ((one t ++ r).drop ((Leb.enc t.length).length + t.length)).take 4 = sumOf t := by
    have e : one t ++ r = (Leb.enc t.length ++ t) ++ (sumOf t ++ r) := by unfold one; simp
    rw [e, ← List.length_append, List.drop_left, ← sumOf_len t, List.take_left]
  rw [if_pos h3, one_len]

set_option maxRecDepth 100000 in
theorem second_only (s t : List UInt8) (k : Nat) (h : Leb.second s = (t, k, 0)) : t.length < 9223372036854775808 ∧ k = (Leb.enc t.length).length + t.length ∧ s.take k = Leb.enc t.length ++ t ∧ k ≤ s.length := by
  unfold Leb.second at h
  by_cases he : (Leb.first s).2.2 = 0
  · rw [if_pos he] at h
    by_cases hl : s.length - (Leb.first s).2.1 < (Leb.first s).1
    · rw [if_pos hl] at h
      simp at h
    · rw [if_neg hl] at h
      simp only [Prod.mk.injEq] at h
      obtain ⟨h1, h2, _⟩ := h
      have hf := Leb.first_fits s
      obtain ⟨g1, g2, g3⟩ := Leb.first_only s (Leb.first s).1 (Leb.first s).2.1 (by rw [← he])
      have hkl := hf.2.1
      have hlen : t.length = (Leb.first s).1 := by
        rw [← h1, List.length_take, List.length_drop]
        omega
      refine ⟨by rw [hlen]; exact g1, by rw [← h2, hlen, ← g2], ?_, by omega⟩
      rw [← h2, List.take_add, g3, hlen, ← h1]
  · rw [if_neg he] at h
    simp only [Prod.mk.injEq] at h
    exact absurd h.2.2 he

set_option maxRecDepth 100000 in
theorem first_only (s t : List UInt8) (n : Nat) (h : first s = (t, n, 0)) : t.length < 9223372036854775808 ∧ n = (one t).length ∧ s = one t ++ s.drop n ∧ 5 ≤ n := by
  unfold first at h
  by_cases he : (Leb.second s).2.2 = 0
  · rw [if_pos he] at h
    by_cases hl : s.length - (Leb.second s).2.1 < 4
    · rw [if_pos hl] at h; simp at h
    · rw [if_neg hl] at h
      by_cases hs : (s.drop (Leb.second s).2.1).take 4 = sumOf (Leb.second s).1
      · rw [if_pos hs] at h
        simp only [Prod.mk.injEq, and_true] at h
        obtain ⟨h1, h2⟩ := h
        obtain ⟨g1, g2, g3, g4⟩ := second_only s (Leb.second s).1 (Leb.second s).2.1 (by rw [← he])
        rw [h1] at g1 g2 g3 hs
        have hn : n = (one t).length := by rw [one_len, ← g2]; exact h2.symm
        refine ⟨g1, hn, ?_, by have := (Leb.enc_len t.length).1; rw [hn, one_len]; omega⟩
        have e : s.take n = one t := by
          rw [← h2, List.take_add, g3, hs]
          rfl
        rw [← e, List.take_append_drop]
      · rw [if_neg hs] at h; simp at h
  · rw [if_neg he] at h
    simp only [Prod.mk.injEq] at h
    exact absurd h.2.2 he

set_option maxRecDepth 100000 in
theorem one_pos (t : List UInt8) : 5 ≤ (one t).length := by
  have := (Leb.enc_len t.length).1
  rw [one_len]; omega

set_option maxRecDepth 100000 in
theorem readF_all : ∀ (l : List (List UInt8)) (f : Nat), (∀ t ∈ l, t.length < 9223372036854775808) → (all l).length ≤ f → readF f (all l) = (l, 0)
  | [], f, _, _ => by cases f <;> rfl
  | t :: l, f, h, hf => by
    have hp := one_pos t
    rw [all_cons, List.length_append] at hf
    match f, hf with
    | 0, hf => omega
    | f + 1, hf =>
      have h1 := first_one t (all l) (h t (by simp))
      have hne : one t ++ all l ≠ [] := fun e => by
        have := congrArg List.length e
        rw [List.length_append] at this
        simp at this
        rw [this.1] at hp
        simp at hp
      rw [all_cons, readF, if_neg hne, h1]
      simp only [if_true]
      rw [List.drop_left, readF_all l f (fun x hx => h x (by simp [hx])) (by omega)]
      simp

set_option maxRecDepth 100000 in
theorem read_all (l : List (List UInt8)) (h : ∀ t ∈ l, t.length < 9223372036854775808) : read (all l) = (l, 0) := readF_all l _ h (Nat.le_refl _)

set_option maxRecDepth 100000 in
theorem readF_only : ∀ (f : Nat) (s : List UInt8) (l : List (List UInt8)), readF f s = (l, 0) → all l = s
  | 0, s, l, h => by
    unfold readF at h
    by_cases e : s = []
    · rw [if_pos e] at h
      simp at h
      rw [h, e]; rfl
    · rw [if_neg e] at h; simp at h
  | f + 1, s, l, h => by
    unfold readF at h
    by_cases e : s = []
    · rw [if_pos e] at h
      simp at h
      rw [h, e]; rfl
    · rw [if_neg e] at h
      by_cases he : (first s).2.2 = 0
      · rw [if_pos he] at h
        by_cases hr : (readF f (s.drop (first s).2.1)).2 = 0
        · rw [if_pos hr] at h
          simp only [Prod.mk.injEq, and_true] at h
          obtain ⟨g1, g2, g3, g4⟩ := first_only s (first s).1 (first s).2.1 (by rw [← he])
          have ih := readF_only f (s.drop (first s).2.1) _ (by rw [← hr])
          rw [← h, all_cons, ih]
          exact g3.symm
        · rw [if_neg hr] at h
          simp only [Prod.mk.injEq] at h
          exact absurd h.2 hr
      · rw [if_neg he] at h
        simp only [Prod.mk.injEq] at h
        exact absurd h.2 he

set_option maxRecDepth 100000 in
theorem read_only (s : List UInt8) (l : List (List UInt8)) (h : read s = (l, 0)) : all l = s := readF_only _ _ _ h

set_option maxRecDepth 100000 in
/-- What is left of bytes does not hang on the steps allowed. -/
theorem readF_enough : ∀ (f g : Nat) (s : List UInt8), s.length ≤ f → s.length ≤ g → readF f s = readF g s
  | 0, g, s, hf, _ => by
    have : s = [] := List.eq_nil_of_length_eq_zero (by omega)
    subst this
    cases g <;> rfl
  | f + 1, 0, s, _, hg => by
    have : s = [] := List.eq_nil_of_length_eq_zero (by omega)
    subst this
    rfl
  | f + 1, g + 1, s, hf, hg => by
    unfold readF
    by_cases e : s = []
    · rw [if_pos e, if_pos e]
    · rw [if_neg e, if_neg e]
      by_cases he : (first s).2.2 = 0
      · have hn := (first_only s (first s).1 (first s).2.1 (by rw [← he])).2.2.2
        have hs : 0 < s.length := List.length_pos_iff.2 e
        have ih := readF_enough f g (s.drop (first s).2.1) (by rw [List.length_drop]; omega) (by rw [List.length_drop]; omega)
        rw [if_pos he, if_pos he, ih]
      · rw [if_neg he, if_neg he]

set_option maxRecDepth 100000 in
theorem read_step (s : List UInt8) (h : s ≠ []) : read s = if (first s).2.2 = 0 then (if (read (s.drop (first s).2.1)).2 = 0 then ((first s).1 :: (read (s.drop (first s).2.1)).1, 0) else ([], (read (s.drop (first s).2.1)).2)) else ([], (first s).2.2) := by
  have hs : 0 < s.length := List.length_pos_iff.2 h
  unfold read
  obtain ⟨f, hf⟩ : ∃ f, s.length = f + 1 := ⟨s.length - 1, by omega⟩
  rw [hf, readF, if_neg h]
  by_cases he : (first s).2.2 = 0
  · have hn := (first_only s (first s).1 (first s).2.1 (by rw [← he])).2.2.2
    rw [if_pos he, if_pos he, readF_enough f (s.drop (first s).2.1).length (s.drop (first s).2.1) (by rw [List.length_drop]; omega) (Nat.le_refl _)]
  · rw [if_neg he, if_neg he]

set_option maxRecDepth 100000 in
/-- A wrong end leaves no records. -/
theorem read_none (s : List UInt8) (h : (read s).2 ≠ 0) : (read s).1 = [] := by
  unfold read at h ⊢
  generalize s.length = f at *
  cases f with
  | zero =>
    unfold readF at h ⊢
    split <;> rfl
  | succ f =>
    unfold readF at h ⊢
    split
    · rfl
    · split
      · split
        · rename_i h1 h2 h3
          rw [if_neg h1, if_pos h2, if_pos h3] at h
          exact absurd rfl h
        · rfl
      · rfl
end Go.Proofs.Ytenlcadndfbnaaa.Frm
