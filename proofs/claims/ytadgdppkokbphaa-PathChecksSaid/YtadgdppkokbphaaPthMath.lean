/- Paths of the document, as plain data. No program is spoken of. -/
import Derived.Test.YtadgdppkokbphaaBase
namespace Go.Proofs.Ytadgdppkokbphaa.Pth

abbrev Tx := List UInt8

/-- P7.2: does a prefix cover a text? -/
def Covers (p s : Tx) : Prop := p = [] ∨ p = s ∨ (p.length < s.length ∧ s.take p.length = p ∧ s[p.length]? = some 47)
instance (p s : Tx) : Decidable (Covers p s) := inferInstanceAs (Decidable (_ ∨ _))

set_option maxRecDepth 100000 in
theorem covers_refl (a : Tx) : Covers a a := Or.inr (Or.inl rfl)
set_option maxRecDepth 100000 in
theorem covers_nil (a : Tx) : Covers [] a := Or.inl rfl

set_option maxRecDepth 100000 in
theorem covers_len {a b : Tx} (h : Covers a b) : a.length ≤ b.length := by
  rcases h with h | h | h
  · rw [h]; exact Nat.zero_le _
  · rw [h]; exact Nat.le_refl _
  · omega

set_option maxRecDepth 100000 in
theorem covers_anti {a b : Tx} (h : Covers a b) (k : Covers b a) : a = b := by
  have h1 := covers_len h
  have h2 := covers_len k
  rcases h with h | h | h
  · rw [h] at h2
    have : b = [] := List.eq_nil_of_length_eq_zero (by simpa using h2)
    rw [h, this]
  · exact h
  · omega

set_option maxRecDepth 100000 in
theorem covers_trans {a b c : Tx} (h : Covers a b) (k : Covers b c) : Covers a c := by
  rcases h with h | h | ⟨h1, h2, h3⟩
  · exact Or.inl h
  · rw [h]; exact k
  · rcases k with k | k | ⟨k1, k2, k3⟩
    · rw [k] at h1; simp at h1
    · rw [← k]; exact Or.inr (Or.inr ⟨h1, h2, h3⟩)
    · refine Or.inr (Or.inr ⟨by omega, ?_, ?_⟩)
      · have e : c.take a.length = (c.take b.length).take a.length := by rw [List.take_take, Nat.min_eq_left (by omega)]
        rw [e, k2, h2]
      · have e : (c.take b.length)[a.length]? = c[a.length]? := by rw [List.getElem?_take, if_pos h1]
        rw [← e, k2]
        exact h3

def meet (a b : Tx) : Tx × Bool := if Covers a b then (b, true) else if Covers b a then (a, true) else ([], false)

/-- Ahead of the last / among the first n bytes. -/
def parentTo (a : Tx) : Nat → Tx
  | 0 => []
  | n + 1 => if a[n]? = some 47 then a.take n else parentTo a n
def parent (a : Tx) : Tx := parentTo a a.length

def okChar (c : UInt8) : Bool := (97 ≤ c.toNat && c.toNat ≤ 122) || (48 ≤ c.toNat && c.toNat ≤ 57) || c.toNat == 45 || c.toNat == 95 || c.toNat == 46
def dots (s : Tx) : Nat := s.countP fun c => c.toNat == 46

/-- Is a text a name? -/
def Name (s : Tx) : Prop := (∀ c ∈ s, okChar c = true) ∧ 1 ≤ s.length ∧ s.length ≤ 12 ∧ dots s < s.length
instance (s : Tx) : Decidable (Name s) := inferInstanceAs (Decidable (_ ∧ _))

/-- A text's parts between a /: those that are done, and the one at hand. -/
def splitA : Tx → Tx → List Tx
  | cur, [] => [cur]
  | cur, c :: s => if c.toNat = 47 then cur :: splitA [] s else splitA (cur ++ [c]) s
def split (s : Tx) : List Tx := splitA [] s

def Right (s : Tx) : Prop := (∀ n ∈ split s, Name n) ∧ s.length ≤ 40 ∧ (split s).length ≤ 6
instance (s : Tx) : Decidable (Right s) := inferInstanceAs (Decidable (_ ∧ _))

/-- Names, joined. -/
def join : List Tx → Tx
  | [] => []
  | [a] => a
  | a :: b :: l => a ++ 47 :: join (b :: l)

def Joins (l : List Tx) : Prop := l ≠ [] ∧ (∀ n ∈ l, Name n) ∧ Right (join l)
instance (l : List Tx) : Decidable (Joins l) := inferInstanceAs (Decidable (_ ∧ _))

set_option maxRecDepth 100000 in
theorem splitA_ne (cur s : Tx) : splitA cur s ≠ [] := by
  induction s generalizing cur with
  | nil => simp [splitA]
  | cons c s ih =>
    unfold splitA
    split
    · simp
    · exact ih _

set_option maxRecDepth 100000 in
/-- Parted and joined again: the text. -/
theorem join_splitA (s : Tx) : ∀ cur, join (splitA cur s) = cur ++ s := by
  induction s with
  | nil => intro cur; simp [splitA, join]
  | cons c s ih =>
    intro cur
    unfold splitA
    by_cases hc : c.toNat = 47
    · rw [if_pos hc]
      obtain ⟨b, l, e⟩ : ∃ b l, splitA [] s = b :: l := by
        cases h : splitA [] s with
        | nil => exact absurd h (splitA_ne _ _)
        | cons b l => exact ⟨b, l, rfl⟩
      have h2 := ih []
      rw [e] at h2 ⊢
      show cur ++ 47 :: join (b :: l) = _
      rw [h2, List.nil_append]
      have : c = 47 := by
        apply UInt8.toNat_inj.1
        exact hc
      rw [this]
    · rw [if_neg hc, ih]
      simp

set_option maxRecDepth 100000 in
theorem join_split (s : Tx) : join (split s) = s := by
  have := join_splitA s []
  simpa [split] using this

set_option maxRecDepth 100000 in
theorem joins_split {s : Tx} (h : Right s) : Joins (split s) := ⟨splitA_ne _ _, h.1, by rw [join_split]; exact h⟩
end Go.Proofs.Ytadgdppkokbphaa.Pth
