/- Paths as plain data, further: how many names and bytes there may be, counted name by name; what stands ahead of a /. No program is spoken of. -/
import Derived.Test.YtadgdppkokbphaaPthMath
import Derived.Lib.Bytealg
import Derived.Lib.Join
import Derived.Lib.LastIndexByte
import Derived.Lib.Strings
namespace Go.Proofs.Ytadgdppkokbphaa.Pth

/-- Each text with a / behind it. -/
def lens : List Tx → Nat
  | [] => 0
  | t :: l => t.length + 1 + lens l

set_option maxRecDepth 100000 in
theorem lens_append (a b : List Tx) : lens (a ++ b) = lens a + lens b := by
  induction a with
  | nil => simp [lens]
  | cons t a ih => simp only [List.cons_append, lens, ih]; omega

set_option maxRecDepth 100000 in
theorem lens_splitA (s : Tx) : ∀ cur, lens (splitA cur s) = cur.length + s.length + 1 := by
  induction s with
  | nil => intro cur; simp [splitA, lens]
  | cons c s ih =>
    intro cur
    unfold splitA
    split
    · simp only [lens, ih, List.length_nil, List.length_cons]; omega
    · rw [ih]; simp only [List.length_append, List.length_cons, List.length_nil]; omega

set_option maxRecDepth 100000 in
theorem splitA_step (cur : Tx) (c : UInt8) (s : Tx) : splitA cur (c :: s) = if c.toNat = 47 then cur :: splitA [] s else splitA (cur ++ [c]) s := by rw [splitA]

set_option maxRecDepth 100000 in
theorem splitA_no {s : Tx} (h : ∀ c ∈ s, c.toNat ≠ 47) : ∀ cur, splitA cur s = [cur ++ s] := by
  induction s with
  | nil => intro cur; simp [splitA]
  | cons c s ih =>
    intro cur
    unfold splitA
    rw [if_neg (h c (List.mem_cons_self ..)), ih (fun x hx => h x (List.mem_cons_of_mem _ hx))]
    simp

set_option maxRecDepth 100000 in
theorem splitA_at {a : Tx} (h : ∀ c ∈ a, c.toNat ≠ 47) (b : Tx) : ∀ cur, splitA cur (a ++ 47 :: b) = (cur ++ a) :: splitA [] b := by
  induction a with
  | nil =>
    intro cur
    show splitA cur (47 :: b) = _
    rw [splitA_step, if_pos (by decide)]; simp
  | cons c a ih =>
    intro cur
    show splitA cur (c :: (a ++ 47 :: b)) = _
    rw [splitA_step, if_neg (h c (List.mem_cons_self ..)), ih (fun x hx => h x (List.mem_cons_of_mem _ hx))]
    simp

set_option maxRecDepth 100000 in
theorem name_no {t : Tx} (h : Name t) : ∀ c ∈ t, c.toNat ≠ 47 := by
  intro c hc e
  have := h.1 c hc
  unfold okChar at this
  rw [e] at this
  revert this; decide

set_option maxRecDepth 100000 in
theorem split_join : ∀ {l : List Tx}, l ≠ [] → (∀ t ∈ l, ∀ c ∈ t, c.toNat ≠ 47) → split (join l) = l
  | [], h, _ => absurd rfl h
  | [a], _, h => by
    show splitA [] a = _
    rw [splitA_no (h a (by simp))]; simp
  | a :: b :: l, _, h => by
    show splitA [] (a ++ 47 :: join (b :: l)) = _
    rw [splitA_at (h a (by simp))]
    have := split_join (l := b :: l) (by simp) (fun t ht => h t (List.mem_cons_of_mem _ ht))
    unfold split at this
    rw [this]; simp

set_option maxRecDepth 100000 in
theorem join_lens : ∀ {l : List Tx}, l ≠ [] → (join l).length + 1 = lens l
  | [], h => absurd rfl h
  | [a], _ => by simp [join, lens]
  | a :: b :: l, _ => by
    have := join_lens (l := b :: l) (by simp)
    show (a ++ 47 :: join (b :: l)).length + 1 = a.length + 1 + lens (b :: l)
    rw [← this, List.length_append, List.length_cons]; omega

set_option maxRecDepth 100000 in
theorem join_lib : ∀ {l : List Tx}, l ≠ [] → Lib.join l [47] = join l
  | [], h => absurd rfl h
  | [a], _ => Lib.join_one a [47]
  | a :: b :: l, _ => by
    have := join_lib (l := b :: l) (by simp)
    rw [Lib.join_cons] at this ⊢
    show _ = a ++ 47 :: join (b :: l)
    rw [← this]
    simp [Lib.joinTail]

/-- What may come of those that came: so many names, so many bytes. -/
def Fit (d : List Tx) : Prop := (∀ t ∈ d, Name t) ∧ d.length ≤ 6 ∧ lens d ≤ 41

set_option maxRecDepth 100000 in
theorem fit_nil : Fit [] := ⟨by simp, by simp, by simp [lens]⟩

def Next (d : List Tx) (t : Tx) : Prop := Name t ∧ (0 : Int) ≤ (6 - (d.length : Int)) - 1 ∧ (0 : Int) ≤ (41 - (lens d : Int)) - ((t.length : Int) + 1)
instance (d : List Tx) (t : Tx) : Decidable (Next d t) := inferInstanceAs (Decidable (_ ∧ _))

set_option maxRecDepth 100000 in
theorem fit_next {d : List Tx} {t : Tx} (h : Fit d) (k : Next d t) : Fit (d ++ [t]) := by
  obtain ⟨h1, h2, h3⟩ := h
  obtain ⟨k1, k2, k3⟩ := k
  refine ⟨?_, ?_, ?_⟩
  · intro x hx
    rcases List.mem_append.1 hx with hx | hx
    · exact h1 x hx
    · rw [List.mem_singleton.1 hx]; exact k1
  · rw [List.length_append, List.length_singleton]; omega
  · rw [lens_append]; simp only [lens]; omega

set_option maxRecDepth 100000 in
theorem fit_not {d e : List Tx} {t : Tx} (k : ¬ Next d t) : ¬ Fit (d ++ t :: e) := by
  rintro ⟨h1, h2, h3⟩
  apply k
  rw [List.length_append, List.length_cons] at h2
  rw [lens_append] at h3
  simp only [lens] at h3
  exact ⟨h1 t (by simp), by omega, by omega⟩

set_option maxRecDepth 100000 in
theorem right_fit (s : Tx) : Right s ↔ Fit (split s) := by
  have h := lens_splitA s []
  rw [List.length_nil, Nat.zero_add] at h
  constructor
  · rintro ⟨h1, h2, h3⟩
    exact ⟨h1, h3, by unfold split; omega⟩
  · rintro ⟨h1, h2, h3⟩
    exact ⟨h1, by unfold split at h3; omega, h2⟩

set_option maxRecDepth 100000 in
theorem joins_fit {l : List Tx} (hl : l ≠ []) : Joins l ↔ Fit l := by
  constructor
  · rintro ⟨-, h1, h2⟩
    have := (right_fit _).1 h2
    rwa [split_join hl (fun t ht => name_no (h1 t ht))] at this
  · intro h
    refine ⟨hl, h.1, (right_fit _).2 ?_⟩
    rwa [split_join hl (fun t ht => name_no (h.1 t ht))]

/-! ### Ahead of a / -/
set_option maxRecDepth 100000 in
theorem index_cases : ∀ s : Tx, (Lib.indexByte s 47 = -1 ∧ ∀ c ∈ s, c.toNat ≠ 47) ∨ ∃ a b, s = a ++ 47 :: b ∧ (∀ c ∈ a, c.toNat ≠ 47) ∧ Lib.indexByte s 47 = (a.length : Int)
  | [] => Or.inl ⟨rfl, by simp⟩
  | c :: s => by
    by_cases hc : c = 47
    · subst hc
      exact Or.inr ⟨[], s, rfl, by simp, rfl⟩
    · have hc2 : c.toNat ≠ 47 := fun e => hc (UInt8.toNat_inj.1 e)
      have hb : (c == 47) = false := by rw [beq_eq_false_iff_ne]; exact hc
      rcases index_cases s with ⟨h1, h2⟩ | ⟨a, b, rfl, h2, h3⟩
      · refine Or.inl ⟨?_, ?_⟩
        · show (if c == 47 then 0 else if Lib.indexByte s 47 == -1 then -1 else Lib.indexByte s 47 + 1) = _
          rw [hb, h1]; rfl
        · intro x hx
          rcases List.mem_cons.1 hx with rfl | hx
          · exact hc2
          · exact h2 x hx
      · refine Or.inr ⟨c :: a, b, rfl, ?_, ?_⟩
        · intro x hx
          rcases List.mem_cons.1 hx with rfl | hx
          · exact hc2
          · exact h2 x hx
        · show (if c == 47 then 0 else if Lib.indexByte (a ++ 47 :: b) 47 == -1 then -1 else Lib.indexByte (a ++ 47 :: b) 47 + 1) = _
          rw [hb, h3]
          have : (((a.length : Nat) : Int) == -1) = false := by rw [beq_eq_false_iff_ne]; omega
          rw [this]
          simp

set_option maxRecDepth 100000 in
theorem parentTo_at {a : Tx} {i : Nat} (hi : a[i]? = some 47) : ∀ n, i < n → (∀ j, i < j → j < n → a[j]? ≠ some 47) → parentTo a n = a.take i
  | 0, h, _ => absurd h (by omega)
  | n + 1, h, hj => by
    unfold parentTo
    by_cases hn : i = n
    · subst hn; rw [if_pos hi]
    · rw [if_neg (hj n (by omega) (by omega))]
      exact parentTo_at hi n (by omega) (fun j h1 h2 => hj j h1 (by omega))

set_option maxRecDepth 100000 in
theorem parentTo_no {a : Tx} : ∀ n, (∀ j, j < n → a[j]? ≠ some 47) → parentTo a n = []
  | 0, _ => rfl
  | n + 1, hj => by
    unfold parentTo
    rw [if_neg (hj n (by omega))]
    exact parentTo_no n (fun j h => hj j (by omega))

set_option maxRecDepth 100000 in
theorem last_cases (s : ByteArray) : (Lib.lastIndexByte s 47 = -1 ∧ parent s.data.toList = []) ∨ ∃ i : Nat, i ≤ s.size ∧ Lib.lastIndexByte s 47 = (i : Int) ∧ parent s.data.toList = s.data.toList.take i := by
  have key : ∀ j, j < s.size → (s.data.toList[j]? = some 47 ↔ ((s.data[j]!).toNat : Int) = 47) := by
    intro j hj
    have hj' : j < s.data.size := hj
    rw [Array.getElem?_toList, Array.getElem?_eq_getElem hj', getElem!_pos s.data j hj']
    constructor
    · intro h; injection h with h; rw [h]; rfl
    · intro h
      congr 1
      apply UInt8.toNat_inj.1
      show _ = 47
      omega
  have hl : s.data.toList.length = s.size := (Lib.size_eq s).symm
  unfold parent
  rw [hl]
  rcases Lib.lastIdx_spec s 47 s.size with ⟨h1, h2⟩ | ⟨i, hi, h1, h2, h3⟩
  · refine Or.inl ⟨h1, parentTo_no _ (fun j hj e => h2 j hj ((key j hj).1 e))⟩
  · refine Or.inr ⟨i, by omega, h1, parentTo_at ((key i hi).2 h2) _ hi (fun j h4 h5 e => h3 j h4 h5 ((key j h5).1 e))⟩
end Go.Proofs.Ytadgdppkokbphaa.Pth
