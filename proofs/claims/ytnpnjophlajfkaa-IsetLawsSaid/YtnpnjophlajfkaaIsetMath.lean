/- Sets of versions, as plain data: what is in one of two lists, in both, in the first alone. No program is spoken of. -/
import Derived.Test.YtnpnjophlajfkaaVerMath
namespace Go.Proofs.Ytnpnjophlajfkaa.Iset
open Ver (V sort Up)

def join (a b : List V) : List V := sort (a ++ b)
def meet (a b : List V) : List V := sort (a.filter fun x => decide (x ∈ b))
def minus (a b : List V) : List V := sort (a.filter fun x => decide (x ∉ b))
def put (l : List V) (x : V) : List V := Ver.put (sort l) x
def drop (l : List V) (x : V) : List V := minus l [x]
def Within (a b : List V) : Prop := ∀ x ∈ a, x ∈ b
instance (a b : List V) : Decidable (Within a b) := inferInstanceAs (Decidable (∀ x ∈ a, _))

set_option maxRecDepth 100000 in
theorem join_mem {a b : List V} {x : V} : x ∈ join a b ↔ x ∈ a ∨ x ∈ b := by unfold join; rw [Ver.sort_mem, List.mem_append]
set_option maxRecDepth 100000 in
theorem meet_mem {a b : List V} {x : V} : x ∈ meet a b ↔ x ∈ a ∧ x ∈ b := by unfold meet; rw [Ver.sort_mem, List.mem_filter]; simp
set_option maxRecDepth 100000 in
theorem minus_mem {a b : List V} {x : V} : x ∈ minus a b ↔ x ∈ a ∧ x ∉ b := by unfold minus; rw [Ver.sort_mem, List.mem_filter]; simp
set_option maxRecDepth 100000 in
theorem put_mem {l : List V} {x y : V} : y ∈ put l x ↔ y = x ∨ y ∈ l := by unfold put; rw [Ver.put_mem, Ver.sort_mem]
set_option maxRecDepth 100000 in
theorem drop_mem {l : List V} {x y : V} : y ∈ drop l x ↔ y ∈ l ∧ y ≠ x := by unfold drop; rw [minus_mem]; simp
set_option maxRecDepth 100000 in
theorem join_up (a b : List V) : Up (join a b) := Ver.sort_up _
set_option maxRecDepth 100000 in
theorem meet_up (a b : List V) : Up (meet a b) := Ver.sort_up _
set_option maxRecDepth 100000 in
theorem minus_up (a b : List V) : Up (minus a b) := Ver.sort_up _
set_option maxRecDepth 100000 in
theorem put_up (l : List V) (x : V) : Up (put l x) := Ver.put_up (Ver.sort_up _) x
set_option maxRecDepth 100000 in
theorem sort_same {a b : List V} (h : ∀ x, x ∈ a ↔ x ∈ b) : sort a = sort b := Ver.up_same (Ver.sort_up _) (Ver.sort_up _) (fun x => by rw [Ver.sort_mem, Ver.sort_mem]; exact h x)

set_option maxRecDepth 100000 in
theorem up_empty {l : List V} : l = [] ↔ ∀ x, x ∉ l := by
  cases l with
  | nil => simp
  | cons a l =>
    constructor
    · intro h; cases h
    · intro h; exact absurd (List.mem_cons_self ..) (h a)
set_option maxRecDepth 100000 in
theorem minus_none (a b : List V) : minus a b = [] ↔ Within a b := by
  rw [up_empty]
  constructor
  · intro h x hx
    exact Classical.byContradiction (fun hn => h x (minus_mem.2 ⟨hx, hn⟩))
  · intro h x hx
    have := minus_mem.1 hx
    exact this.2 (h x this.1)

/-! ### The rounds of the loops -/
set_option maxRecDepth 100000 in
theorem filter_take (p : V → Bool) (l : List V) (i : Nat) (x : V) (hx : l[i]? = some x) : (l.take (i + 1)).filter p = (l.take i).filter p ++ (if p x then [x] else []) := by
  obtain ⟨hl, he⟩ := List.getElem?_eq_some_iff.1 hx
  rw [List.take_succ_eq_append_getElem hl, he, List.filter_append]
  congr 1
  cases h : p x <;> simp [h]
set_option maxRecDepth 100000 in
theorem sort_more (l : List V) (x : V) : sort (l ++ [x]) = Ver.put (sort l) x := by
  unfold sort
  rw [List.foldl_append]
  rfl
set_option maxRecDepth 100000 in
theorem meet_take (a b : List V) (i : Nat) (x : V) (hx : a[i]? = some x) : meet (a.take (i + 1)) b = if x ∈ b then Ver.put (meet (a.take i) b) x else meet (a.take i) b := by
  unfold meet
  rw [filter_take _ a i x hx]
  by_cases h : x ∈ b
  · rw [if_pos h, if_pos (by simpa using h), sort_more]
  · rw [if_neg h, if_neg (by simpa using h), List.append_nil]
set_option maxRecDepth 100000 in
theorem minus_take (a b : List V) (i : Nat) (x : V) (hx : a[i]? = some x) : minus (a.take (i + 1)) b = if x ∈ b then minus (a.take i) b else Ver.put (minus (a.take i) b) x := by
  unfold minus
  rw [filter_take _ a i x hx]
  by_cases h : x ∈ b
  · rw [if_pos h, if_neg (by simpa using h), List.append_nil]
  · rw [if_neg h, if_pos (by simpa using h), sort_more]
set_option maxRecDepth 100000 in
theorem meet_len (a b : List V) : (meet a b).length ≤ a.length := Nat.le_trans (Ver.sort_len _) (List.length_filter_le _ _)
set_option maxRecDepth 100000 in
theorem minus_len (a b : List V) : (minus a b).length ≤ a.length := Nat.le_trans (Ver.sort_len _) (List.length_filter_le _ _)
set_option maxRecDepth 100000 in
theorem join_len (a b : List V) : (join a b).length ≤ a.length + b.length := by
  have := Ver.sort_len (a ++ b)
  rw [List.length_append] at this
  exact this
set_option maxRecDepth 100000 in
theorem put_len (l : List V) (x : V) : (put l x).length ≤ l.length + 1 := by
  have := Ver.put_len (sort l) x
  have := Ver.sort_len l
  unfold put
  omega

/-! ### What is parted is the whole again -/
set_option maxRecDepth 100000 in
theorem parted (a b : List V) : Within (join (minus a b) (meet a b)) a ∧ Within a (join (minus a b) (meet a b)) := by
  constructor
  · intro x hx
    rcases join_mem.1 hx with h | h
    · exact (minus_mem.1 h).1
    · exact (meet_mem.1 h).1
  · intro x hx
    refine join_mem.2 ?_
    by_cases h : x ∈ b
    · exact Or.inr (meet_mem.2 ⟨hx, h⟩)
    · exact Or.inl (minus_mem.2 ⟨hx, h⟩)
set_option maxRecDepth 100000 in
theorem apart (a b : List V) : meet (minus a b) b = [] := by
  rw [up_empty]
  intro x hx
  have := meet_mem.1 hx
  exact (minus_mem.1 this.1).2 this.2
set_option maxRecDepth 100000 in
theorem meet_within (a b : List V) : Within (meet a b) b := fun _ hx => (meet_mem.1 hx).2
set_option maxRecDepth 100000 in
theorem join_within (a b : List V) : Within a (join b a) := fun _ hx => join_mem.2 (Or.inr hx)
/-! ### What a program may do instead -/
set_option maxRecDepth 100000 in
theorem put_is (l : List V) (x : V) : sort (l ++ [x]) = put l x := by unfold put; rw [sort_more]
set_option maxRecDepth 100000 in
/-- Halving: what is left of a set in order holds the one that is looked for, or nothing does. -/
theorem half_up {m : List V} {y x : V} {i : Nat} (h : Up m) (hy : m[i]? = some y) (hb : Ver.Before y x) : Up (m.drop (i + 1)) ∧ (x ∈ m ↔ x ∈ m.drop (i + 1)) := by
  have e : m.take (i + 1) ++ m.drop (i + 1) = m := List.take_append_drop _ _
  refine ⟨List.Pairwise.sublist (List.drop_sublist _ _) h, ?_⟩
  constructor
  · intro hx
    obtain ⟨j, hj⟩ := List.getElem?_of_mem hx
    rcases Nat.lt_or_ge i j with hlt | hge
    · refine List.mem_of_getElem? (i := j - (i + 1)) ?_
      rw [List.getElem?_drop, show i + 1 + (j - (i + 1)) = j by omega]
      exact hj
    · exfalso
      rcases Nat.lt_or_ge j i with hji | hji
      · obtain ⟨h1, e1⟩ := List.getElem?_eq_some_iff.1 hj
        obtain ⟨h2, e2⟩ := List.getElem?_eq_some_iff.1 hy
        have := List.pairwise_iff_getElem.1 h j i h1 h2 hji
        rw [e1, e2] at this
        exact Ver.before_asymm hb this
      · have : j = i := by omega
        subst this
        rw [hy] at hj
        injection hj with hj
        rw [hj] at hb
        exact Ver.before_irrefl x hb
  · exact fun hx => List.mem_of_mem_drop hx
set_option maxRecDepth 100000 in
theorem half_low {m : List V} {y x : V} {i : Nat} (h : Up m) (hy : m[i]? = some y) (hb : Ver.Before x y) : Up (m.take i) ∧ (x ∈ m ↔ x ∈ m.take i) := by
  refine ⟨List.Pairwise.sublist (List.take_sublist _ _) h, ?_⟩
  constructor
  · intro hx
    obtain ⟨j, hj⟩ := List.getElem?_of_mem hx
    rcases Nat.lt_or_ge j i with hlt | hge
    · refine List.mem_of_getElem? (i := j) ?_
      rw [List.getElem?_take, if_pos hlt]
      exact hj
    · exfalso
      rcases Nat.lt_or_ge i j with hji | hji
      · obtain ⟨h1, e1⟩ := List.getElem?_eq_some_iff.1 hj
        obtain ⟨h2, e2⟩ := List.getElem?_eq_some_iff.1 hy
        have := List.pairwise_iff_getElem.1 h i j h2 h1 hji
        rw [e1, e2] at this
        exact Ver.before_asymm hb this
      · have : j = i := by omega
        subst this
        rw [hy] at hj
        injection hj with hj
        rw [hj] at hb
        exact Ver.before_irrefl x hb
  · exact fun hx => List.mem_of_mem_take hx
set_option maxRecDepth 100000 in
theorem half_here {m : List V} {y x : V} {i : Nat} (hy : m[i]? = some y) (h1 : ¬ Ver.Before y x) (h2 : ¬ Ver.Before x y) : x ∈ m := by
  by_cases e : y = x
  · rw [← e]; exact List.mem_of_getElem? hy
  · rcases Ver.before_or e with h | h
    · exact absurd h h1
    · exact absurd h h2
set_option maxRecDepth 100000 in
/-- What is in order already stays so, one by one. -/
theorem filter_sort (p : V → Bool) (l : List V) : (sort l).filter p = sort (l.filter p) := by
  refine (Ver.sort_is (List.Pairwise.filter p (Ver.sort_up l)) (fun x => ?_)).symm
  rw [List.mem_filter, List.mem_filter, Ver.sort_mem]
set_option maxRecDepth 100000 in
theorem meet_is (a b : List V) : (sort a).filter (fun x => decide (x ∈ b)) = meet a b := filter_sort _ a
set_option maxRecDepth 100000 in
theorem minus_is (a b : List V) : (sort a).filter (fun x => decide (x ∉ b)) = minus a b := filter_sort _ a
set_option maxRecDepth 100000 in
theorem minus_not (a b : List V) : (sort a).filter (fun x => !decide (x ∈ b)) = minus a b := by
  rw [← minus_is]
  congr 1
  funext x
  simp
set_option maxRecDepth 100000 in
theorem within_is (a b : List V) : (!a.any fun x => !decide (x ∈ b)) = decide (Within a b) := by
  rw [Bool.eq_iff_iff, decide_eq_true_iff]
  unfold Within
  simp
set_option maxRecDepth 100000 in
theorem minus_zero (a b : List V) : decide ((minus a b).length = 0) = decide (Within a b) := by
  rw [Bool.eq_iff_iff, decide_eq_true_iff, decide_eq_true_iff, ← minus_none, List.length_eq_zero_iff]
set_option maxRecDepth 100000 in
theorem minus_beq (a b : List V) : (((minus a b).length : Int) == 0) = decide (Within a b) := by
  rw [← minus_zero, Bool.eq_iff_iff, beq_iff_eq, decide_eq_true_iff]
  omega
end Go.Proofs.Ytnpnjophlajfkaa.Iset
