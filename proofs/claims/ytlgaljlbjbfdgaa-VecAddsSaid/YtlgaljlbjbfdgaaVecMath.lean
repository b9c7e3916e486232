/- Version vectors, as plain data: the numbers as they count, which versions are in one, the least that has some, both together, the last versions. No program is spoken of. -/
import Derived.Test.YtlgaljlbjbfdgaaVerMath
namespace Go.Proofs.Ytlgaljlbjbfdgaa.Vec
open Ver (V Right)

/-- The number of an index, as it counts (vectors have 65 numbers). -/
def at_ (v : List Int) (i : Nat) : Int := if 1 ≤ i ∧ i ≤ 64 then max ((v[i]?).getD 0) 0 else 0
def num (v : List Int) (by_ : Int) : Int := if 1 ≤ by_ ∧ by_ ≤ 64 then at_ v by_.toNat else 0
def make (f : Nat → Int) : List Int := (List.range 65).map f
def clean (v : List Int) : List Int := make (at_ v)
def Has (v : List Int) (x : V) : Prop := Right x ∧ x.n ≤ num v x.by_
instance (v : List Int) (x : V) : Decidable (Has v x) := inferInstanceAs (Decidable (_ ∧ _))
def Covers (a b : List Int) : Prop := ∀ i, i < 65 → at_ b i ≤ at_ a i
instance (a b : List Int) : Decidable (Covers a b) := inferInstanceAs (Decidable (∀ i, i < 65 → _))
def join (a b : List Int) : List Int := make fun i => max (at_ a i) (at_ b i)
def meet (a b : List Int) : List Int := make fun i => min (at_ a i) (at_ b i)
def up (v : List Int) (x : V) : List Int := if Right x ∧ at_ v x.by_.toNat < x.n then v.set x.by_.toNat x.n else v
def add (v : List Int) (x : V) : List Int := up (clean v) x
def ofl (l : List V) : List Int := l.foldl up (List.replicate 65 0)
def ends (v : List Int) : List V := ((List.range 65).filter fun i => decide (0 < at_ v i)).map fun (i : Nat) => ⟨(i : Int), at_ v i⟩
def Plain (v : List Int) : Prop := v.length = 65 ∧ ∀ i, i < 65 → v[i]? = some (at_ v i)

set_option maxRecDepth 100000 in
theorem make_len (f : Nat → Int) : (make f).length = 65 := by simp [make]
set_option maxRecDepth 100000 in
theorem make_at (f : Nat → Int) (i : Nat) (h : i < 65) : (make f)[i]? = some (f i) := by
  unfold make
  rw [List.getElem?_map, List.getElem?_range h]; rfl
set_option maxRecDepth 100000 in
theorem at_nonneg (v : List Int) (i : Nat) : 0 ≤ at_ v i := by unfold at_; split <;> omega
set_option maxRecDepth 100000 in
theorem at_zero (v : List Int) (i : Nat) (h : ¬ (1 ≤ i ∧ i ≤ 64)) : at_ v i = 0 := if_neg h
set_option maxRecDepth 100000 in
theorem at_make (f : Nat → Int) (i : Nat) (h : 1 ≤ i ∧ i ≤ 64) (h0 : 0 ≤ f i) : at_ (make f) i = f i := by
  unfold at_
  rw [if_pos h, make_at f i (by omega)]
  show max (f i) 0 = f i
  omega
set_option maxRecDepth 100000 in
theorem make_plain (f : Nat → Int) (h : ∀ i, 0 ≤ f i) (hz : f 0 = 0) : Plain (make f) := by
  refine ⟨make_len f, fun i hi => ?_⟩
  rw [make_at f i hi]
  by_cases hr : 1 ≤ i ∧ i ≤ 64
  · rw [at_make f i hr (h i)]
  · rw [at_zero _ _ hr]
    have : i = 0 := by omega
    rw [this, hz]
set_option maxRecDepth 100000 in
theorem at_clean (v : List Int) (i : Nat) : at_ (clean v) i = at_ v i := by
  by_cases h : 1 ≤ i ∧ i ≤ 64
  · exact at_make _ i h (at_nonneg v i)
  · rw [at_zero _ _ h, at_zero _ _ h]
set_option maxRecDepth 100000 in
theorem at_join (a b : List Int) (i : Nat) : at_ (join a b) i = max (at_ a i) (at_ b i) := by
  by_cases h : 1 ≤ i ∧ i ≤ 64
  · exact at_make _ i h (by have := at_nonneg a i; omega)
  · rw [at_zero _ _ h, at_zero _ _ h, at_zero _ _ h]; rfl
set_option maxRecDepth 100000 in
theorem at_meet (a b : List Int) (i : Nat) : at_ (meet a b) i = min (at_ a i) (at_ b i) := by
  by_cases h : 1 ≤ i ∧ i ≤ 64
  · exact at_make _ i h (by have := at_nonneg a i; have := at_nonneg b i; omega)
  · rw [at_zero _ _ h, at_zero _ _ h, at_zero _ _ h]; rfl
set_option maxRecDepth 100000 in
theorem clean_plain (v : List Int) : Plain (clean v) := make_plain _ (at_nonneg v) (at_zero v 0 (by omega))
set_option maxRecDepth 100000 in
theorem join_plain (a b : List Int) : Plain (join a b) := make_plain _ (fun i => by have := at_nonneg a i; omega) (by rw [at_zero a 0 (by omega), at_zero b 0 (by omega)]; rfl)
set_option maxRecDepth 100000 in
theorem meet_plain (a b : List Int) : Plain (meet a b) := make_plain _ (fun i => by have := at_nonneg a i; have := at_nonneg b i; omega) (by rw [at_zero a 0 (by omega), at_zero b 0 (by omega)]; rfl)
set_option maxRecDepth 100000 in
theorem plain_ext {a b : List Int} (ha : Plain a) (hb : Plain b) (h : ∀ i, at_ a i = at_ b i) : a = b := by
  refine List.ext_getElem? (fun i => ?_)
  by_cases hi : i < 65
  · rw [ha.2 i hi, hb.2 i hi, h]
  · rw [List.getElem?_eq_none (by rw [ha.1]; omega), List.getElem?_eq_none (by rw [hb.1]; omega)]
set_option maxRecDepth 100000 in
theorem plain_clean {v : List Int} (h : Plain v) : clean v = v := plain_ext (clean_plain v) h (at_clean v)
set_option maxRecDepth 100000 in
theorem join_comm (a b : List Int) : join a b = join b a := plain_ext (join_plain a b) (join_plain b a) (fun i => by rw [at_join, at_join]; omega)
set_option maxRecDepth 100000 in
theorem meet_comm (a b : List Int) : meet a b = meet b a := plain_ext (meet_plain a b) (meet_plain b a) (fun i => by rw [at_meet, at_meet]; omega)

set_option maxRecDepth 100000 in
theorem num_of (v : List Int) {x : V} (h : Right x) : num v x.by_ = at_ v x.by_.toNat := if_pos ⟨h.1, h.2.1⟩
set_option maxRecDepth 100000 in
theorem has_at (v : List Int) (x : V) : Has v x ↔ Right x ∧ x.n ≤ at_ v x.by_.toNat := by
  unfold Has
  exact and_congr_right (fun h => by rw [num_of v h])
set_option maxRecDepth 100000 in
theorem has_clean (v : List Int) (x : V) : Has (clean v) x ↔ Has v x := by rw [has_at, has_at, at_clean]
set_option maxRecDepth 100000 in
theorem has_join (a b : List Int) (x : V) : Has (join a b) x ↔ Has a x ∨ Has b x := by
  rw [has_at, has_at, has_at, at_join]
  constructor
  · rintro ⟨h, k⟩
    by_cases h1 : x.n ≤ at_ a x.by_.toNat
    · exact Or.inl ⟨h, h1⟩
    · exact Or.inr ⟨h, by omega⟩
  · rintro (⟨h, k⟩ | ⟨h, k⟩) <;> exact ⟨h, by omega⟩
set_option maxRecDepth 100000 in
theorem has_meet (a b : List Int) (x : V) : Has (meet a b) x ↔ Has a x ∧ Has b x := by
  rw [has_at, has_at, has_at, at_meet]
  constructor
  · rintro ⟨h, k⟩; exact ⟨⟨h, by omega⟩, ⟨h, by omega⟩⟩
  · rintro ⟨⟨h, k⟩, ⟨_, k2⟩⟩; exact ⟨h, by omega⟩

/-! ### One version more -/
set_option maxRecDepth 100000 in
theorem up_len (v : List Int) (x : V) : (up v x).length = v.length := by
  unfold up
  split
  · exact List.length_set
  · rfl
set_option maxRecDepth 100000 in
theorem up_yes {v : List Int} {x : V} (h : Right x ∧ at_ v x.by_.toNat < x.n) : up v x = v.set x.by_.toNat x.n := if_pos h
set_option maxRecDepth 100000 in
theorem up_no {v : List Int} {x : V} (h : ¬ (Right x ∧ at_ v x.by_.toNat < x.n)) : up v x = v := if_neg h
set_option maxRecDepth 100000 in
theorem at_set_self {v : List Int} (hv : v.length = 65) {i : Nat} {n : Int} (hi : 1 ≤ i ∧ i ≤ 64) (hn : 0 ≤ n) : at_ (v.set i n) i = n := by
  unfold at_
  rw [if_pos hi, List.getElem?_set_self (by omega)]
  show max n 0 = n
  omega
set_option maxRecDepth 100000 in
theorem at_set_ne {v : List Int} {i k : Nat} {n : Int} (h : k ≠ i) : at_ (v.set k n) i = at_ v i := by
  unfold at_
  rw [List.getElem?_set_ne h]
set_option maxRecDepth 100000 in
theorem at_up {v : List Int} (hv : v.length = 65) (x : V) (i : Nat) : at_ (up v x) i = if Right x ∧ x.by_.toNat = i then max (at_ v i) x.n else at_ v i := by
  by_cases hx : Right x
  · have hr := hx
    unfold Right at hr
    by_cases hi : x.by_.toNat = i
    · rw [if_pos ⟨hx, hi⟩]
      subst hi
      by_cases hn : at_ v x.by_.toNat < x.n
      · rw [up_yes ⟨hx, hn⟩, at_set_self hv (by omega) (by omega)]
        omega
      · rw [up_no (fun h => hn h.2)]
        omega
    · rw [if_neg (fun h => hi h.2)]
      by_cases hn : at_ v x.by_.toNat < x.n
      · rw [up_yes ⟨hx, hn⟩, at_set_ne hi]
      · rw [up_no (fun h => hn h.2)]
  · rw [up_no (fun h => hx h.1), if_neg (fun h => hx h.1)]
set_option maxRecDepth 100000 in
theorem up_plain {v : List Int} (h : Plain v) (x : V) : Plain (up v x) := by
  refine ⟨by rw [up_len, h.1], fun i hi => ?_⟩
  rw [at_up h.1]
  unfold up
  by_cases hx : Right x ∧ at_ v x.by_.toNat < x.n
  · rw [if_pos hx]
    by_cases e : x.by_.toNat = i
    · subst e
      rw [if_pos ⟨hx.1, rfl⟩, List.getElem?_set_self (by rw [h.1]; omega)]
      congr 1
      omega
    · rw [if_neg (fun k => e k.2), List.getElem?_set_ne e, h.2 i hi]
  · rw [if_neg hx, h.2 i hi]
    congr 1
    by_cases e : Right x ∧ x.by_.toNat = i
    · rw [if_pos e]
      obtain ⟨e1, rfl⟩ := e
      have : ¬ at_ v x.by_.toNat < x.n := fun k => hx ⟨e1, k⟩
      omega
    · rw [if_neg e]
set_option maxRecDepth 100000 in
theorem add_plain (v : List Int) (x : V) : Plain (add v x) := up_plain (clean_plain v) x
set_option maxRecDepth 100000 in
theorem at_add (v : List Int) (x : V) (i : Nat) : at_ (add v x) i = if Right x ∧ x.by_.toNat = i then max (at_ v i) x.n else at_ v i := by
  unfold add
  rw [at_up (clean_plain v).1, at_clean]
set_option maxRecDepth 100000 in
theorem add_covers (v : List Int) (x : V) : Covers (add v x) v := by
  intro i _
  rw [at_add]
  split <;> omega
set_option maxRecDepth 100000 in
/-- What is in a vector that has one version more. -/
theorem has_add (v : List Int) (x y : V) : Has (add v x) y ↔ Has v y ∨ (Right x ∧ Right y ∧ y.by_ = x.by_ ∧ y.n ≤ x.n) := by
  rw [has_at, has_at, at_add]
  by_cases h : Right x ∧ x.by_.toNat = y.by_.toNat
  · rw [if_pos h]
    constructor
    · rintro ⟨hy, k⟩
      have h1 := h.1.1
      have h2 := hy.1
      by_cases h3 : y.n ≤ at_ v y.by_.toNat
      · exact Or.inl ⟨hy, h3⟩
      · exact Or.inr ⟨h.1, hy, by omega, by omega⟩
    · rintro (⟨hy, k⟩ | ⟨_, hy, _, k⟩)
      · exact ⟨hy, by omega⟩
      · exact ⟨hy, by omega⟩
  · rw [if_neg h]
    constructor
    · exact Or.inl
    · rintro (k | ⟨hx, hy, e, k⟩)
      · exact k
      · exact absurd ⟨hx, by rw [e]⟩ h

/-! ### The least vector of versions -/
set_option maxRecDepth 100000 in
theorem zero_plain : Plain (List.replicate 65 0) := by
  refine ⟨List.length_replicate, fun i hi => ?_⟩
  have e : (List.replicate 65 (0 : Int))[i]? = some 0 := by rw [List.getElem?_replicate, if_pos hi]
  rw [e]
  unfold at_
  rw [e]
  split <;> rfl
set_option maxRecDepth 100000 in
theorem fold_plain : ∀ (l : List V) {v : List Int}, Plain v → Plain (l.foldl up v)
  | [], v, h => h
  | x :: l, v, h => fold_plain l (up_plain h x)
set_option maxRecDepth 100000 in
theorem ofl_plain (l : List V) : Plain (ofl l) := fold_plain l zero_plain
set_option maxRecDepth 100000 in
theorem ofl_take (l : List V) (i : Nat) (x : V) (hx : l[i]? = some x) : ofl (l.take (i + 1)) = up (ofl (l.take i)) x := by
  obtain ⟨hl, he⟩ := List.getElem?_eq_some_iff.1 hx
  unfold ofl
  rw [List.take_succ_eq_append_getElem hl, he, List.foldl_append]
  rfl
set_option maxRecDepth 100000 in
theorem fold_at (i : Nat) : ∀ (l : List V) {v : List Int}, Plain v → ∀ m, at_ (l.foldl up v) i ≤ m ↔ at_ v i ≤ m ∧ ∀ x ∈ l, Right x → x.by_.toNat = i → x.n ≤ m
  | [], v, h, m => by simp
  | y :: l, v, h, m => by
    rw [List.foldl_cons, fold_at i l (up_plain h y) m, at_up h.1]
    constructor
    · rintro ⟨h1, h2⟩
      by_cases hy : Right y ∧ y.by_.toNat = i
      · rw [if_pos hy] at h1
        refine ⟨by omega, fun x hx hr he => ?_⟩
        rcases List.mem_cons.1 hx with rfl | hx
        · omega
        · exact h2 x hx hr he
      · rw [if_neg hy] at h1
        refine ⟨h1, fun x hx hr he => ?_⟩
        rcases List.mem_cons.1 hx with rfl | hx
        · exact absurd ⟨hr, he⟩ hy
        · exact h2 x hx hr he
    · rintro ⟨h1, h2⟩
      refine ⟨?_, fun x hx => h2 x (List.mem_cons_of_mem _ hx)⟩
      by_cases hy : Right y ∧ y.by_.toNat = i
      · rw [if_pos hy]
        have := h2 y (by simp) hy.1 hy.2
        omega
      · rw [if_neg hy]; exact h1

set_option maxRecDepth 100000 in
theorem ends_mem (v : List Int) (x : V) : x ∈ ends v ↔ ∃ i, i < 65 ∧ 0 < at_ v i ∧ x = ⟨(i : Int), at_ v i⟩ := by
  unfold ends
  rw [List.mem_map]
  constructor
  · rintro ⟨i, hi, rfl⟩
    obtain ⟨h1, h2⟩ := List.mem_filter.1 hi
    exact ⟨i, List.mem_range.1 h1, by simpa using h2, rfl⟩
  · rintro ⟨i, h1, h2, rfl⟩
    exact ⟨i, List.mem_filter.2 ⟨List.mem_range.2 h1, by simpa using h2⟩, rfl⟩
set_option maxRecDepth 100000 in
/-- P13.3: the least vector of the last versions. -/
theorem ofl_ends (v : List Int) : ofl (ends v) = clean v := by
  refine plain_ext (ofl_plain _) (clean_plain v) (fun i => ?_)
  rw [at_clean]
  have hz : at_ (List.replicate 65 0) i = 0 := by
    unfold at_
    rw [List.getElem?_replicate]
    split
    · split <;> rfl
    · rfl
  have h0 := at_nonneg v i
  apply Int.le_antisymm
  · unfold ofl
    rw [fold_at i _ zero_plain, hz]
    refine ⟨h0, fun x hx hr he => ?_⟩
    obtain ⟨k, hk, h1, rfl⟩ := (ends_mem v x).1 hx
    have : k = i := by simpa using he
    subst this
    exact Int.le_refl _
  · by_cases hp : 0 < at_ v i
    · have hi : 1 ≤ i ∧ i ≤ 64 := Classical.byContradiction (fun h => by rw [at_zero v i h] at hp; omega)
      have := (fold_at i (ends v) zero_plain (at_ (ofl (ends v)) i)).1 (Int.le_refl _)
      exact this.2 ⟨(i : Int), at_ v i⟩ ((ends_mem v _).2 ⟨i, by omega, hp, rfl⟩) ⟨by simp; omega, by simp; omega, by simp; omega⟩ (by simp)
    · have := at_nonneg (ofl (ends v)) i
      omega

/-! ### To have all of another one -/
set_option maxRecDepth 100000 in
theorem covers_refl (a : List Int) : Covers a a := fun _ _ => Int.le_refl _
set_option maxRecDepth 100000 in
theorem covers_trans {a b c : List Int} (h : Covers a b) (k : Covers b c) : Covers a c := fun i hi => Int.le_trans (k i hi) (h i hi)
set_option maxRecDepth 100000 in
theorem at_far (v : List Int) (i : Nat) (h : ¬ i < 65) : at_ v i = 0 := at_zero v i (by omega)
set_option maxRecDepth 100000 in
theorem covers_anti (a b : List Int) : (Covers a b ∧ Covers b a) ↔ clean a = clean b := by
  constructor
  · rintro ⟨h, k⟩
    refine plain_ext (clean_plain a) (clean_plain b) (fun i => ?_)
    rw [at_clean, at_clean]
    by_cases hi : i < 65
    · exact Int.le_antisymm (k i hi) (h i hi)
    · rw [at_far a i hi, at_far b i hi]
  · intro h
    have e : ∀ i, at_ a i = at_ b i := fun i => by rw [← at_clean a, h, at_clean]
    exact ⟨fun i _ => by rw [e]; exact Int.le_refl _, fun i _ => by rw [e]; exact Int.le_refl _⟩
set_option maxRecDepth 100000 in
theorem join_left (a b : List Int) : Covers (join a b) a := fun i _ => by rw [at_join]; omega
set_option maxRecDepth 100000 in
theorem join_right (a b : List Int) : Covers (join a b) b := fun i _ => by rw [at_join]; omega
set_option maxRecDepth 100000 in
theorem meet_left (a b : List Int) : Covers a (meet a b) := fun i _ => by rw [at_meet]; omega
set_option maxRecDepth 100000 in
theorem meet_right (a b : List Int) : Covers b (meet a b) := fun i _ => by rw [at_meet]; omega
set_option maxRecDepth 100000 in
theorem join_least (a b c : List Int) : Covers c (join a b) ↔ Covers c a ∧ Covers c b := by
  constructor
  · exact fun h => ⟨covers_trans h (join_left a b), covers_trans h (join_right a b)⟩
  · rintro ⟨h, k⟩ i hi
    have := h i hi
    have := k i hi
    rw [at_join]; omega
set_option maxRecDepth 100000 in
/-- To have all of another one, version by version. -/
theorem covers_has (a b : List Int) : Covers a b ↔ ∀ x, Has b x → Has a x := by
  constructor
  · intro h x hx
    rw [has_at] at hx ⊢
    have hr := hx.1
    unfold Right at hr
    have := h x.by_.toNat (by omega)
    exact ⟨hx.1, by omega⟩
  · intro h i hi
    by_cases hp : 0 < at_ b i
    · have hr : 1 ≤ i ∧ i ≤ 64 := Classical.byContradiction (fun k => by rw [at_zero b i k] at hp; omega)
      have hx : Right ⟨(i : Int), at_ b i⟩ := ⟨by simp; omega, by simp; omega, by simp; omega⟩
      have := ((has_at a ⟨(i : Int), at_ b i⟩).1 (h ⟨(i : Int), at_ b i⟩ ((has_at b _).2 ⟨hx, by simp⟩))).2
      simpa using this
    · have := at_nonneg a i
      omega
end Go.Proofs.Ytlgaljlbjbfdgaa.Vec
