/- Versions and stamps, as plain data: their order, versions in order each once, the newest stamp, the next time. No program is spoken of. -/
import Derived.Test.YtnpnjophlajfkaaBase
namespace Go.Proofs.Ytnpnjophlajfkaa.Ver

/-- A version: who made it, and its number. -/
structure V where
  by_ : Int
  n : Int
deriving DecidableEq
/-- A stamp: a time and a version. -/
structure S where
  time : Int
  v : V
deriving DecidableEq

def Right (v : V) : Prop := 1 ≤ v.by_ ∧ v.by_ ≤ 64 ∧ 1 ≤ v.n
def RightS (s : S) : Prop := Right s.v ∧ 1 ≤ s.time
def Before (a b : V) : Prop := a.by_ < b.by_ ∨ (a.by_ = b.by_ ∧ a.n < b.n)
def Older (a b : S) : Prop := a.time < b.time ∨ (a.time = b.time ∧ Before a.v b.v)
instance (v : V) : Decidable (Right v) := inferInstanceAs (Decidable (_ ∧ _))
instance (s : S) : Decidable (RightS s) := inferInstanceAs (Decidable (_ ∧ _))
instance (a b : V) : Decidable (Before a b) := inferInstanceAs (Decidable (_ ∨ _))
instance (a b : S) : Decidable (Older a b) := inferInstanceAs (Decidable (_ ∨ _))

set_option maxRecDepth 100000 in
theorem v_ext {a b : V} (h : a.by_ = b.by_) (k : a.n = b.n) : a = b := by cases a; cases b; simp_all
set_option maxRecDepth 100000 in
theorem s_ext {a b : S} (h : a.time = b.time) (k : a.v = b.v) : a = b := by cases a; cases b; simp_all
set_option maxRecDepth 100000 in
theorem before_irrefl (a : V) : ¬ Before a a := by unfold Before; omega
set_option maxRecDepth 100000 in
theorem before_trans {a b c : V} (h : Before a b) (k : Before b c) : Before a c := by unfold Before at *; omega
set_option maxRecDepth 100000 in
theorem before_or {a b : V} (h : a ≠ b) : Before a b ∨ Before b a := by
  by_cases h1 : a.by_ = b.by_
  · by_cases h2 : a.n = b.n
    · exact absurd (v_ext h1 h2) h
    · unfold Before; omega
  · unfold Before; omega
set_option maxRecDepth 100000 in
theorem before_asymm {a b : V} (h : Before a b) : ¬ Before b a := fun k => before_irrefl a (before_trans h k)
set_option maxRecDepth 100000 in
theorem older_irrefl (a : S) : ¬ Older a a := by
  have := before_irrefl a.v
  unfold Older
  rintro (h | ⟨_, h⟩)
  · omega
  · exact this h
set_option maxRecDepth 100000 in
theorem older_trans {a b c : S} (h : Older a b) (k : Older b c) : Older a c := by
  unfold Older at *
  rcases h with h | ⟨h, h'⟩ <;> rcases k with k | ⟨k, k'⟩
  · exact Or.inl (by omega)
  · exact Or.inl (by omega)
  · exact Or.inl (by omega)
  · exact Or.inr ⟨by omega, before_trans h' k'⟩
set_option maxRecDepth 100000 in
theorem older_or {a b : S} (h : a ≠ b) : Older a b ∨ Older b a := by
  unfold Older
  by_cases h1 : a.time = b.time
  · rcases before_or (a := a.v) (b := b.v) (fun e => h (s_ext h1 e)) with k | k
    · exact Or.inl (Or.inr ⟨h1, k⟩)
    · exact Or.inr (Or.inr ⟨h1.symm, k⟩)
  · omega
set_option maxRecDepth 100000 in
theorem older_asymm {a b : S} (h : Older a b) : ¬ Older b a := fun k => older_irrefl a (older_trans h k)

/-- P12.2. -/
def compare (a b : S) : Int := if Older a b then -1 else if a = b then 0 else 1
set_option maxRecDepth 100000 in
theorem compare_alt (a b : S) : compare a b = if Older a b then -1 else if Older b a then 1 else 0 := by
  unfold compare
  by_cases h : Older a b
  · rw [if_pos h, if_pos h]
  · rw [if_neg h, if_neg h]
    by_cases e : a = b
    · rw [if_pos e, if_neg (by rw [e]; exact older_irrefl b)]
    · rw [if_neg e, if_pos ((older_or e).resolve_left h)]

/-- The newest of a list. -/
def Newest (l : List S) (s : S) : Prop := s ∈ l ∧ ∀ x ∈ l, ¬ Older s x
set_option maxRecDepth 100000 in
theorem newest_one {l : List S} {s t : S} (h : Newest l s) (k : Newest l t) : s = t := by
  refine Classical.byContradiction (fun e => ?_)
  rcases older_or e with h1 | h1
  · exact h.2 t k.1 h1
  · exact k.2 s h.1 h1
set_option maxRecDepth 100000 in
theorem newest_first (s : S) : Newest [s] s := ⟨List.mem_singleton.2 rfl, fun x hx => by rw [List.mem_singleton.1 hx]; exact older_irrefl s⟩
set_option maxRecDepth 100000 in
theorem newest_more {l : List S} {s : S} (h : Newest l s) (x : S) : Newest (l ++ [x]) (if Older s x then x else s) := by
  by_cases hx : Older s x
  · rw [if_pos hx]
    refine ⟨by simp, fun y hy => ?_⟩
    rcases List.mem_append.1 hy with hy | hy
    · exact fun k => h.2 y hy (older_trans hx k)
    · rw [List.mem_singleton.1 hy]; exact older_irrefl x
  · rw [if_neg hx]
    refine ⟨List.mem_append.2 (Or.inl h.1), fun y hy => ?_⟩
    rcases List.mem_append.1 hy with hy | hy
    · exact h.2 y hy
    · rw [List.mem_singleton.1 hy]; exact hx

/-! ### Versions in order, each once -/
def Up (l : List V) : Prop := l.Pairwise Before
def put (l : List V) (v : V) : List V := if (l.dropWhile fun x => decide (Before x v)).head? = some v then l else l.takeWhile (fun x => decide (Before x v)) ++ v :: l.dropWhile fun x => decide (Before x v)
def sort (l : List V) : List V := l.foldl put []

set_option maxRecDepth 100000 in
theorem up_same : ∀ {l m : List V}, Up l → Up m → (∀ x, x ∈ l ↔ x ∈ m) → l = m
  | [], [], _, _, _ => rfl
  | [], b :: m, _, _, h => by have := (h b).2 (by simp); cases this
  | a :: l, [], _, _, h => by have := (h a).1 (by simp); cases this
  | a :: l, b :: m, hl, hm, h => by
    have h1 := List.pairwise_cons.1 hl
    have h2 := List.pairwise_cons.1 hm
    have e : a = b := by
      refine Classical.byContradiction (fun e => ?_)
      have ha : a ∈ m := ((List.mem_cons.1 ((h a).1 (by simp))).resolve_left e)
      have hb : b ∈ l := ((List.mem_cons.1 ((h b).2 (by simp))).resolve_left (fun k => e k.symm))
      exact before_asymm (h1.1 b hb) (h2.1 a ha)
    subst e
    rw [up_same h1.2 h2.2 (fun x => ?_)]
    have hx := h x
    constructor
    · intro hm'
      rcases List.mem_cons.1 (hx.1 (List.mem_cons_of_mem _ hm')) with rfl | k
      · exact absurd (h1.1 x hm') (before_irrefl x)
      · exact k
    · intro hm'
      rcases List.mem_cons.1 (hx.2 (List.mem_cons_of_mem _ hm')) with rfl | k
      · exact absurd (h2.1 x hm') (before_irrefl x)
      · exact k

set_option maxRecDepth 100000 in
theorem put_mem {l : List V} {v x : V} : x ∈ put l v ↔ x = v ∨ x ∈ l := by
  have e : l.takeWhile (fun x => decide (Before x v)) ++ l.dropWhile (fun x => decide (Before x v)) = l := List.takeWhile_append_dropWhile
  unfold put
  split
  · rename_i h
    have hp : v ∈ l := by
      rw [← e]
      exact List.mem_append.2 (Or.inr (List.mem_of_mem_head? (by rw [h]; rfl)))
    constructor
    · exact Or.inr
    · rintro (rfl | h)
      · exact hp
      · exact h
  · rw [List.mem_append, List.mem_cons]
    constructor
    · rintro (h | h | h)
      · exact Or.inr (by rw [← e]; exact List.mem_append.2 (Or.inl h))
      · exact Or.inl h
      · exact Or.inr (by rw [← e]; exact List.mem_append.2 (Or.inr h))
    · rintro (h | h)
      · exact Or.inr (Or.inl h)
      · rw [← e] at h
        rcases List.mem_append.1 h with h | h
        · exact Or.inl h
        · exact Or.inr (Or.inr h)
set_option maxRecDepth 100000 in
theorem take_lt {l : List V} {v : V} : ∀ x ∈ l.takeWhile (fun x => decide (Before x v)), Before x v := by
  intro x hx
  induction l with
  | nil => cases hx
  | cons a l ih =>
    rw [List.takeWhile_cons] at hx
    by_cases ha : Before a v
    · rw [if_pos (decide_eq_true ha)] at hx
      rcases List.mem_cons.1 hx with rfl | hx
      · exact ha
      · exact ih hx
    · rw [if_neg (by simpa using ha)] at hx; cases hx
set_option maxRecDepth 100000 in
theorem drop_ge {l : List V} (h : Up l) {v : V} : ∀ x ∈ l.dropWhile (fun x => decide (Before x v)), ¬ Before x v := by
  intro x hx
  induction l with
  | nil => cases hx
  | cons a l ih =>
    have h1 := List.pairwise_cons.1 h
    rw [List.dropWhile_cons] at hx
    by_cases ha : Before a v
    · rw [if_pos (decide_eq_true ha)] at hx
      exact ih h1.2 hx
    · rw [if_neg (by simpa using ha)] at hx
      rcases List.mem_cons.1 hx with rfl | hx
      · exact ha
      · exact fun k => ha (before_trans (h1.1 x hx) k)
set_option maxRecDepth 100000 in
theorem put_up {l : List V} (h : Up l) (v : V) : Up (put l v) := by
  have e : l.takeWhile (fun x => decide (Before x v)) ++ l.dropWhile (fun x => decide (Before x v)) = l := List.takeWhile_append_dropWhile
  unfold put
  split
  · exact h
  · rename_i hne
    have h0 : Up (l.takeWhile (fun x => decide (Before x v)) ++ l.dropWhile (fun x => decide (Before x v))) := by rw [e]; exact h
    obtain ⟨h1, h2, h3⟩ := List.pairwise_append.1 h0
    have hgt : ∀ x ∈ l.dropWhile (fun x => decide (Before x v)), Before v x := by
      intro x hx
      have hn := drop_ge h x hx
      by_cases ex : x = v
      · exfalso
        subst ex
        cases hd : l.dropWhile (fun y => decide (Before y x)) with
        | nil => rw [hd] at hx; cases hx
        | cons a t =>
          rw [hd] at hne hx h2
          have hax : a ≠ x := fun k => hne (by rw [k]; rfl)
          have ht : x ∈ t := (List.mem_cons.1 hx).resolve_left (fun k => hax k.symm)
          exact drop_ge h a (by rw [hd]; simp) ((List.pairwise_cons.1 h2).1 x ht)
      · exact (before_or ex).resolve_left hn
    refine List.pairwise_append.2 ⟨h1, List.pairwise_cons.2 ⟨hgt, h2⟩, fun x hx y hy => ?_⟩
    rcases List.mem_cons.1 hy with rfl | hy
    · exact take_lt x hx
    · exact before_trans (take_lt x hx) (hgt y hy)
set_option maxRecDepth 100000 in
theorem sort_aux (l : List V) : ∀ out : List V, Up out → Up (l.foldl put out) ∧ ∀ x, x ∈ l.foldl put out ↔ x ∈ out ∨ x ∈ l := by
  induction l with
  | nil => intro out h; exact ⟨h, fun x => by simp⟩
  | cons a l ih =>
    intro out h
    obtain ⟨h1, h2⟩ := ih (put out a) (put_up h a)
    refine ⟨h1, fun x => ?_⟩
    rw [List.foldl_cons, h2 x, put_mem, List.mem_cons]
    constructor
    · rintro ((h | h) | h)
      · exact Or.inr (Or.inl h)
      · exact Or.inl h
      · exact Or.inr (Or.inr h)
    · rintro (h | h | h)
      · exact Or.inl (Or.inr h)
      · exact Or.inl (Or.inl h)
      · exact Or.inr h
set_option maxRecDepth 100000 in
theorem sort_up (l : List V) : Up (sort l) := (sort_aux l [] List.Pairwise.nil).1
set_option maxRecDepth 100000 in
theorem sort_mem (l : List V) (x : V) : x ∈ sort l ↔ x ∈ l := by
  have := (sort_aux l [] List.Pairwise.nil).2 x
  unfold sort
  rw [this]
  simp
set_option maxRecDepth 100000 in
theorem sort_is {l m : List V} (h : Up m) (hm : ∀ x, x ∈ m ↔ x ∈ l) : sort l = m := up_same (sort_up l) h (fun x => (sort_mem l x).trans (hm x).symm)
set_option maxRecDepth 100000 in
theorem put_len (l : List V) (v : V) : (put l v).length ≤ l.length + 1 := by
  have e : l.takeWhile (fun x => decide (Before x v)) ++ l.dropWhile (fun x => decide (Before x v)) = l := List.takeWhile_append_dropWhile
  have e2 := congrArg List.length e
  rw [List.length_append] at e2
  unfold put
  split
  · omega
  · rw [List.length_append, List.length_cons]; omega
set_option maxRecDepth 100000 in
theorem sort_take (l : List V) (i : Nat) (x : V) (hx : l[i]? = some x) : sort (l.take (i + 1)) = put (sort (l.take i)) x := by
  obtain ⟨hl, he⟩ := List.getElem?_eq_some_iff.1 hx
  unfold sort
  rw [List.take_succ_eq_append_getElem hl, he, List.foldl_append]
  rfl
set_option maxRecDepth 100000 in
theorem sort_len (l : List V) : (sort l).length ≤ l.length := by
  have : ∀ (l out : List V), (l.foldl put out).length ≤ out.length + l.length := by
    intro l
    induction l with
    | nil => intro out; simp
    | cons a l ih =>
      intro out
      have h1 := ih (put out a)
      have h2 := put_len out a
      rw [List.foldl_cons, List.length_cons]
      omega
  have := this l []
  simpa [sort] using this

/-! ### The next time -/
def most (time : Int) (l : List Int) : Int := l.foldl max (max time 0)
set_option maxRecDepth 100000 in
theorem most_ge (time : Int) (l : List Int) : 0 ≤ most time l ∧ time ≤ most time l ∧ ∀ x ∈ l, x ≤ most time l := by
  have : ∀ (l : List Int) (m : Int), m ≤ l.foldl max m ∧ ∀ x ∈ l, x ≤ l.foldl max m := by
    intro l
    induction l with
    | nil => intro m; exact ⟨Int.le_refl m, fun x hx => by cases hx⟩
    | cons a l ih =>
      intro m
      obtain ⟨h1, h2⟩ := ih (max m a)
      rw [List.foldl_cons]
      refine ⟨by omega, fun x hx => ?_⟩
      rcases List.mem_cons.1 hx with rfl | hx
      · omega
      · exact h2 x hx
  obtain ⟨h1, h2⟩ := this l (max time 0)
  unfold most
  exact ⟨by omega, by omega, h2⟩
set_option maxRecDepth 100000 in
theorem most_take (time : Int) (l : List Int) (i : Nat) (x : Int) (hx : l[i]? = some x) : most time (l.take (i + 1)) = max (most time (l.take i)) x := by
  obtain ⟨hl, he⟩ := List.getElem?_eq_some_iff.1 hx
  unfold most
  rw [List.take_succ_eq_append_getElem hl, he, List.foldl_append]
  rfl
set_option maxRecDepth 100000 in
theorem most_bd {time : Int} {l : List Int} {m : Int} (h0 : 0 ≤ m) (h1 : time ≤ m) (h2 : ∀ x ∈ l, x ≤ m) : most time l ≤ m := by
  have : ∀ (l : List Int) (a : Int), a ≤ m → (∀ x ∈ l, x ≤ m) → l.foldl max a ≤ m := by
    intro l
    induction l with
    | nil => intro a ha _; exact ha
    | cons b l ih =>
      intro a ha hb
      rw [List.foldl_cons]
      have := hb b (by simp)
      exact ih (max a b) (by omega) (fun x hx => hb x (List.mem_cons_of_mem _ hx))
  exact this l _ (by omega) h2

set_option maxRecDepth 100000 in
/-- Where a version goes: n versions are ahead of it. -/
theorem put_cut : ∀ (l : List V) (k : V) (n : Nat), (∀ x ∈ l.take n, Before x k) → (∀ x, l[n]? = some x → ¬ Before x k) → n ≤ l.length →
    l.takeWhile (fun q => decide (Before q k)) = l.take n ∧ l.dropWhile (fun q => decide (Before q k)) = l.drop n
  | l, k, 0, _, h2, _ => by
    cases l with
    | nil => exact ⟨rfl, rfl⟩
    | cons y l =>
      have hy := h2 y rfl
      exact ⟨by rw [List.takeWhile_cons, if_neg (by simpa using hy)]; rfl, by rw [List.dropWhile_cons, if_neg (by simpa using hy)]; rfl⟩
  | [], k, n + 1, _, _, hn => by simp at hn
  | y :: l, k, n + 1, h1, h2, hn => by
    have hy := h1 y (by simp)
    obtain ⟨r1, r2⟩ := put_cut l k n (fun x hx => h1 x (by simp [hx])) (fun x hx => h2 x (by simpa using hx)) (by simpa using hn)
    exact ⟨by rw [List.takeWhile_cons, if_pos (by simpa using hy), r1]; rfl, by rw [List.dropWhile_cons, if_pos (by simpa using hy), r2]; rfl⟩
set_option maxRecDepth 100000 in
theorem put_at {l : List V} {k : V} {n : Nat} (h1 : ∀ x ∈ l.take n, Before x k) (h2 : ∀ x, l[n]? = some x → ¬ Before x k) (hn : n ≤ l.length) : put l k = if l[n]? = some k then l else l.take n ++ [k] ++ l.drop n := by
  obtain ⟨r1, r2⟩ := put_cut l k n h1 h2 hn
  unfold put
  rw [r1, r2, List.head?_drop]
  simp
end Go.Proofs.Ytnpnjophlajfkaa.Ver
