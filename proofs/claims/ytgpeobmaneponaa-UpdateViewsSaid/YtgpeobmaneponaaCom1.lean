import Derived.Below
import Derived.Laws.OwnMore
import Derived.Deep.Draws
import Derived.Laws.Rows
import Derived.OneCell
import Derived.OwnWalk
import Derived.Deep.AppendLies
import Derived.Laws.AppendOwn
import Derived.Lib.Hide
import Derived.Tactics
import Derived.WalkKit
import Derived.Lib.Strings
import Derived.Deep.QuietTactic
import Derived.BigQuiet
import Derived.Deep.RegionWith
import Derived.WalkSpells
set_option maxRecDepth 100000
set_option linter.unusedVariables false
set_option linter.unusedSimpArgs false
namespace Go.Proofs.Ytgpeobmaneponaa
open Go.RowKit
def Row (w : World) (b : Nat) (t : TypeId) (cs : Array Value) : Prop := w.heap[b]? = some (Obj.cells cs t (0, 0))
section
variable {w w' : World} {b : Nat} {t : TypeId} {cs : Array Value}
theorem Row.inHeap (h : Row w b t cs) : b < w.heap.size := lt_of_block h
theorem Row.at (h : Row w b t cs) (i : Nat) : w.cell? ⟨b, i, none⟩ = cs[i]? := cell_of_row w b i cs t (0, 0) h
theorem Row.free (h : Row w b t cs) (i : Nat) : w.frozen? ⟨b, i, none⟩ = false := by
 have h' : w.heap[b]? = some (Obj.cells cs t (0, 0)) := h
 simp only [World.frozen?, h']
 simp
theorem Row.made (w : World) (t : TypeId) (cs : Array Value) : Row (w.alloc (.cells cs t)) w.heap.size t cs := heap_alloc_new w _
theorem Row.behindNew (h : Row w b t cs) (o : Obj) : Row (w.alloc o) b t cs := (Below.heap_alloc w o b h.inHeap).trans h
theorem Row.stored (h : Row w b t cs) (i : Nat) (u : Value) : Row (w.setCell ⟨b, i, none⟩ u) b t (cs.setIfInBounds i u) := by
 have h' : w.heap[b]? = some (Obj.cells cs t (0, 0)) := h
 show (w.heap.modify b _)[b]? = _
 rw [Array.getElem?_modify, if_pos rfl, h']
 simp
theorem Row.storedElsewhere (h : Row w b t cs) {p : Addr} (hp : p.block ≠ b) (u : Value) : Row (w.setCell p u) b t cs :=
 (Below.heap_setCell w p u b (fun e => hp e.symm)).trans h
theorem Row.below {B : Nat} (h : Row w b t cs) (hb : Below B w w') (hB : b < B) : Row w' b t cs := (hb.block b hB).trans h
theorem Row.grown {row : Option Nat} (h : Row w b t cs) (hg : w.grownBy w' row) (hne : row ≠ some b) : Row w' b t cs :=
 (hg.block b h.inHeap (fun e => hne e.symm)).trans h
end
section
variable {a w w' : World} {b : Nat}
theorem gb_refl (w : World) (r : Option Nat) : w.grownBy w r := ⟨rfl, rfl, rfl, Nat.le_refl _, fun _ _ _ => rfl⟩
theorem gb_trans {r : Option Nat} (h : a.grownBy w r) (k : w.grownBy w' r) : a.grownBy w' r :=
 ⟨k.os.trans h.os, k.tape.trans h.tape, k.output.trans h.output, Nat.le_trans h.size k.size, fun i hi hn => (k.block i (Nat.lt_of_lt_of_le hi h.size) hn).trans (h.block i hi hn)⟩
end
end Go.Proofs.Ytgpeobmaneponaa
namespace Go.Proofs.Ytgpeobmaneponaa.Pth
abbrev Tx := List UInt8
def Covers (p s : Tx) : Prop := p = [] ∨ p = s ∨ (p.length < s.length ∧ s.take p.length = p ∧ s[p.length]? = some 47)
instance (p s : Tx) : Decidable (Covers p s) := inferInstanceAs (Decidable (_ ∨ _))
def okChar (c : UInt8) : Bool := (97 ≤ c.toNat && c.toNat ≤ 122) || (48 ≤ c.toNat && c.toNat ≤ 57) || c.toNat == 45 || c.toNat == 95 || c.toNat == 46
def dots (s : Tx) : Nat := s.countP fun c => c.toNat == 46
def Name (s : Tx) : Prop := (∀ c ∈ s, okChar c = true) ∧ 1 ≤ s.length ∧ s.length ≤ 12 ∧ dots s < s.length
instance (s : Tx) : Decidable (Name s) := inferInstanceAs (Decidable (_ ∧ _))
def splitA : Tx → Tx → List Tx
 | cur, [] => [cur]
 | cur, c :: s => if c.toNat = 47 then cur :: splitA [] s else splitA (cur ++ [c]) s
def split (s : Tx) : List Tx := splitA [] s
def Right (s : Tx) : Prop := (∀ n ∈ split s, Name n) ∧ s.length ≤ 40 ∧ (split s).length ≤ 6
instance (s : Tx) : Decidable (Right s) := inferInstanceAs (Decidable (_ ∧ _))
def join : List Tx → Tx
 | [] => []
 | [a] => a
 | a :: b :: l => a ++ 47 :: join (b :: l)
def Joins (l : List Tx) : Prop := l ≠ [] ∧ (∀ n ∈ l, Name n) ∧ Right (join l)
instance (l : List Tx) : Decidable (Joins l) := inferInstanceAs (Decidable (_ ∧ _))
end Go.Proofs.Ytgpeobmaneponaa.Pth
namespace Go.Proofs.Ytgpeobmaneponaa.Sz
abbrev Rg := Int × Int
def holds (l : List Rg) (n : Int) : Bool := decide (0 ≤ n ∧ n ≤ 200) && l.any fun r => decide (r.1 ≤ n ∧ n ≤ r.2)
def of (l : List Rg) : List Bool := (List.range 201).map fun (k : Nat) => holds l (k : Int)
def formR : Nat → Option Nat → List Bool → List Rg
 | _, none, [] => []
 | k, some lo, [] => [((lo : Int), (k : Int) - 1)]
 | k, none, false :: b => formR (k + 1) none b
 | k, none, true :: b => formR (k + 1) (some k) b
 | k, some lo, true :: b => formR (k + 1) (some lo) b
 | k, some lo, false :: b => ((lo : Int), (k : Int) - 1) :: formR (k + 1) none b
def form (b : List Bool) : List Rg := formR 0 none b
def norm (l : List Rg) : List Rg := form (of l)
def pick (k : Nat) (x y : Bool) : Bool := if k = 0 then x || y else if k = 1 then x && y else x && !y
def two (k : Nat) (a b : List Rg) : List Rg := form ((List.range 201).map fun (i : Nat) => pick k (holds a (i : Int)) (holds b (i : Int)))
def Covers (a b : List Rg) : Prop := ∀ n : Int, holds b n = true → holds a n = true
theorem holds_out {l : List Rg} {n : Int} (h : ¬ (0 ≤ n ∧ n ≤ 200)) : holds l n = false := by
 unfold holds
 rw [decide_eq_false h]
 rfl
theorem holds_cons (r : Rg) (l : List Rg) (n : Int) : holds (r :: l) n = ((decide (0 ≤ n ∧ n ≤ 200) && decide (r.1 ≤ n ∧ n ≤ r.2)) || holds l n) := by
 unfold holds
 rw [List.any_cons]
 cases decide (0 ≤ n ∧ n ≤ 200) <;> simp
theorem holds_nil (n : Int) : holds [] n = false := by simp [holds]
theorem of_same {a b : List Rg} (h : ∀ n, holds a n = holds b n) : of a = of b := by
 unfold of
 exact List.map_congr_left (fun k _ => h k)
theorem formR_none : ∀ (b : List Bool) (k : Nat), formR k none b = [] ↔ ∀ x ∈ b, x = false
 | [], k => by simp [formR]
 | false :: b, k => by
  unfold formR
  rw [formR_none b (k + 1)]
  simp
 | true :: b, k => by
  constructor
  ·intro h
   exfalso
   have hne : ∀ (b : List Bool) (k lo : Nat), formR k (some lo) b ≠ [] := by
    intro b
    induction b with
    | nil => intro k lo; simp [formR]
    | cons x b ih =>
     intro k lo
     cases x
     ·simp [formR]
     ·show formR (k + 1) (some lo) b ≠ []
      exact ih _ _
   exact hne b (k + 1) k h
  ·intro h
   have := h true (by simp)
   cases this
theorem covers_iff (a b : List Rg) : Covers a b ↔ two 2 b a = [] := by
 unfold two form
 rw [formR_none]
 constructor
 ·intro h x hx
  obtain ⟨k, hk, rfl⟩ := List.mem_map.1 hx
  show pick 2 (holds b (k : Int)) (holds a (k : Int)) = false
  have := h (k : Int)
  cases hb : holds b (k : Int)
  ·rfl
  ·rw [this hb]; rfl
 ·intro h n hb
  by_cases hn : 0 ≤ n ∧ n ≤ 200
  ·have := h _ (List.mem_map.2 ⟨n.toNat, List.mem_range.2 (show n.toNat < 201 by omega), rfl⟩)
   have e : ((n.toNat : Nat) : Int) = n := by omega
   rw [e, hb] at this
   cases ha : holds a n
   ·rw [ha] at this; cases this
   ·rfl
  ·rw [holds_out hn] at hb; cases hb
instance (a b : List Rg) : Decidable (Covers a b) := decidable_of_iff _ (covers_iff a b).symm
end Go.Proofs.Ytgpeobmaneponaa.Sz
namespace Go.Proofs.Ytgpeobmaneponaa.Flt
abbrev Tx := List UInt8
structure Cl where
 pre : Tx
 lo : Int
 hi : Int
deriving DecidableEq
def rg (c : Cl) : Sz.Rg := (c.lo, c.hi)
def Right (c : Cl) : Prop := (c.pre = [] ∨ Pth.Right c.pre) ∧ 0 ≤ c.lo ∧ c.lo ≤ c.hi ∧ c.hi ≤ 200
instance (c : Cl) : Decidable (Right c) := inferInstanceAs (Decidable (_ ∧ _))
def sizes (f : List Cl) (p : Tx) : List Sz.Rg := (f.filter fun c => decide (Pth.Covers c.pre p)).map rg
def ins (out : List Tx) (p : Tx) : List Tx := if (out.dropWhile fun q => decide (q < p)).head? = some p then out else out.takeWhile (fun q => decide (q < p)) ++ p :: out.dropWhile fun q => decide (q < p)
def prefixes (f : List Cl) : List Tx := f.foldl (fun out c => ins out c.pre) []
def above (f : List Cl) (p : Tx) : List Cl := f.filter fun c => decide (c.pre ≠ p ∧ Pth.Covers c.pre p)
def piece (f : List Cl) (p : Tx) : List Sz.Rg := Sz.two 2 (sizes f p) (sizes (above f p) p)
def clauses (p : Tx) (l : List Sz.Rg) : List Cl := l.map fun r => ⟨p, r.1, r.2⟩
def norm (f : List Cl) : List Cl := (prefixes f).flatMap fun p => clauses p (piece f p)
theorem tlt_trans {a b c : Tx} (h : a < b) (k : b < c) : a < c := List.lt_trans h k
def Up (l : List Tx) : Prop := l.Pairwise (· < ·)
theorem take_lt : ∀ {l : List Tx} {p : Tx}, ∀ q ∈ l.takeWhile (fun q => decide (q < p)), q < p := by
 intro l p
 induction l with
 | nil => intro q hq; cases hq
 | cons x l ih =>
  intro q hq
  by_cases hx : x < p
  ·rw [List.takeWhile_cons_of_pos (by simpa using hx)] at hq
   rcases List.mem_cons.1 hq with e | e
   ·rw [e]; exact hx
   ·exact ih q e
  ·rw [List.takeWhile_cons_of_neg (by simpa using hx)] at hq
   cases hq
theorem drop_ge {l : List Tx} (h : Up l) {p : Tx} : ∀ q ∈ l.dropWhile (fun q => decide (q < p)), ¬ q < p := by
 induction l with
 | nil => intro q hq; cases hq
 | cons x l ih =>
  intro q hq
  have hl := (List.pairwise_cons.1 h)
  by_cases hx : x < p
  ·rw [List.dropWhile_cons_of_pos (by simpa using hx)] at hq
   exact ih hl.2 q hq
  ·rw [List.dropWhile_cons_of_neg (by simpa using hx)] at hq
   rcases List.mem_cons.1 hq with e | e
   ·rw [e]; exact hx
   ·exact fun hh => hx (tlt_trans (hl.1 q e) hh)
end Go.Proofs.Ytgpeobmaneponaa.Flt
namespace Go.Proofs.Ytgpeobmaneponaa.Ver
structure V where
 by_ : Int
 n : Int
deriving DecidableEq
structure S where
 time : Int
 v : V
deriving DecidableEq
def Right (v : V) : Prop := 1 ≤ v.by_ ∧ v.by_ ≤ 64 ∧ 1 ≤ v.n
def RightS (s : S) : Prop := Right s.v ∧ 1 ≤ s.time
def Before (a b : V) : Prop := a.by_ < b.by_ ∨ (a.by_ = b.by_ ∧ a.n < b.n)
def Older (a b : S) : Prop := a.time < b.time ∨ (a.time = b.time ∧ Before a.v b.v)
instance (v : V) : Decidable (Right v) := inferInstanceAs (Decidable (_ ∧ _))
instance (s : S) : Decidable (RightS s) := inferInstanceAs (Decidable (_ ∧ _))
instance (a b : V) : Decidable (Before a b) := inferInstanceAs (Decidable (_ ∨ _))
instance (a b : S) : Decidable (Older a b) := inferInstanceAs (Decidable (_ ∨ _))
theorem v_ext {a b : V} (h : a.by_ = b.by_) (k : a.n = b.n) : a = b := by cases a; cases b; simp_all
theorem s_ext {a b : S} (h : a.time = b.time) (k : a.v = b.v) : a = b := by cases a; cases b; simp_all
theorem before_irrefl (a : V) : ¬ Before a a := by unfold Before; omega
theorem before_trans {a b c : V} (h : Before a b) (k : Before b c) : Before a c := by unfold Before at *; omega
theorem before_or {a b : V} (h : a ≠ b) : Before a b ∨ Before b a := by
 by_cases h1 : a.by_ = b.by_
 ·by_cases h2 : a.n = b.n
  ·exact absurd (v_ext h1 h2) h
  ·unfold Before; omega
 ·unfold Before; omega
theorem before_asymm {a b : V} (h : Before a b) : ¬ Before b a := fun k => before_irrefl a (before_trans h k)
theorem older_irrefl (a : S) : ¬ Older a a := by
 have := before_irrefl a.v
 unfold Older
 rintro (h | ⟨_, h⟩)
 ·omega
 ·exact this h
theorem older_trans {a b c : S} (h : Older a b) (k : Older b c) : Older a c := by
 unfold Older at *
 rcases h with h | ⟨h, h'⟩ <;> rcases k with k | ⟨k, k'⟩
 ·exact Or.inl (by omega)
 ·exact Or.inl (by omega)
 ·exact Or.inl (by omega)
 ·exact Or.inr ⟨by omega, before_trans h' k'⟩
theorem older_or {a b : S} (h : a ≠ b) : Older a b ∨ Older b a := by
 unfold Older
 by_cases h1 : a.time = b.time
 ·rcases before_or (a := a.v) (b := b.v) (fun e => h (s_ext h1 e)) with k | k
  ·exact Or.inl (Or.inr ⟨h1, k⟩)
  ·exact Or.inr (Or.inr ⟨h1.symm, k⟩)
 ·omega
theorem older_asymm {a b : S} (h : Older a b) : ¬ Older b a := fun k => older_irrefl a (older_trans h k)
def Up (l : List V) : Prop := l.Pairwise Before
def put (l : List V) (v : V) : List V := if (l.dropWhile fun x => decide (Before x v)).head? = some v then l else l.takeWhile (fun x => decide (Before x v)) ++ v :: l.dropWhile fun x => decide (Before x v)
def sort (l : List V) : List V := l.foldl put []
theorem put_mem {l : List V} {v x : V} : x ∈ put l v ↔ x = v ∨ x ∈ l := by
 have e : l.takeWhile (fun x => decide (Before x v)) ++ l.dropWhile (fun x => decide (Before x v)) = l := List.takeWhile_append_dropWhile
 unfold put
 split
 ·rename_i h
  have hp : v ∈ l := by
   rw [← e]
   exact List.mem_append.2 (Or.inr (List.mem_of_mem_head? (by rw [h]; rfl)))
  constructor
  ·exact Or.inr
  ·rintro (rfl | h)
   ·exact hp
   ·exact h
 ·rw [List.mem_append, List.mem_cons]
  constructor
  ·rintro (h | h | h)
   ·exact Or.inr (by rw [← e]; exact List.mem_append.2 (Or.inl h))
   ·exact Or.inl h
   ·exact Or.inr (by rw [← e]; exact List.mem_append.2 (Or.inr h))
  ·rintro (h | h)
   ·exact Or.inr (Or.inl h)
   ·rw [← e] at h
    rcases List.mem_append.1 h with h | h
    ·exact Or.inl h
    ·exact Or.inr (Or.inr h)
theorem take_lt {l : List V} {v : V} : ∀ x ∈ l.takeWhile (fun x => decide (Before x v)), Before x v := by
 intro x hx
 induction l with
 | nil => cases hx
 | cons a l ih =>
  rw [List.takeWhile_cons] at hx
  by_cases ha : Before a v
  ·rw [if_pos (decide_eq_true ha)] at hx
   rcases List.mem_cons.1 hx with rfl | hx
   ·exact ha
   ·exact ih hx
  ·rw [if_neg (by simpa using ha)] at hx; cases hx
theorem drop_ge {l : List V} (h : Up l) {v : V} : ∀ x ∈ l.dropWhile (fun x => decide (Before x v)), ¬ Before x v := by
 intro x hx
 induction l with
 | nil => cases hx
 | cons a l ih =>
  have h1 := List.pairwise_cons.1 h
  rw [List.dropWhile_cons] at hx
  by_cases ha : Before a v
  ·rw [if_pos (decide_eq_true ha)] at hx
   exact ih h1.2 hx
  ·rw [if_neg (by simpa using ha)] at hx
   rcases List.mem_cons.1 hx with rfl | hx
   ·exact ha
   ·exact fun k => ha (before_trans (h1.1 x hx) k)
theorem put_up {l : List V} (h : Up l) (v : V) : Up (put l v) := by
 have e : l.takeWhile (fun x => decide (Before x v)) ++ l.dropWhile (fun x => decide (Before x v)) = l := List.takeWhile_append_dropWhile
 unfold put
 split
 ·exact h
 ·rename_i hne
  have h0 : Up (l.takeWhile (fun x => decide (Before x v)) ++ l.dropWhile (fun x => decide (Before x v))) := by rw [e]; exact h
  obtain ⟨h1, h2, h3⟩ := List.pairwise_append.1 h0
  have hgt : ∀ x ∈ l.dropWhile (fun x => decide (Before x v)), Before v x := by
   intro x hx
   have hn := drop_ge h x hx
   by_cases ex : x = v
   ·exfalso
    subst ex
    cases hd : l.dropWhile (fun y => decide (Before y x)) with
    | nil => rw [hd] at hx; cases hx
    | cons a t =>
     rw [hd] at hne hx h2
     have hax : a ≠ x := fun k => hne (by rw [k]; rfl)
     have ht : x ∈ t := (List.mem_cons.1 hx).resolve_left (fun k => hax k.symm)
     exact drop_ge h a (by rw [hd]; simp) ((List.pairwise_cons.1 h2).1 x ht)
   ·exact (before_or ex).resolve_left hn
  refine List.pairwise_append.2 ⟨h1, List.pairwise_cons.2 ⟨hgt, h2⟩, fun x hx y hy => ?_⟩
  rcases List.mem_cons.1 hy with rfl | hy
  ·exact take_lt x hx
  ·exact before_trans (take_lt x hx) (hgt y hy)
theorem sort_aux (l : List V) : ∀ out : List V, Up out → Up (l.foldl put out) ∧ ∀ x, x ∈ l.foldl put out ↔ x ∈ out ∨ x ∈ l := by
 induction l with
 | nil => intro out h; exact ⟨h, fun x => by simp⟩
 | cons a l ih =>
  intro out h
  obtain ⟨h1, h2⟩ := ih (put out a) (put_up h a)
  refine ⟨h1, fun x => ?_⟩
  rw [List.foldl_cons, h2 x, put_mem, List.mem_cons]
  constructor
  ·rintro ((h | h) | h)
   ·exact Or.inr (Or.inl h)
   ·exact Or.inl h
   ·exact Or.inr (Or.inr h)
  ·rintro (h | h | h)
   ·exact Or.inl (Or.inr h)
   ·exact Or.inl (Or.inl h)
   ·exact Or.inr h
theorem sort_up (l : List V) : Up (sort l) := (sort_aux l [] List.Pairwise.nil).1
theorem sort_mem (l : List V) (x : V) : x ∈ sort l ↔ x ∈ l := by
 have := (sort_aux l [] List.Pairwise.nil).2 x
 unfold sort
 rw [this]
 simp
theorem put_len (l : List V) (v : V) : (put l v).length ≤ l.length + 1 := by
 have e : l.takeWhile (fun x => decide (Before x v)) ++ l.dropWhile (fun x => decide (Before x v)) = l := List.takeWhile_append_dropWhile
 have e2 := congrArg List.length e
 rw [List.length_append] at e2
 unfold put
 split
 ·omega
 ·rw [List.length_append, List.length_cons]; omega
theorem sort_take (l : List V) (i : Nat) (x : V) (hx : l[i]? = some x) : sort (l.take (i + 1)) = put (sort (l.take i)) x := by
 obtain ⟨hl, he⟩ := List.getElem?_eq_some_iff.1 hx
 unfold sort
 rw [List.take_succ_eq_append_getElem hl, he, List.foldl_append]
 rfl
theorem sort_len (l : List V) : (sort l).length ≤ l.length := by
 have : ∀ (l out : List V), (l.foldl put out).length ≤ out.length + l.length := by
  intro l
  induction l with
  | nil => intro out; simp
  | cons a l ih =>
   intro out
   have h1 := ih (put out a)
   have h2 := put_len out a
   rw [List.foldl_cons, List.length_cons]
   omega
 have := this l []
 simpa [sort] using this
def most (time : Int) (l : List Int) : Int := l.foldl max (max time 0)
theorem put_cut : ∀ (l : List V) (k : V) (n : Nat), (∀ x ∈ l.take n, Before x k) → (∀ x, l[n]? = some x → ¬ Before x k) → n ≤ l.length →
  l.takeWhile (fun q => decide (Before q k)) = l.take n ∧ l.dropWhile (fun q => decide (Before q k)) = l.drop n
 | l, k, 0, _, h2, _ => by
  cases l with
  | nil => exact ⟨rfl, rfl⟩
  | cons y l =>
   have hy := h2 y rfl
   exact ⟨by rw [List.takeWhile_cons, if_neg (by simpa using hy)]; rfl, by rw [List.dropWhile_cons, if_neg (by simpa using hy)]; rfl⟩
 | [], k, n + 1, _, _, hn => by simp at hn
 | y :: l, k, n + 1, h1, h2, hn => by
  have hy := h1 y (by simp)
  obtain ⟨r1, r2⟩ := put_cut l k n (fun x hx => h1 x (by simp [hx])) (fun x hx => h2 x (by simpa using hx)) (by simpa using hn)
  exact ⟨by rw [List.takeWhile_cons, if_pos (by simpa using hy), r1]; rfl, by rw [List.dropWhile_cons, if_pos (by simpa using hy), r2]; rfl⟩
theorem put_at {l : List V} {k : V} {n : Nat} (h1 : ∀ x ∈ l.take n, Before x k) (h2 : ∀ x, l[n]? = some x → ¬ Before x k) (hn : n ≤ l.length) : put l k = if l[n]? = some k then l else l.take n ++ [k] ++ l.drop n := by
 obtain ⟨r1, r2⟩ := put_cut l k n h1 h2 hn
 unfold put
 rw [r1, r2, List.head?_drop]
 simp
end Go.Proofs.Ytgpeobmaneponaa.Ver
namespace Go.Proofs.Ytgpeobmaneponaa.Upd
open Flt (Tx Cl)
open Ver (V S)
structure U where
 item : V
 stamp : S
 path : Tx
 data : Tx
 dead : Bool
deriving DecidableEq
structure M where
 item : V
 stamp : S
 path : Tx
 size : Int
 dead : Bool
deriving DecidableEq
def meta_ (u : U) : M := ⟨u.item, u.stamp, u.path, (u.data.length : Int), u.dead⟩
def check (u : U) : Nat := if ¬ (Ver.Right u.item ∧ Ver.RightS u.stamp) then 1 else if ¬ Pth.Right u.path then 2 else if 200 < u.data.length then 3 else if u.dead = true ∧ u.data ≠ [] then 4 else 0
def checkM (m : M) : Nat := if ¬ (Ver.Right m.item ∧ Ver.RightS m.stamp) then 1 else if ¬ Pth.Right m.path then 2 else if 200 < m.size then 3 else if m.size < 0 ∨ (m.dead = true ∧ 0 < m.size) then 4 else 0
def Wins (a b : U) : Prop := Ver.Older b.stamp a.stamp
instance (a b : U) : Decidable (Wins a b) := inferInstanceAs (Decidable (Ver.Older _ _))
theorem wins_asymm {a b : U} (h : Wins a b) : ¬ Wins b a := Ver.older_asymm h
theorem wins_trans {a b c : U} (h : Wins a b) (k : Wins b c) : Wins a c := Ver.older_trans k h
theorem wins_or (a b : U) : (Wins a b ∨ Wins b a) ↔ a.stamp ≠ b.stamp := by
 constructor
 ·rintro (h | h) e
  ·unfold Wins at h; rw [e] at h; exact Ver.older_irrefl _ h
  ·unfold Wins at h; rw [e] at h; exact Ver.older_irrefl _ h
 ·intro h
  rcases Ver.older_or h with k | k
  ·exact Or.inr k
  ·exact Or.inl k
def step (item : V) (acc : Option U) (u : U) : Option U := if u.item = item then match acc with
 | none => some u
 | some b => if Wins u b then some u else acc else acc
def best (l : List U) (item : V) : Option U := l.foldl (step item) none
theorem best_take (l : List U) (item : V) (i : Nat) (x : U) (hx : l[i]? = some x) : best (l.take (i + 1)) item = step item (best (l.take i) item) x := by
 obtain ⟨hl, he⟩ := List.getElem?_eq_some_iff.1 hx
 unfold best
 rw [List.take_succ_eq_append_getElem hl, he, List.foldl_append]
 rfl
theorem best_more (l : List U) (item : V) (x : U) : best (l ++ [x]) item = step item (best l item) x := by
 unfold best
 rw [List.foldl_append]; rfl
def Best (l : List U) (item : V) (u : U) : Prop := ∃ a b, l = a ++ u :: b ∧ u.item = item ∧ (∀ x ∈ a, x.item = item → Wins u x) ∧ ∀ x ∈ b, x.item = item → ¬ Wins x u
theorem best_is : ∀ (n : Nat) (l : List U) (item : V), l.length = n → (∀ u, best l item = some u → Best l item u) ∧ (best l item = none → ∀ x ∈ l, x.item ≠ item)
 | 0, l, item, h => by
  rw [List.eq_nil_of_length_eq_zero h]
  exact ⟨fun u hu => (by cases hu), fun _ x hx => (by cases hx)⟩
 | n + 1, l, item, h => by
  obtain ⟨m, x, rfl⟩ : ∃ m x, l = m ++ [x] := by
   have hne : l ≠ [] := fun e => by rw [e] at h; cases h
   exact ⟨l.dropLast, l.getLast hne, (List.dropLast_concat_getLast hne).symm⟩
  have hm : m.length = n := by simpa using h
  obtain ⟨h1, h2⟩ := best_is n m item hm
  rw [best_more]
  unfold step
  by_cases hx : x.item = item
  ·rw [if_pos hx]
   cases hb : best m item with
   | none =>
    have h2 := h2 hb
    refine ⟨fun u hu => ?_, fun hu => (by cases hu)⟩
    have : x = u := by simpa using hu
    subst this
    exact ⟨m, [], rfl, hx, fun y hy e => absurd e (h2 y hy), fun y hy => (by cases hy)⟩
   | some b =>
    obtain ⟨p, q, e, hbi, hp, hq⟩ := h1 b hb
    simp only
    by_cases hw : Wins x b
    ·rw [if_pos hw]
     refine ⟨fun u hu => ?_, fun hu => (by cases hu)⟩
     have : x = u := by simpa using hu
     subst this
     refine ⟨m, [], rfl, hx, fun y hy hyi => ?_, fun y hy => (by cases hy)⟩
     rw [e] at hy
     rcases List.mem_append.1 hy with hy | hy
     ·exact wins_trans hw (hp y hy hyi)
     ·rcases List.mem_cons.1 hy with rfl | hy
      ·exact hw
      ·have := hq y hy hyi
       by_cases ey : b.stamp = y.stamp
       ·unfold Wins at hw ⊢
        rw [← ey]; exact hw
       ·exact wins_trans hw (((wins_or b y).2 ey).resolve_right this)
    ·rw [if_neg hw]
     refine ⟨fun u hu => ?_, fun hu => (by cases hu)⟩
     have : b = u := by simpa using hu
     subst this
     refine ⟨p, q ++ [x], by rw [e]; simp, hbi, hp, fun y hy hyi => ?_⟩
     rcases List.mem_append.1 hy with hy | hy
     ·exact hq y hy hyi
     ·rw [List.mem_singleton.1 hy]; exact hw
  ·rw [if_neg hx]
   refine ⟨fun u hu => ?_, fun hu y hy => ?_⟩
   ·obtain ⟨p, q, e, hbi, hp, hq⟩ := h1 u hu
    refine ⟨p, q ++ [x], by rw [e]; simp, hbi, hp, fun y hy hyi => ?_⟩
    rcases List.mem_append.1 hy with hy | hy
    ·exact hq y hy hyi
    ·rw [List.mem_singleton.1 hy] at hyi; exact absurd hyi hx
   ·rcases List.mem_append.1 hy with hy | hy
    ·exact h2 hu y hy
    ·rw [List.mem_singleton.1 hy]; exact hx
theorem best_item {l : List U} {item : V} {u : U} (h : best l item = some u) : u.item = item ∧ u ∈ l := by
 obtain ⟨p, q, e, hi, _⟩ := (best_is _ l item rfl).1 u h
 exact ⟨hi, by rw [e]; simp⟩
def view (l : List U) (P : U → Bool) : List U := (Ver.sort (l.map (·.item))).filterMap fun i => match best l i with
 | some u => if P u then some u else none
 | none => none
end Go.Proofs.Ytgpeobmaneponaa.Upd
namespace Go.Proofs.Ytgpeobmaneponaa
open Go.RowKit
structure Kept (F : Nat → Prop) (w w' : World) : Prop where
 os : w'.os = w.os
 tape : w'.tape = w.tape
 output : w'.output = w.output
 size : w.heap.size ≤ w'.heap.size
 block : ∀ k, k < w.heap.size → ¬ F k → w'.heap[k]? = w.heap[k]?
def Grow (F : Nat → Prop) (w w' : World) (k : Nat) : Prop := F k ∨ (w.heap.size ≤ k ∧ k < w'.heap.size)
section
variable {F G : Nat → Prop} {a b c w w' : World}
theorem Kept.refl (F : Nat → Prop) (w : World) : Kept F w w := ⟨rfl, rfl, rfl, Nat.le_refl _, fun _ _ _ => rfl⟩
theorem Kept.trans (h : Kept F a b) (k : Kept G b c) (hG : ∀ i, i < a.heap.size → G i → F i) : Kept F a c :=
 ⟨k.os.trans h.os, k.tape.trans h.tape, k.output.trans h.output, Nat.le_trans h.size k.size, fun i hi hn => (k.block i (Nat.lt_of_lt_of_le hi h.size) (fun hg => hn (hG i hi hg))).trans (h.block i hi hn)⟩
theorem Kept.mono (h : Kept F a b) (hF : ∀ i, F i → G i) : Kept G a b := ⟨h.os, h.tape, h.output, h.size, fun i hi hn => h.block i hi (fun hf => hn (hF i hf))⟩
theorem Kept.ofBelow (h : Below a.heap.size a b) (F : Nat → Prop) : Kept F a b := ⟨h.os, h.tape, h.output, h.size, fun i hi _ => h.block i hi⟩
theorem Kept.ofGrown {r : Option Nat} (h : a.grownBy b r) (hr : ∀ i, r = some i → F i) : Kept F a b := ⟨h.os, h.tape, h.output, h.size, fun i hi hn => h.block i hi (fun e => hn (hr i e.symm))⟩
theorem Kept.grown {i : Nat} (h : Kept (fun k => k = i) a b) : a.grownBy b (some i) := ⟨h.os, h.tape, h.output, h.size, fun k hk hn => h.block k hk (fun e => hn (by rw [e]))⟩
theorem Kept.below (h : Kept F a b) {B : Nat} (hB : B ≤ a.heap.size) (hF : ∀ i, F i → B ≤ i) : Below B a b := ⟨h.os, h.tape, h.output, h.size, fun i hi => h.block i (by omega) (fun hf => by have := hF i hf; omega)⟩
theorem Kept.drew (h : Kept F a b) : Kept F a b.drew := ⟨h.os, h.tape, h.output, h.size, h.block⟩
theorem Kept.alloc (h : Kept F a b) (o : Obj) : Kept F a (b.alloc o) :=
 h.trans (G := F) ⟨rfl, rfl, rfl, by simp, fun i hi _ => Below.heap_alloc b o i hi⟩ (fun _ _ h => h)
theorem Kept.stored (h : Kept F a b) {p : Addr} (hp : F p.block ∨ a.heap.size ≤ p.block) (u : Value) : Kept F a (b.setCell p u) :=
 ⟨h.os, h.tape, h.output, by simpa [World.setCell] using h.size, fun i hi hn => by
  rcases hp with hp | hp
  ·exact (Below.heap_setCell b p u i (fun e => hn (by rw [e]; exact hp))).trans (h.block i hi hn)
  ·exact (Below.heap_setCell b p u i (by omega)).trans (h.block i hi hn)⟩
theorem Grow.old {k : Nat} (h : F k) : Grow F a b k := Or.inl h
theorem Grow.lt {k : Nat} (h : Grow F a b k) (hF : ∀ k, F k → k < a.heap.size) (hs : a.heap.size ≤ b.heap.size) : k < b.heap.size := by
 rcases h with h | h
 ·exact Nat.lt_of_lt_of_le (hF k h) hs
 ·exact h.2
theorem Grow.trans {k : Nat} (h : Grow (Grow F a b) b c k) (hab : a.heap.size ≤ b.heap.size) (hbc : b.heap.size ≤ c.heap.size) : Grow F a c k := by
 rcases h with (h | h) | h
 ·exact Or.inl h
 ·exact Or.inr ⟨h.1, by omega⟩
 ·exact Or.inr ⟨by omega, h.2⟩
theorem Kept.same (h : Kept F w w') {k : Nat} (hk : k < w.heap.size) (hn : ¬ F k) : w'.heap[k]? = w.heap[k]? := h.block k hk hn
theorem Kept.cell (h : Kept F w w') {p : Addr} (hk : p.block < w.heap.size) (hn : ¬ F p.block) : w'.cell? p = w.cell? p := World.cell?_of_block (w := w) (h.block p.block hk hn)
theorem Row.kept {t : TypeId} {i : Nat} {cs : Array Value} (hr : Row w i t cs) (h : Kept F w w') (hn : ¬ F i) : Row w' i t cs := (h.block i hr.inHeap hn).trans hr
end
def Cells (w : World) (F : Nat → Prop) (v : Value) (us : List Value) : Prop :=
 ∃ A cap, v = .slice A us.length cap ∧ us.length ≤ cap ∧ (0 < us.length → ∃ b o, A = some ⟨b, o, none⟩ ∧ F b ∧ b < w.heap.size ∧ ∀ i u, us[i]? = some u → w.cell? ⟨b, o + i, none⟩ = some u)
section
variable {F G : Nat → Prop} {w w' : World} {v : Value} {us : List Value}
theorem Cells.none (w : World) (F : Nat → Prop) : Cells w F (.slice none 0 0) [] := ⟨Option.none, 0, rfl, Nat.le_refl _, fun h => absurd h (by simp)⟩
theorem Cells.kept (h : Cells w F v us) (k : Kept G w w') (hd : ∀ i, F i → ¬ G i) : Cells w' F v us := by
 obtain ⟨A, cap, h1, h2, h3⟩ := h
 refine ⟨A, cap, h1, h2, fun hp => ?_⟩
 obtain ⟨b, o, e, hb, hl, hc⟩ := h3 hp
 exact ⟨b, o, e, hb, Nat.lt_of_lt_of_le hl k.size, fun i u hu => (k.cell (p := ⟨b, o + i, Option.none⟩) hl (hd b hb)).trans (hc i u hu)⟩
theorem Cells.mono (h : Cells w F v us) (hF : ∀ i, F i → G i) : Cells w G v us := by
 obtain ⟨A, cap, h1, h2, h3⟩ := h
 refine ⟨A, cap, h1, h2, fun hp => ?_⟩
 obtain ⟨b, o, e, hb, r⟩ := h3 hp
 exact ⟨b, o, e, hF b hb, r⟩
theorem Cells.ofOwn {base t n : Nat} (h : w.ownsRow base t 1 v n us) (hF : ∀ b, v.ownBlock = some b → base ≤ b → b < w.heap.size → F b) : Cells w F v us := by
 have hn : us.length = n := by rw [h.1, Nat.mul_one]
 subst hn
 rcases h.2 with ⟨hv, h0⟩ | ⟨g, cap, cur, hv, hb, hg, hc, hm, hs, ht⟩
 ·rw [hv]
  have : us = [] := List.eq_nil_of_length_eq_zero h0
  rw [this]
  exact Cells.none _ _
 ·refine ⟨some ⟨g, 0, Option.none⟩, cap, hv, hc, fun _ => ⟨g, 0, rfl, hF g (by rw [hv]; rfl) hb (lt_of_block hg), lt_of_block hg, fun i u hu => ?_⟩⟩
  rw [cell_of_row w g _ cur t (0, 0) hg, Nat.zero_add]
  rw [← ht, List.getElem?_take] at hu
  split at hu
  ·rw [Array.getElem?_toList] at hu; exact hu
  ·cases hu
end
end Go.Proofs.Ytgpeobmaneponaa
namespace Go.Proofs.Ytgpeobmaneponaa
open Go.RowKit
def Rws {α : Type} (k : Nat) (f : α → List Value) (w : World) (F : Nat → Prop) (v : Value) (l : List α) : Prop :=
 ∃ A cap, v = .slice A l.length cap ∧ l.length ≤ cap ∧ (0 < l.length → ∃ b o, A = some ⟨b, o, none⟩ ∧ F b ∧ b < w.heap.size ∧ ∀ i x, l[i]? = some x → ∀ j u, (f x)[j]? = some u → w.cell? ⟨b, o + i * k + j, none⟩ = some u)
section
variable {α : Type} {k : Nat} {f : α → List Value} {w w' : World} {F G : Nat → Prop} {v : Value} {l : List α}
theorem Rws.none (w : World) (F : Nat → Prop) (c : Nat) : Rws k f w F (.slice none 0 c) [] := ⟨Option.none, c, rfl, Nat.zero_le _, fun h => absurd h (by simp)⟩
theorem Rws.empty (w : World) (F : Nat → Prop) (A : Option Addr) (c : Nat) : Rws k f w F (.slice A 0 c) [] := ⟨A, c, rfl, Nat.zero_le _, fun h => absurd h (by simp)⟩
theorem Rws.kept (h : Rws k f w F v l) (hk : Kept G w w') (hd : ∀ i, F i → ¬ G i) : Rws k f w' F v l := by
 obtain ⟨A, cap, h1, h2, h3⟩ := h
 refine ⟨A, cap, h1, h2, fun hp => ?_⟩
 obtain ⟨b, o, e, hb, hl, hc⟩ := h3 hp
 exact ⟨b, o, e, hb, Nat.lt_of_lt_of_le hl hk.size, fun i x hx j u hu => (hk.cell (p := ⟨b, _, Option.none⟩) hl (hd b hb)).trans (hc i x hx j u hu)⟩
theorem Rws.below (h : Rws k f w F v l) (hk : Below w.heap.size w w') : Rws k f w' F v l := h.kept (Kept.ofBelow hk (fun _ => False)) (fun _ _ h => h)
theorem Rws.mono (h : Rws k f w F v l) (hF : ∀ i, F i → G i) : Rws k f w G v l := by
 obtain ⟨A, cap, h1, h2, h3⟩ := h
 refine ⟨A, cap, h1, h2, fun hp => ?_⟩
 obtain ⟨b, o, e, hb, r⟩ := h3 hp
 exact ⟨b, o, e, hF b hb, r⟩
theorem Rws.lt (h : Rws k f w F v l) : Rws k f w (fun i => F i ∧ i < w.heap.size) v l := by
 obtain ⟨A, cap, h1, h2, h3⟩ := h
 refine ⟨A, cap, h1, h2, fun hp => ?_⟩
 obtain ⟨b, o, e, hb, r⟩ := h3 hp
 exact ⟨b, o, e, ⟨hb, r.1⟩, r⟩
theorem rows_at : ∀ (l : List α), (∀ x ∈ l, (f x).length = k) → ∀ (i : Nat) (x : α), l[i]? = some x → ∀ (j : Nat) (u : Value), (f x)[j]? = some u → (l.flatMap f)[i * k + j]? = some u
 | [], _, i, x, hx, _, _, _ => by cases hx
 | y :: l, hk, 0, x, hx, j, u, hu => by
  simp at hx
  subst hx
  rw [List.flatMap_cons, Nat.zero_mul, Nat.zero_add, List.getElem?_append_left (by obtain ⟨h, _⟩ := List.getElem?_eq_some_iff.1 hu; exact h)]
  exact hu
 | y :: l, hk, i + 1, x, hx, j, u, hu => by
  have hy := hk y (by simp)
  rw [List.flatMap_cons, List.getElem?_append_right (by rw [hy, Nat.add_one_mul]; omega), hy]
  have e : (i + 1) * k + j - k = i * k + j := by rw [Nat.add_one_mul]; omega
  rw [e]
  exact rows_at l (fun z hz => hk z (List.mem_cons_of_mem _ hz)) i x (by simpa using hx) j u hu
theorem rows_of : ∀ (l : List α), (∀ x ∈ l, (f x).length = k) → ∀ (m : Nat) (u : Value), (l.flatMap f)[m]? = some u → ∃ i x j, l[i]? = some x ∧ (f x)[j]? = some u ∧ m = i * k + j
 | [], _, m, u, h => by simp at h
 | y :: l, hk, m, u, h => by
  have hy := hk y (by simp)
  rw [List.flatMap_cons] at h
  by_cases hm : m < k
  ·rw [List.getElem?_append_left (by omega)] at h
   exact ⟨0, y, m, rfl, h, by omega⟩
  ·rw [List.getElem?_append_right (by omega), hy] at h
   obtain ⟨i, x, j, h1, h2, h3⟩ := rows_of l (fun z hz => hk z (List.mem_cons_of_mem _ hz)) _ u h
   exact ⟨i + 1, x, j, by simpa using h1, h2, by rw [Nat.add_one_mul]; omega⟩
theorem rows_len : ∀ (l : List α), (∀ x ∈ l, (f x).length = k) → (l.flatMap f).length = l.length * k
 | [], _ => by simp
 | y :: l, hk => by
  rw [List.flatMap_cons, List.length_append, rows_len l (fun z hz => hk z (List.mem_cons_of_mem _ hz)), hk y (by simp), List.length_cons, Nat.add_one_mul]
  omega
theorem Rws.ofOwn {base t n : Nat} (h : w.ownsRow base t k v n (l.flatMap f)) (hl : l.length = n) (hk : ∀ x ∈ l, (f x).length = k) (hF : ∀ b, v.ownBlock = some b → base ≤ b → b < w.heap.size → F b) : Rws k f w F v l := by
 subst hl
 rcases h.2 with ⟨hv, h0⟩ | ⟨g, cap, cur, hv, hb, hg, hc, hm, hs, ht⟩
 ·rw [hv]
  have : l = [] := List.eq_nil_of_length_eq_zero h0
  rw [this]
  exact Rws.none _ _ _
 ·refine ⟨some ⟨g, 0, Option.none⟩, cap, hv, hc, fun _ => ⟨g, 0, rfl, hF g (by rw [hv]; rfl) hb (lt_of_block hg), lt_of_block hg, fun i x hx j u hu => ?_⟩⟩
  have hr := rows_at l hk i x hx j u hu
  rw [cell_of_row w g _ cur t (0, 0) hg, Nat.zero_add]
  rw [← ht, List.getElem?_take] at hr
  split at hr
  ·rw [Array.getElem?_toList] at hr; exact hr
  ·cases hr
theorem Rws.take (h : Rws k f w F v l) {A : Option Addr} {cap : Nat} (hv : v = .slice A l.length cap) (i : Nat) (hi : i ≤ l.length) (c : Nat) (hc : i ≤ c) : Rws k f w F (.slice A i c) (l.take i) := by
 obtain ⟨B, cap', h1, h2, h3⟩ := h
 rw [h1] at hv
 injection hv with e1 e2 e3
 subst e1
 have hl : (l.take i).length = i := by rw [List.length_take]; omega
 refine ⟨B, c, by rw [hl], by rw [hl]; exact hc, fun hp => ?_⟩
 rw [hl] at hp
 obtain ⟨b, o, e, hb, hlt, hcl⟩ := h3 (by omega)
 exact ⟨b, o, e, hb, hlt, fun m x hx => hcl m x (by rw [List.getElem?_take] at hx; split at hx; exact hx; cases hx)⟩
theorem Rws.drop (h : Rws k f w F v l) {b o cap : Nat} (hv : v = .slice (some ⟨b, o, Option.none⟩) l.length cap) (i : Nat) (hi : i ≤ l.length) (c : Nat) (hc : l.length - i ≤ c) : Rws k f w F (.slice (some ⟨b, o + i * k, Option.none⟩) (l.length - i) c) (l.drop i) := by
 obtain ⟨B, cap', h1, h2, h3⟩ := h
 rw [h1] at hv
 injection hv with e1 e2 e3
 subst e1
 have hl : (l.drop i).length = l.length - i := List.length_drop
 refine ⟨_, c, by rw [hl], by rw [hl]; exact hc, fun hp => ?_⟩
 rw [hl] at hp
 obtain ⟨b', o', e, hb, hlt, hcl⟩ := h3 (by omega)
 injection e with e
 injection e with e1 e2
 subst e1 e2
 refine ⟨b, o + i * k, rfl, hb, hlt, fun m x hx j u hu => ?_⟩
 rw [List.getElem?_drop] at hx
 have := hcl (i + m) x hx j u hu
 rw [show o + (i + m) * k + j = o + i * k + m * k + j by rw [Nat.add_mul]; omega] at this
 exact this
end
section
variable {P : Program} {α : Type} {k : Nat} {f : α → List Value}
theorem join_nothing {w : World} (base : Nat) (t ty e : TypeId) (i : TypeInfo) (size c : Nat) (ht : P.underlying t = some (.slice e)) (hi : P.info? e = some i) (v : Value) (n : Nat) (xs : List Value) (hown : w.ownsRow base e size v n xs) :
  (Builtin.append_ #[t, t] ty #[v, .slice none 0 c]).run P w = .ok v w := by
 rcases hown.2 with ⟨rfl, rfl⟩ | ⟨g, cap, cur, rfl, _, _, hnc, _⟩
 ·simp [Builtin.append_, run_underlying ht, sizeOf, typeInfo, hi, Builtin.lenOf, Builtin.firstCells]
 ·simp [Builtin.append_, run_underlying ht, sizeOf, typeInfo, hi, Builtin.lenOf, Builtin.firstCells, hnc, storeCells]
theorem join_rows {w : World} (base : Nat) (t ty e : TypeId) (i : TypeInfo) (z : Value) (bytes : Nat) (ht : P.underlying t = some (.slice e)) (hi : P.info? e = some i) (hz : i.zero = some z) (hsize : i.size = k) (hby : i.bytes = bytes) (hzs : z.cells.size = k) (hsz : 0 < k)
  {v xv : Value} {n : Nat} {xs : List Value} {F : Nat → Prop} {l : List α} (hown : w.ownsRow base e k v n xs) (hx : Rws k f w F xv l) (hk : ∀ x ∈ l, (f x).length = k) (h1 : ∀ x ∈ l, ∀ u ∈ f x, u.oneCell' = true)
  (h63 : n + l.length ≤ maxLen) (hbytes : (n + l.length) * bytes ≤ 140737488355328) (hbase : base ≤ w.heap.size) :
  ∃ v' w', (Builtin.append_ #[t, t] ty #[v, xv]).run P w = .ok v' w' ∧ w'.ownsRow base e k v' (n + l.length) (xs ++ l.flatMap f) ∧ w.grownBy w' v.ownBlock := by
 obtain ⟨A, c, rfl, hc, hat⟩ := hx
 have hone : ∀ u ∈ l.flatMap f, u.oneCell' = true := by
  intro u hu
  obtain ⟨x, hx, hu⟩ := List.mem_flatMap.1 hu
  exact h1 x hx u hu
 have hgo : ∀ ad : Addr, A = some ad → (∀ j u, (l.flatMap f)[j]? = some u → w.cell? (ad.add j) = some u) → ∃ v' w', (Builtin.append_ #[t, t] ty #[v, .slice A l.length c]).run P w = .ok v' w' ∧ w'.ownsRow base e k v' (n + l.length) (xs ++ l.flatMap f) ∧ w.grownBy w' v.ownBlock := by
  rintro ad rfl hnews
  obtain ⟨v', w', r1, r2, r3, -⟩ := run_append_own w base t ty e i z k bytes ht hi hz hsize hby hzs hsz v n xs hown ad l.length c (l.flatMap f) (rows_len l hk) hnews hone h63 hbytes hbase
  exact ⟨v', w', r1, r2, r3⟩
 by_cases h0 : 0 < l.length
 ·obtain ⟨b, o, rfl, -, hbl, hcell⟩ := hat h0
  refine hgo _ rfl (fun j u hu => ?_)
  obtain ⟨m, x, r, e1, e2, rfl⟩ := rows_of l hk j u hu
  rw [Go.WideShapes.add_plain, ← Nat.add_assoc]
  exact hcell m x e1 r u e2
 ·have hl : l = [] := List.eq_nil_of_length_eq_zero (by omega)
  subst hl
  cases A with
  | none => exact ⟨v, w, join_nothing base t ty e i k c ht hi v n xs hown, by simpa using hown, rfl, rfl, rfl, Nat.le_refl _, fun _ _ _ => rfl⟩
  | some ad => exact hgo ad rfl (fun j u hu => by simp at hu)
end
end Go.Proofs.Ytgpeobmaneponaa
namespace Go.Proofs.Ytgpeobmaneponaa
open Go.RowKit
theorem bytes_ext {a b : ByteArray} (h : a.data.toList = b.data.toList) : a = b := ByteArray.ext (Array.toList_inj.1 h)
end Go.Proofs.Ytgpeobmaneponaa
namespace Go.Proofs.Ytgpeobmaneponaa
open Go.RowKit
def mk (l : List UInt8) : ByteArray := ⟨l.toArray⟩
theorem mk_data (l : List UInt8) : (mk l).data.toList = l := rfl
theorem mk_len (l : List UInt8) : (mk l).size = l.length := by rw [Lib.size_eq]; rfl
theorem mk_of (s : ByteArray) : mk s.data.toList = s := bytes_ext rfl
def texts (l : List (List UInt8)) : List Value := l.map fun t => Value.string (mk t)
theorem texts_len (l : List (List UInt8)) : (texts l).length = l.length := List.length_map _
theorem texts_at {l : List (List UInt8)} {i : Nat} {t : List UInt8} (h : l[i]? = some t) : (texts l)[i]? = some (.string (mk t)) := by
 unfold texts
 rw [List.getElem?_map, h]; rfl
def NewIn (w w' : World) (k : Nat) : Prop := w.heap.size ≤ k ∧ k < w'.heap.size
end Go.Proofs.Ytgpeobmaneponaa
