import Derived.Below
import Derived.Laws.OwnMore
import Derived.Deep.Draws
import Derived.Laws.Rows
import Derived.OneCell
import Derived.OwnWalk
set_option maxRecDepth 100000
set_option linter.all false
namespace Go.Proofs.YtkcgmnhjofoeiaaGreat
theorem zz : (∀ (a : Act) (o : Option Nat) (v : Value), a.put o v = match o with | some d => { a with tmps := a.tmps.setIfInBounds d v } | none => a) ∧ (∀ {α : Type} (xs : List α) (i : Nat) (h : i < xs.toArray.size), xs.toArray[i] = xs[i]'(by simpa using h)) ∧ (∀ {α : Type} (a : α) (l : List α) (h : 0 < (a :: l).length), (a :: l)[0] = a) ∧ (∀ {α : Type} (a : α) (l : List α) (i : Nat) (h : i + 1 < (a :: l).length), (a :: l)[i + 1] = l[i]'(by simpa using h)) ∧ (∀ {α : Type} (l : List α) (i : Nat) (a : α), l.toArray.setIfInBounds i a = (l.set i a).toArray) ∧ (∀ {α : Type} (a b : α) (l : List α), (a :: l).set 0 b = b :: l) ∧ (∀ {α : Type} (a b : α) (l : List α) (i : Nat), (a :: l).set (i + 1) b = a :: l.set i b) :=
 ⟨fun _ _ _ => rfl, fun _ _ _ => List.getElem_toArray _, fun _ _ _ => rfl, fun _ _ _ _ => rfl, fun _ _ _ => List.setIfInBounds_toArray .., fun _ _ _ => rfl, fun _ _ _ _ => rfl⟩
open Go.RowKit
def Row (w : World) (b : Nat) (t : TypeId) (cs : Array Value) : Prop := w.heap[b]? = some (Obj.cells cs t (0, 0))
section
variable {w w' : World} {b : Nat} {t : TypeId} {cs : Array Value}
theorem Row.inHeap (h : Row w b t cs) : b < w.heap.size := lt_of_block h
theorem Row.at (h : Row w b t cs) (i : Nat) : w.cell? ⟨b, i, none⟩ = cs[i]? := cell_of_row w b i cs t (0, 0) h
theorem Row.free (h : Row w b t cs) (i : Nat) : w.frozen? ⟨b, i, none⟩ = false := by
 have h' : w.heap[b]? = some (Obj.cells cs t (0, 0)) := h
 simp only [World.frozen?, h']
 simp
theorem Row.made (w : World) (t : TypeId) (cs : Array Value) : Row (w.alloc (.cells cs t)) w.heap.size t cs := heap_alloc_new w _
theorem Row.behindDraws (h : Row w b t cs) (n : Nat) : Row (w.drewN n) b t cs := h
theorem Row.behindNew (h : Row w b t cs) (o : Obj) : Row (w.alloc o) b t cs := (Below.heap_alloc w o b h.inHeap).trans h
theorem Row.stored (h : Row w b t cs) (i : Nat) (u : Value) : Row (w.setCell ⟨b, i, none⟩ u) b t (cs.setIfInBounds i u) := by
 have h' : w.heap[b]? = some (Obj.cells cs t (0, 0)) := h
 show (w.heap.modify b _)[b]? = _
 rw [Array.getElem?_modify, if_pos rfl, h']
 simp
theorem Row.storedElsewhere (h : Row w b t cs) {p : Addr} (hp : p.block ≠ b) (u : Value) : Row (w.setCell p u) b t cs :=
 (Below.heap_setCell w p u b (fun e => hp e.symm)).trans h
theorem Row.below {B : Nat} (h : Row w b t cs) (hb : Below B w w') (hB : b < B) : Row w' b t cs := (hb.block b hB).trans h
theorem Row.grown {row : Option Nat} (h : Row w b t cs) (hg : w.grownBy w' row) (hne : row ≠ some b) : Row w' b t cs :=
 (hg.block b h.inHeap (fun e => hne e.symm)).trans h
end
section
variable {a w w' : World} {b : Nat}
theorem gb_refl (w : World) (r : Option Nat) : w.grownBy w r := ⟨rfl, rfl, rfl, Nat.le_refl _, fun _ _ _ => rfl⟩
theorem gb_trans {r : Option Nat} (h : a.grownBy w r) (k : w.grownBy w' r) : a.grownBy w' r :=
 ⟨k.os.trans h.os, k.tape.trans h.tape, k.output.trans h.output, Nat.le_trans h.size k.size, fun i hi hn => (k.block i (Nat.lt_of_lt_of_le hi h.size) hn).trans (h.block i hi hn)⟩
end
end Go.Proofs.YtkcgmnhjofoeiaaGreat
namespace Go.Proofs.YtkcgmnhjofoeiaaGreat.Pth
abbrev Tx := List UInt8
def Covers (p s : Tx) : Prop := p = [] ∨ p = s ∨ (p.length < s.length ∧ s.take p.length = p ∧ s[p.length]? = some 47)
instance (p s : Tx) : Decidable (Covers p s) := inferInstanceAs (Decidable (_ ∨ _))
theorem covers_refl (a : Tx) : Covers a a := Or.inr (Or.inl rfl)
theorem covers_nil (a : Tx) : Covers [] a := Or.inl rfl
theorem covers_len {a b : Tx} (h : Covers a b) : a.length ≤ b.length := by
 rcases h with h | h | h
 ·rw [h]; exact Nat.zero_le _
 ·rw [h]; exact Nat.le_refl _
 ·omega
theorem covers_anti {a b : Tx} (h : Covers a b) (k : Covers b a) : a = b := by
 have h1 := covers_len h
 have h2 := covers_len k
 rcases h with h | h | h
 ·rw [h] at h2
  have : b = [] := List.eq_nil_of_length_eq_zero (by simpa using h2)
  rw [h, this]
 ·exact h
 ·omega
theorem covers_trans {a b c : Tx} (h : Covers a b) (k : Covers b c) : Covers a c := by
 rcases h with h | h | ⟨h1, h2, h3⟩
 ·exact Or.inl h
 ·rw [h]; exact k
 ·rcases k with k | k | ⟨k1, k2, k3⟩
  ·rw [k] at h1; simp at h1
  ·rw [← k]; exact Or.inr (Or.inr ⟨h1, h2, h3⟩)
  ·refine Or.inr (Or.inr ⟨by omega, ?_, ?_⟩)
   ·have e : c.take a.length = (c.take b.length).take a.length := by rw [List.take_take, Nat.min_eq_left (by omega)]
    rw [e, k2, h2]
   ·have e : (c.take b.length)[a.length]? = c[a.length]? := by rw [List.getElem?_take, if_pos h1]
    rw [← e, k2]
    exact h3
def meet (a b : Tx) : Tx × Bool := if Covers a b then (b, true) else if Covers b a then (a, true) else ([], false)
def parentTo (a : Tx) : Nat → Tx
 | 0 => []
 | n + 1 => if a[n]? = some 47 then a.take n else parentTo a n
def parent (a : Tx) : Tx := parentTo a a.length
def okChar (c : UInt8) : Bool := (97 ≤ c.toNat && c.toNat ≤ 122) || (48 ≤ c.toNat && c.toNat ≤ 57) || c.toNat == 45 || c.toNat == 95 || c.toNat == 46
def dots (s : Tx) : Nat := s.countP fun c => c.toNat == 46
def Name (s : Tx) : Prop := (∀ c ∈ s, okChar c = true) ∧ 1 ≤ s.length ∧ s.length ≤ 12 ∧ dots s < s.length
instance (s : Tx) : Decidable (Name s) := inferInstanceAs (Decidable (_ ∧ _))
def splitA : Tx → Tx → List Tx
 | cur, [] => [cur]
 | cur, c :: s => if c.toNat = 47 then cur :: splitA [] s else splitA (cur ++ [c]) s
def split (s : Tx) : List Tx := splitA [] s
def Right (s : Tx) : Prop := (∀ n ∈ split s, Name n) ∧ s.length ≤ 40 ∧ (split s).length ≤ 6
instance (s : Tx) : Decidable (Right s) := inferInstanceAs (Decidable (_ ∧ _))
def join : List Tx → Tx
 | [] => []
 | [a] => a
 | a :: b :: l => a ++ 47 :: join (b :: l)
def Joins (l : List Tx) : Prop := l ≠ [] ∧ (∀ n ∈ l, Name n) ∧ Right (join l)
instance (l : List Tx) : Decidable (Joins l) := inferInstanceAs (Decidable (_ ∧ _))
end Go.Proofs.YtkcgmnhjofoeiaaGreat.Pth
namespace Go.Proofs.YtkcgmnhjofoeiaaGreat.Sz
abbrev Rg := Int × Int
def holds (l : List Rg) (n : Int) : Bool := decide (0 ≤ n ∧ n ≤ 200) && l.any fun r => decide (r.1 ≤ n ∧ n ≤ r.2)
def of (l : List Rg) : List Bool := (List.range 201).map fun (k : Nat) => holds l (k : Int)
def formR : Nat → Option Nat → List Bool → List Rg
 | _, none, [] => []
 | k, some lo, [] => [((lo : Int), (k : Int) - 1)]
 | k, none, false :: b => formR (k + 1) none b
 | k, none, true :: b => formR (k + 1) (some k) b
 | k, some lo, true :: b => formR (k + 1) (some lo) b
 | k, some lo, false :: b => ((lo : Int), (k : Int) - 1) :: formR (k + 1) none b
def form (b : List Bool) : List Rg := formR 0 none b
def norm (l : List Rg) : List Rg := form (of l)
def pick (k : Nat) (x y : Bool) : Bool := if k = 0 then x || y else if k = 1 then x && y else x && !y
def two (k : Nat) (a b : List Rg) : List Rg := form ((List.range 201).map fun (i : Nat) => pick k (holds a (i : Int)) (holds b (i : Int)))
def many (l : List Rg) : Nat := ((of l).filter id).length
def Covers (a b : List Rg) : Prop := ∀ n : Int, holds b n = true → holds a n = true
theorem of_len (l : List Rg) : (of l).length = 201 := by simp [of]
theorem of_at (l : List Rg) (k : Nat) (h : k < 201) : (of l)[k]? = some (holds l (k : Int)) := by
 unfold of
 rw [List.getElem?_map, List.getElem?_range h]
 rfl
theorem holds_out {l : List Rg} {n : Int} (h : ¬ (0 ≤ n ∧ n ≤ 200)) : holds l n = false := by
 unfold holds
 rw [decide_eq_false h]
 rfl
theorem holds_cons (r : Rg) (l : List Rg) (n : Int) : holds (r :: l) n = ((decide (0 ≤ n ∧ n ≤ 200) && decide (r.1 ≤ n ∧ n ≤ r.2)) || holds l n) := by
 unfold holds
 rw [List.any_cons]
 cases decide (0 ≤ n ∧ n ≤ 200) <;> simp
theorem holds_nil (n : Int) : holds [] n = false := by simp [holds]
def open_ (k : Nat) (st : Option Nat) (n : Int) : Bool := match st with | some lo => decide ((lo : Int) ≤ n ∧ n ≤ (k : Int) - 1) | none => false
def Opens (k : Nat) (st : Option Nat) : Prop := ∀ lo, st = some lo → lo < k
theorem formR_holds : ∀ (b : List Bool) (k : Nat) (st : Option Nat), Opens k st → ∀ n : Int, 0 ≤ n → n ≤ 200 → holds (formR k st b) n = (open_ k st n || (decide ((k : Int) ≤ n) && (b[(n - k).toNat]?).getD false))
 | [], k, none, _, n, h0, h1 => by
  unfold formR open_
  rw [holds_nil]
  simp
 | [], k, some lo, _, n, h0, h1 => by
  unfold formR open_
  rw [holds_cons, holds_nil, decide_eq_true (p := 0 ≤ n ∧ n ≤ 200) ⟨h0, h1⟩]
  simp
 | false :: b, k, none, _, n, h0, h1 => by
  unfold formR
  rw [formR_holds b (k + 1) none (fun lo h => by cases h) n h0 h1]
  unfold open_
  simp only [Bool.false_or]
  by_cases h : (k : Int) ≤ n
  ·by_cases e : n = (k : Int)
   ·subst e
    have h2 : ¬ (((k + 1 : Nat) : Int) ≤ (k : Int)) := by omega
    rw [decide_eq_false h2]
    simp
   ·have h2 : ((k + 1 : Nat) : Int) ≤ n := by omega
    have h3 : (n - (k : Int)).toNat = (n - ((k + 1 : Nat) : Int)).toNat + 1 := by omega
    rw [decide_eq_true h, decide_eq_true h2, h3, List.getElem?_cons_succ]
  ·have h2 : ¬ (((k + 1 : Nat) : Int) ≤ n) := by omega
   rw [decide_eq_false h, decide_eq_false h2]
   simp
 | true :: b, k, none, _, n, h0, h1 => by
  unfold formR
  rw [formR_holds b (k + 1) (some k) (fun lo h => by injection h with h; omega) n h0 h1]
  unfold open_
  simp only [Bool.false_or]
  by_cases h : (k : Int) ≤ n
  ·by_cases e : n = (k : Int)
   ·subst e
    simp
   ·have h2 : ((k + 1 : Nat) : Int) ≤ n := by omega
    have h3 : (n - (k : Int)).toNat = (n - ((k + 1 : Nat) : Int)).toNat + 1 := by omega
    have h4 : ¬ ((k : Int) ≤ n ∧ n ≤ ((k + 1 : Nat) : Int) - 1) := by omega
    rw [decide_eq_true h, decide_eq_true h2, decide_eq_false h4, h3, List.getElem?_cons_succ, Bool.false_or]
  ·have h2 : ¬ (((k + 1 : Nat) : Int) ≤ n) := by omega
   have h4 : ¬ ((k : Int) ≤ n ∧ n ≤ ((k + 1 : Nat) : Int) - 1) := by omega
   rw [decide_eq_false h, decide_eq_false h2, decide_eq_false h4]
   simp
 | true :: b, k, some lo, ho, n, h0, h1 => by
  have hlo := ho lo rfl
  unfold formR
  rw [formR_holds b (k + 1) (some lo) (fun x h => by injection h with h; omega) n h0 h1]
  unfold open_
  by_cases e : n = (k : Int)
  ·subst e
   have h4 : ((lo : Int) ≤ (k : Int) ∧ (k : Int) ≤ ((k + 1 : Nat) : Int) - 1) := by omega
   simp only [decide_eq_true h4, Bool.true_or]
   simp
  ·by_cases h : (k : Int) ≤ n
   ·have h2 : ((k + 1 : Nat) : Int) ≤ n := by omega
    have h3 : (n - (k : Int)).toNat = (n - ((k + 1 : Nat) : Int)).toNat + 1 := by omega
    have h4 : ¬ ((lo : Int) ≤ n ∧ n ≤ ((k + 1 : Nat) : Int) - 1) := by omega
    have h5 : ¬ ((lo : Int) ≤ n ∧ n ≤ (k : Int) - 1) := by omega
    simp only [decide_eq_false h4, decide_eq_false h5, decide_eq_true h, decide_eq_true h2, h3, List.getElem?_cons_succ]
   ·have h2 : ¬ (((k + 1 : Nat) : Int) ≤ n) := by omega
    have h6 : ((lo : Int) ≤ n ∧ n ≤ ((k + 1 : Nat) : Int) - 1) ↔ ((lo : Int) ≤ n ∧ n ≤ (k : Int) - 1) := by omega
    simp only [decide_eq_false h, decide_eq_false h2, Bool.false_and, Bool.or_false]
    exact decide_eq_decide.2 h6
 | false :: b, k, some lo, ho, n, h0, h1 => by
  have hlo := ho lo rfl
  unfold formR
  rw [holds_cons, formR_holds b (k + 1) none (fun x h => by cases h) n h0 h1, decide_eq_true (p := 0 ≤ n ∧ n ≤ 200) ⟨h0, h1⟩]
  unfold open_
  simp only [Bool.true_and, Bool.false_or]
  congr 1
  by_cases h : (k : Int) ≤ n
  ·by_cases e : n = (k : Int)
   ·subst e
    have h2 : ¬ (((k + 1 : Nat) : Int) ≤ (k : Int)) := by omega
    rw [decide_eq_false h2]
    simp
   ·have h2 : ((k + 1 : Nat) : Int) ≤ n := by omega
    have h3 : (n - (k : Int)).toNat = (n - ((k + 1 : Nat) : Int)).toNat + 1 := by omega
    rw [decide_eq_true h, decide_eq_true h2, h3, List.getElem?_cons_succ]
  ·have h2 : ¬ (((k + 1 : Nat) : Int) ≤ n) := by omega
   rw [decide_eq_false h, decide_eq_false h2]
   simp
theorem form_holds (b : List Bool) (n : Int) (h0 : 0 ≤ n) (h1 : n ≤ 200) : holds (form b) n = (b[n.toNat]?).getD false := by
 unfold form
 rw [formR_holds b 0 none (fun lo h => by cases h) n h0 h1]
 unfold open_
 simp [h0]
theorem norm_holds (l : List Rg) (n : Int) : holds (norm l) n = holds l n := by
 by_cases h : 0 ≤ n ∧ n ≤ 200
 ·unfold norm
  rw [form_holds _ n h.1 h.2, of_at l n.toNat (by omega)]
  have : ((n.toNat : Nat) : Int) = n := by omega
  rw [this]
  rfl
 ·rw [holds_out h, holds_out h]
theorem of_same {a b : List Rg} (h : ∀ n, holds a n = holds b n) : of a = of b := by
 unfold of
 exact List.map_congr_left (fun k _ => h k)
theorem norm_norm (l : List Rg) : norm (norm l) = norm l := by
 show form (of (norm l)) = form (of l)
 rw [of_same (norm_holds l)]
theorem two_holds (k : Nat) (a b : List Rg) (n : Int) (h : 0 ≤ n ∧ n ≤ 200) : holds (two k a b) n = pick k (holds a n) (holds b n) := by
 unfold two
 rw [form_holds _ n h.1 h.2, List.getElem?_map, List.getElem?_range (by omega)]
 have : ((n.toNat : Nat) : Int) = n := by omega
 simp [this]
def wide (l : List Rg) : Int := (l.map fun r => r.2 - r.1 + 1).sum
theorem formR_wide : ∀ (b : List Bool) (k : Nat) (st : Option Nat), Opens k st → wide (formR k st b) = ((b.filter id).length : Int) + (match st with | some lo => (k : Int) - (lo : Int) | none => 0)
 | [], k, none, _ => by simp [formR, wide]
 | [], k, some lo, _ => by simp [formR, wide]; omega
 | false :: b, k, none, _ => by
  unfold formR
  rw [formR_wide b (k + 1) none (fun lo h => by cases h)]
  simp
 | true :: b, k, none, _ => by
  unfold formR
  rw [formR_wide b (k + 1) (some k) (fun lo h => by injection h with h; omega)]
  simp
  omega
 | true :: b, k, some lo, ho => by
  have hlo := ho lo rfl
  unfold formR
  rw [formR_wide b (k + 1) (some lo) (fun x h => by injection h with h; omega)]
  simp
  omega
 | false :: b, k, some lo, ho => by
  have hlo := ho lo rfl
  have e : wide (formR k (some lo) (false :: b)) = (((k : Int) - 1) - (lo : Int) + 1) + wide (formR (k + 1) none b) := by
   show wide (((lo : Int), (k : Int) - 1) :: formR (k + 1) none b) = _
   unfold wide
   rw [List.map_cons, List.sum_cons]
  rw [e, formR_wide b (k + 1) none (fun x h => by cases h)]
  simp
  omega
theorem form_wide (l : List Rg) : wide (norm l) = (many l : Int) := by
 unfold norm form many
 rw [formR_wide _ 0 none (fun lo h => by cases h)]
 simp
theorem formR_none : ∀ (b : List Bool) (k : Nat), formR k none b = [] ↔ ∀ x ∈ b, x = false
 | [], k => by simp [formR]
 | false :: b, k => by
  unfold formR
  rw [formR_none b (k + 1)]
  simp
 | true :: b, k => by
  constructor
  ·intro h
   exfalso
   have hne : ∀ (b : List Bool) (k lo : Nat), formR k (some lo) b ≠ [] := by
    intro b
    induction b with
    | nil => intro k lo; simp [formR]
    | cons x b ih =>
     intro k lo
     cases x
     ·simp [formR]
     ·show formR (k + 1) (some lo) b ≠ []
      exact ih _ _
   exact hne b (k + 1) k h
  ·intro h
   have := h true (by simp)
   cases this
theorem covers_iff (a b : List Rg) : Covers a b ↔ two 2 b a = [] := by
 unfold two form
 rw [formR_none]
 constructor
 ·intro h x hx
  obtain ⟨k, hk, rfl⟩ := List.mem_map.1 hx
  show pick 2 (holds b (k : Int)) (holds a (k : Int)) = false
  have := h (k : Int)
  cases hb : holds b (k : Int)
  ·rfl
  ·rw [this hb]; rfl
 ·intro h n hb
  by_cases hn : 0 ≤ n ∧ n ≤ 200
  ·have := h _ (List.mem_map.2 ⟨n.toNat, List.mem_range.2 (show n.toNat < 201 by omega), rfl⟩)
   have e : ((n.toNat : Nat) : Int) = n := by omega
   rw [e, hb] at this
   cases ha : holds a n
   ·rw [ha] at this; cases this
   ·rfl
  ·rw [holds_out hn] at hb; cases hb
instance (a b : List Rg) : Decidable (Covers a b) := decidable_of_iff _ (covers_iff a b).symm
theorem covers_refl (a : List Rg) : Covers a a := fun _ h => h
theorem formR_bd : ∀ (b : List Bool) (k : Nat) (st : Option Nat), k + b.length ≤ 201 → Opens k st → ∀ r ∈ formR k st b, 0 ≤ r.1 ∧ r.1 ≤ r.2 ∧ r.2 ≤ 200
 | [], k, none, _, _, r, hr => by cases hr
 | [], k, some lo, hk, ho, r, hr => by
  have := ho lo rfl
  unfold formR at hr
  rw [List.mem_singleton.1 hr]
  simp only [List.length_nil] at hk
  refine ⟨by simp, by simp; omega, by simp; omega⟩
 | false :: b, k, none, hk, ho, r, hr => formR_bd b (k + 1) none (by simp at hk; omega) (fun lo h => by cases h) r hr
 | true :: b, k, none, hk, ho, r, hr => formR_bd b (k + 1) (some k) (by simp at hk; omega) (fun lo h => by injection h with h; omega) r hr
 | true :: b, k, some lo, hk, ho, r, hr => by
  have := ho lo rfl
  exact formR_bd b (k + 1) (some lo) (by simp at hk; omega) (fun x h => by injection h with h; omega) r hr
 | false :: b, k, some lo, hk, ho, r, hr => by
  have := ho lo rfl
  unfold formR at hr
  simp only [List.length_cons] at hk
  rcases List.mem_cons.1 hr with e | e
  ·rw [e]
   refine ⟨by simp, by simp; omega, by simp; omega⟩
  ·exact formR_bd b (k + 1) none (by omega) (fun x h => by cases h) r e
theorem formR_len : ∀ (b : List Bool) (k : Nat) (st : Option Nat), (formR k st b).length ≤ b.length + 1
 | [], k, none => by simp [formR]
 | [], k, some lo => by simp [formR]
 | false :: b, k, none => by
  have := formR_len b (k + 1) none
  unfold formR
  rw [List.length_cons]; omega
 | true :: b, k, none => by
  have := formR_len b (k + 1) (some k)
  unfold formR
  rw [List.length_cons]; omega
 | true :: b, k, some lo => by
  have := formR_len b (k + 1) (some lo)
  unfold formR
  rw [List.length_cons]; omega
 | false :: b, k, some lo => by
  have := formR_len b (k + 1) none
  unfold formR
  rw [List.length_cons, List.length_cons]; omega
end Go.Proofs.YtkcgmnhjofoeiaaGreat.Sz
namespace Go.Proofs.YtkcgmnhjofoeiaaGreat.Flt
abbrev Tx := List UInt8
structure Cl where
 pre : Tx
 lo : Int
 hi : Int
deriving DecidableEq
def rg (c : Cl) : Sz.Rg := (c.lo, c.hi)
def Right (c : Cl) : Prop := (c.pre = [] ∨ Pth.Right c.pre) ∧ 0 ≤ c.lo ∧ c.lo ≤ c.hi ∧ c.hi ≤ 200
instance (c : Cl) : Decidable (Right c) := inferInstanceAs (Decidable (_ ∧ _))
def sizes (f : List Cl) (p : Tx) : List Sz.Rg := (f.filter fun c => decide (Pth.Covers c.pre p)).map rg
def Match (f : List Cl) (p : Tx) (size : Int) (dead : Bool) : Prop := ∃ c ∈ f, Pth.Covers c.pre p ∧ (dead = true ∨ (0 ≤ size ∧ size ≤ 200 ∧ c.lo ≤ size ∧ size ≤ c.hi))
def ins (out : List Tx) (p : Tx) : List Tx := if (out.dropWhile fun q => decide (q < p)).head? = some p then out else out.takeWhile (fun q => decide (q < p)) ++ p :: out.dropWhile fun q => decide (q < p)
def prefixes (f : List Cl) : List Tx := f.foldl (fun out c => ins out c.pre) []
def above (f : List Cl) (p : Tx) : List Cl := f.filter fun c => decide (c.pre ≠ p ∧ Pth.Covers c.pre p)
def piece (f : List Cl) (p : Tx) : List Sz.Rg := Sz.two 2 (sizes f p) (sizes (above f p) p)
def clauses (p : Tx) (l : List Sz.Rg) : List Cl := l.map fun r => ⟨p, r.1, r.2⟩
def norm (f : List Cl) : List Cl := (prefixes f).flatMap fun p => clauses p (piece f p)
def Alike (f g : List Cl) : Prop := ∀ p n, Sz.holds (sizes f p) n = Sz.holds (sizes g p) n
theorem tlt_irrefl (a : Tx) : ¬ a < a := List.lt_irrefl a
theorem tlt_trans {a b c : Tx} (h : a < b) (k : b < c) : a < c := List.lt_trans h k
theorem tlt_or {a b : Tx} (h : a ≠ b) : a < b ∨ b < a := by
 rcases List.le_total a b with h1 | h1
 ·rcases List.le_iff_lt_or_eq.1 h1 with h2 | h2
  ·exact Or.inl h2
  ·exact absurd h2 h
 ·rcases List.le_iff_lt_or_eq.1 h1 with h2 | h2
  ·exact Or.inr h2
  ·exact absurd h2.symm h
def Up (l : List Tx) : Prop := l.Pairwise (· < ·)
theorem ins_mem {out : List Tx} {p q : Tx} : q ∈ ins out p ↔ q = p ∨ q ∈ out := by
 have e : out.takeWhile (fun q => decide (q < p)) ++ out.dropWhile (fun q => decide (q < p)) = out := List.takeWhile_append_dropWhile
 unfold ins
 split
 ·rename_i h
  have hp : p ∈ out := by
   rw [← e]
   exact List.mem_append.2 (Or.inr (List.mem_of_mem_head? (by rw [h]; rfl)))
  constructor
  ·exact Or.inr
  ·rintro (rfl | h)
   ·exact hp
   ·exact h
 ·constructor
  ·intro h
   rcases List.mem_append.1 h with h | h
   ·exact Or.inr (by rw [← e]; exact List.mem_append.2 (Or.inl h))
   ·rcases List.mem_cons.1 h with h | h
    ·exact Or.inl h
    ·exact Or.inr (by rw [← e]; exact List.mem_append.2 (Or.inr h))
  ·rintro (h | h)
   ·rw [h]; simp
   ·rw [← e] at h
    rcases List.mem_append.1 h with h | h
    ·exact List.mem_append.2 (Or.inl h)
    ·exact List.mem_append.2 (Or.inr (List.mem_cons_of_mem _ h))
theorem take_lt : ∀ {l : List Tx} {p : Tx}, ∀ q ∈ l.takeWhile (fun q => decide (q < p)), q < p := by
 intro l p
 induction l with
 | nil => intro q hq; cases hq
 | cons x l ih =>
  intro q hq
  by_cases hx : x < p
  ·rw [List.takeWhile_cons_of_pos (by simpa using hx)] at hq
   rcases List.mem_cons.1 hq with e | e
   ·rw [e]; exact hx
   ·exact ih q e
  ·rw [List.takeWhile_cons_of_neg (by simpa using hx)] at hq
   cases hq
theorem drop_ge {l : List Tx} (h : Up l) {p : Tx} : ∀ q ∈ l.dropWhile (fun q => decide (q < p)), ¬ q < p := by
 induction l with
 | nil => intro q hq; cases hq
 | cons x l ih =>
  intro q hq
  have hl := (List.pairwise_cons.1 h)
  by_cases hx : x < p
  ·rw [List.dropWhile_cons_of_pos (by simpa using hx)] at hq
   exact ih hl.2 q hq
  ·rw [List.dropWhile_cons_of_neg (by simpa using hx)] at hq
   rcases List.mem_cons.1 hq with e | e
   ·rw [e]; exact hx
   ·exact fun hh => hx (tlt_trans (hl.1 q e) hh)
theorem ins_up {out : List Tx} (h : Up out) (p : Tx) : Up (ins out p) := by
 have e : out.takeWhile (fun q => decide (q < p)) ++ out.dropWhile (fun q => decide (q < p)) = out := List.takeWhile_append_dropWhile
 unfold ins
 split
 ·exact h
 ·rename_i hne
  have h' := h
  rw [← e] at h'
  have hp := List.pairwise_append.1 h'
  have hgt : ∀ q ∈ out.dropWhile (fun q => decide (q < p)), p < q := by
   cases hd : out.dropWhile (fun q => decide (q < p)) with
   | nil => intro q hq; cases hq
   | cons x r =>
    have hx : ¬ x < p := drop_ge h x (by rw [hd]; simp)
    have hxp : x ≠ p := fun e2 => hne (by rw [hd, e2]; rfl)
    have hpx : p < x := (tlt_or hxp).resolve_left hx
    have hpr := hp.2.1
    rw [hd] at hpr
    intro q hq
    rcases List.mem_cons.1 hq with e2 | e2
    ·rw [e2]; exact hpx
    ·exact tlt_trans hpx ((List.pairwise_cons.1 hpr).1 q e2)
  refine List.pairwise_append.2 ⟨hp.1, List.pairwise_cons.2 ⟨hgt, hp.2.1⟩, fun a ha b hb => ?_⟩
  rcases List.mem_cons.1 hb with e2 | e2
  ·rw [e2]; exact take_lt a ha
  ·exact tlt_trans (take_lt a ha) (hgt b e2)
theorem prefixes_aux (f : List Cl) : ∀ out : List Tx, Up out → Up (f.foldl (fun out c => ins out c.pre) out) ∧ ∀ q, q ∈ f.foldl (fun out c => ins out c.pre) out ↔ q ∈ out ∨ ∃ c ∈ f, c.pre = q := by
 induction f with
 | nil => intro out h; exact ⟨h, fun q => by simp⟩
 | cons c f ih =>
  intro out h
  obtain ⟨h1, h2⟩ := ih (ins out c.pre) (ins_up h c.pre)
  refine ⟨h1, fun q => ?_⟩
  rw [List.foldl_cons, h2 q, ins_mem]
  constructor
  ·rintro ((h | h) | ⟨x, hx, h⟩)
   ·exact Or.inr ⟨c, by simp, h.symm⟩
   ·exact Or.inl h
   ·exact Or.inr ⟨x, List.mem_cons_of_mem _ hx, h⟩
  ·rintro (h | ⟨x, hx, h⟩)
   ·exact Or.inl (Or.inr h)
   ·rcases List.mem_cons.1 hx with e | e
    ·exact Or.inl (Or.inl (by rw [← h, e]))
    ·exact Or.inr ⟨x, e, h⟩
theorem prefixes_up (f : List Cl) : Up (prefixes f) := (prefixes_aux f [] List.Pairwise.nil).1
theorem prefixes_mem (f : List Cl) (q : Tx) : q ∈ prefixes f ↔ ∃ c ∈ f, c.pre = q := by
 have := (prefixes_aux f [] List.Pairwise.nil).2 q
 unfold prefixes
 rw [this]
 simp
theorem sizes_holds (f : List Cl) (p : Tx) (n : Int) : Sz.holds (sizes f p) n = true ↔ (0 ≤ n ∧ n ≤ 200) ∧ ∃ c ∈ f, Pth.Covers c.pre p ∧ c.lo ≤ n ∧ n ≤ c.hi := by
 unfold Sz.holds sizes
 rw [Bool.and_eq_true, decide_eq_true_eq, List.any_eq_true]
 refine and_congr Iff.rfl ?_
 constructor
 ·rintro ⟨r, hr, h⟩
  obtain ⟨c, hc, rfl⟩ := List.mem_map.1 hr
  obtain ⟨hc1, hc2⟩ := List.mem_filter.1 hc
  have h : c.lo ≤ n ∧ n ≤ c.hi := of_decide_eq_true h
  exact ⟨c, hc1, by simpa using hc2, h⟩
 ·rintro ⟨c, hc, h1, h2⟩
  refine ⟨rg c, List.mem_map.2 ⟨c, List.mem_filter.2 ⟨hc, by simpa using h1⟩, rfl⟩, ?_⟩
  exact decide_eq_true h2
theorem covers_both {a b p : Tx} (ha : Pth.Covers a p) (hb : Pth.Covers b p) (hl : a.length ≤ b.length) : Pth.Covers a b := by
 rcases ha with rfl | rfl | ⟨a1, a2, a3⟩
 ·exact Pth.covers_nil _
 ·have := Pth.covers_len hb
  have hb2 : b.length = a.length := by omega
  rcases hb with rfl | rfl | ⟨b1, _, _⟩
  ·have : a = [] := List.eq_nil_of_length_eq_zero (by rw [← hb2]; rfl)
   rw [this]; exact Pth.covers_refl _
  ·exact Pth.covers_refl _
  ·omega
 ·rcases hb with rfl | rfl | ⟨b1, b2, b3⟩
  ·have : a = [] := List.eq_nil_of_length_eq_zero (by simpa using hl)
   rw [this]; exact Pth.covers_refl _
  ·exact Or.inr (Or.inr ⟨a1, a2, a3⟩)
  ·by_cases e : a.length = b.length
   ·have : a = b := by rw [← a2, ← b2, e]
    rw [this]; exact Pth.covers_refl _
   ·have hlt : a.length < b.length := by omega
    refine Or.inr (Or.inr ⟨hlt, ?_, ?_⟩)
    ·rw [← b2, List.take_take, Nat.min_eq_left (by omega)]; exact a2
    ·rw [← b2, List.getElem?_take_of_lt hlt]; exact a3
theorem above_holds (f : List Cl) (p : Tx) (n : Int) : Sz.holds (sizes (above f p) p) n = true ↔ ∃ q, Pth.Covers q p ∧ q ≠ p ∧ Sz.holds (sizes f q) n = true := by
 rw [sizes_holds]
 constructor
 ·rintro ⟨hn, c, hc, h1, h2⟩
  obtain ⟨hc1, hc2⟩ := List.mem_filter.1 hc
  have hc2 : c.pre ≠ p ∧ Pth.Covers c.pre p := by simpa using hc2
  exact ⟨c.pre, h1, hc2.1, (sizes_holds f c.pre n).2 ⟨hn, c, hc1, Pth.covers_refl _, h2⟩⟩
 ·rintro ⟨q, hq, hne, h⟩
  obtain ⟨hn, c, hc, h1, h2⟩ := (sizes_holds f q n).1 h
  have hcp := Pth.covers_trans h1 hq
  refine ⟨hn, c, List.mem_filter.2 ⟨hc, ?_⟩, hcp, h2⟩
  simp only [decide_eq_true_eq]
  refine ⟨fun e => ?_, hcp⟩
  exact hne (Pth.covers_anti hq (by rw [e] at h1; exact h1))
theorem piece_holds (f : List Cl) (p : Tx) (n : Int) (hn : 0 ≤ n ∧ n ≤ 200) : Sz.holds (piece f p) n = true ↔ Sz.holds (sizes f p) n = true ∧ ¬ ∃ q, Pth.Covers q p ∧ q ≠ p ∧ Sz.holds (sizes f q) n = true := by
 unfold piece
 rw [Sz.two_holds 2 _ _ n hn, ← above_holds]
 unfold Sz.pick
 cases Sz.holds (sizes f p) n <;> cases Sz.holds (sizes (above f p) p) n <;> simp
theorem alike_above {f g : List Cl} (h : Alike f g) (p : Tx) (n : Int) : Sz.holds (sizes (above f p) p) n = Sz.holds (sizes (above g p) p) n := by
 rw [Bool.eq_iff_iff, above_holds, above_holds]
 constructor
 ·rintro ⟨q, h1, h2, h3⟩; exact ⟨q, h1, h2, by rw [← h]; exact h3⟩
 ·rintro ⟨q, h1, h2, h3⟩; exact ⟨q, h1, h2, by rw [h]; exact h3⟩
theorem piece_same {f g : List Cl} (h : Alike f g) (p : Tx) : piece f p = piece g p := by
 unfold piece Sz.two
 congr 1
 refine List.map_congr_left (fun k _ => ?_)
 rw [h p, alike_above h p]
theorem two_none {k : Nat} {a b : List Sz.Rg} (h : ∀ n : Int, 0 ≤ n → n ≤ 200 → Sz.pick k (Sz.holds a n) (Sz.holds b n) = false) : Sz.two k a b = [] := by
 unfold Sz.two Sz.form
 rw [Sz.formR_none]
 intro x hx
 obtain ⟨i, hi, rfl⟩ := List.mem_map.1 hx
 have := List.mem_range.1 hi
 exact h _ (by omega) (by omega)
theorem piece_out {f : List Cl} {p : Tx} (h : p ∉ prefixes f) : piece f p = [] := by
 unfold piece
 refine two_none (fun n h0 h1 => ?_)
 unfold Sz.pick
 cases hs : Sz.holds (sizes f p) n
 ·rfl
 ·obtain ⟨hn, c, hc, hcp, h2⟩ := (sizes_holds f p n).1 hs
  have hne : c.pre ≠ p := fun e => h ((prefixes_mem f p).2 ⟨c, hc, e⟩)
  rw [(above_holds f p n).2 ⟨c.pre, hcp, hne, (sizes_holds f c.pre n).2 ⟨hn, c, hc, Pth.covers_refl _, h2⟩⟩]
  rfl
theorem norm_mem {f : List Cl} {c : Cl} : c ∈ norm f ↔ (c.lo, c.hi) ∈ piece f c.pre := by
 unfold norm clauses
 rw [List.mem_flatMap]
 constructor
 ·rintro ⟨p, hp, h⟩
  obtain ⟨r, hr, rfl⟩ := List.mem_map.1 h
  exact hr
 ·intro h
  refine ⟨c.pre, ?_, List.mem_map.2 ⟨(c.lo, c.hi), h, rfl⟩⟩
  refine Classical.byContradiction (fun hn => ?_)
  rw [piece_out hn] at h
  cases h
theorem holds_mem {l : List Sz.Rg} {n : Int} : Sz.holds l n = true ↔ (0 ≤ n ∧ n ≤ 200) ∧ ∃ r ∈ l, r.1 ≤ n ∧ n ≤ r.2 := by
 unfold Sz.holds
 rw [Bool.and_eq_true, decide_eq_true_eq, List.any_eq_true]
 simp
theorem norm_sizes (f : List Cl) (p : Tx) (n : Int) : Sz.holds (sizes (norm f) p) n = true ↔ (0 ≤ n ∧ n ≤ 200) ∧ ∃ q, Pth.Covers q p ∧ Sz.holds (piece f q) n = true := by
 rw [sizes_holds]
 refine and_congr_right (fun hn => ?_)
 constructor
 ·rintro ⟨c, hc, h1, h2⟩
  exact ⟨c.pre, h1, holds_mem.2 ⟨hn, (c.lo, c.hi), norm_mem.1 hc, h2⟩⟩
 ·rintro ⟨q, hq, h⟩
  obtain ⟨_, r, hr, h2⟩ := holds_mem.1 h
  exact ⟨⟨q, r.1, r.2⟩, norm_mem.2 hr, hq, h2⟩
theorem least {P : Tx → Prop} : ∀ (k : Nat) (q : Tx), q.length ≤ k → P q → ∃ q, P q ∧ ∀ r, P r → q.length ≤ r.length
 | 0, q, hk, h => ⟨q, h, fun r _ => by omega⟩
 | k + 1, q, hk, h => by
  by_cases hx : ∃ r, P r ∧ r.length < q.length
  ·obtain ⟨r, hr, hl⟩ := hx
   exact least k r (by omega) hr
  ·exact ⟨q, h, fun r hr => Nat.le_of_not_lt (fun hl => hx ⟨r, hr, hl⟩)⟩
theorem norm_alike (f : List Cl) : Alike (norm f) f := by
 intro p n
 rw [Bool.eq_iff_iff, norm_sizes]
 constructor
 ·rintro ⟨hn, q, hq, h⟩
  obtain ⟨h1, _⟩ := (piece_holds f q n hn).1 h
  obtain ⟨_, c, hc, hcq, h2⟩ := (sizes_holds f q n).1 h1
  exact (sizes_holds f p n).2 ⟨hn, c, hc, Pth.covers_trans hcq hq, h2⟩
 ·intro h
  have hn := ((sizes_holds f p n).1 h).1
  obtain ⟨q, ⟨hq, hqn⟩, hmin⟩ := least (P := fun q => Pth.Covers q p ∧ Sz.holds (sizes f q) n = true) p.length p (Nat.le_refl _) ⟨Pth.covers_refl _, h⟩
  refine ⟨hn, q, hq, (piece_holds f q n hn).2 ⟨hqn, ?_⟩⟩
  rintro ⟨r, hr, hne, hrn⟩
  have h1 := hmin r ⟨Pth.covers_trans hr hq, hrn⟩
  have h2 := Pth.covers_len hr
  rcases hr with rfl | rfl | ⟨h3, _, _⟩
  ·exact hne (List.eq_nil_of_length_eq_zero (by simpa using h1)).symm
  ·exact hne rfl
  ·omega
theorem flatMap_keep {α β : Type} (h : α → List β) (l : List α) : l.flatMap h = (l.filter fun a => !(h a).isEmpty).flatMap h := by
 induction l with
 | nil => rfl
 | cons x l ih =>
  rw [List.flatMap_cons, ih]
  cases hx : h x with
  | nil => simp [hx]
  | cons y r => simp [hx]
theorem up_same : ∀ {l m : List Tx}, Up l → Up m → (∀ x, x ∈ l ↔ x ∈ m) → l = m := by
 intro l m hl hm h
 refine List.Perm.eq_of_pairwise (le := fun a b : Tx => a < b) (fun a b _ _ h1 h2 => absurd (tlt_trans h1 h2) (tlt_irrefl a)) hl hm ?_
 rw [List.perm_ext_iff_of_nodup (hl.imp (fun {a b} hab e => by subst e; exact tlt_irrefl _ hab)) (hm.imp (fun {a b} hab e => by subst e; exact tlt_irrefl _ hab))]
 exact h
theorem norm_same {f g : List Cl} (h : Alike f g) : norm f = norm g := by
 unfold norm
 rw [flatMap_keep, flatMap_keep (l := prefixes g)]
 have he : (fun p => clauses p (piece f p)) = fun p => clauses p (piece g p) := by
  funext p; rw [piece_same h]
 rw [he]
 congr 1
 refine up_same ((prefixes_up f).filter _) ((prefixes_up g).filter _) (fun x => ?_)
 rw [List.mem_filter, List.mem_filter, piece_same h x]
 refine and_congr_left (fun hx => ?_)
 have hg : piece g x ≠ [] := fun e => by rw [e] at hx; exact absurd hx (by simp [clauses])
 have hf : piece f x ≠ [] := by rw [piece_same h]; exact hg
 constructor
 ·intro _
  refine Classical.byContradiction (fun hn => hg (piece_out hn))
 ·intro _
  refine Classical.byContradiction (fun hn => hf (piece_out hn))
theorem norm_norm (f : List Cl) : norm (norm f) = norm f := norm_same (norm_alike f)
theorem norm_right {f : List Cl} (h : ∀ c ∈ f, Right c) : ∀ c ∈ norm f, Right c := by
 intro c hc
 have hp := norm_mem.1 hc
 have hin : c.pre ∈ prefixes f := by
  refine Classical.byContradiction (fun hn => ?_)
  rw [piece_out hn] at hp
  cases hp
 obtain ⟨c', hc', e⟩ := (prefixes_mem f _).1 hin
 have hb := Sz.formR_bd _ 0 none (by simp) (fun lo h => by cases h) _ hp
 refine ⟨by rw [← e]; exact (h c' hc').1, hb.1, hb.2.1, hb.2.2⟩
end Go.Proofs.YtkcgmnhjofoeiaaGreat.Flt
