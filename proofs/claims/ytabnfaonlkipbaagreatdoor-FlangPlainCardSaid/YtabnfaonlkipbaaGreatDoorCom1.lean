/- Words for memory that the other texts of this seat use: a block that is one row of cells and may be written, what draws, new blocks and stores do to it. No program is spoken of. -/
import Derived.Below
import Derived.Laws.OwnMore
import Derived.Deep.Draws
import Derived.Laws.Rows
import Derived.OneCell
import Derived.OwnWalk
namespace Go.Proofs.YtabnfaonlkipbaaGreatDoor
open Go.RowKit

/-- Block b is the row cs of type t, writable. -/
def Row (w : World) (b : Nat) (t : TypeId) (cs : Array Value) : Prop := w.heap[b]? = some (Obj.cells cs t (0, 0))

section
variable {w w' : World} {b : Nat} {t : TypeId} {cs : Array Value}

set_option maxRecDepth 100000 in
theorem Row.inHeap (h : Row w b t cs) : b < w.heap.size := lt_of_block h

set_option maxRecDepth 100000 in
theorem Row.at (h : Row w b t cs) (i : Nat) : w.cell? ⟨b, i, none⟩ = cs[i]? := cell_of_row w b i cs t (0, 0) h

set_option maxRecDepth 100000 in
theorem Row.free (h : Row w b t cs) (i : Nat) : w.frozen? ⟨b, i, none⟩ = false := by
  have h' : w.heap[b]? = some (Obj.cells cs t (0, 0)) := h
  simp only [World.frozen?, h']
  simp

set_option maxRecDepth 100000 in
theorem Row.made (w : World) (t : TypeId) (cs : Array Value) : Row (w.alloc (.cells cs t)) w.heap.size t cs := heap_alloc_new w _

set_option maxRecDepth 100000 in
theorem Row.behindDraw (h : Row w b t cs) : Row w.drew b t cs := h
set_option maxRecDepth 100000 in
theorem Row.behindDraws (h : Row w b t cs) (n : Nat) : Row (w.drewN n) b t cs := h

set_option maxRecDepth 100000 in
theorem Row.behindNew (h : Row w b t cs) (o : Obj) : Row (w.alloc o) b t cs := (Below.heap_alloc w o b h.inHeap).trans h

set_option maxRecDepth 100000 in
theorem Row.stored (h : Row w b t cs) (i : Nat) (u : Value) : Row (w.setCell ⟨b, i, none⟩ u) b t (cs.setIfInBounds i u) := by
  have h' : w.heap[b]? = some (Obj.cells cs t (0, 0)) := h
  show (w.heap.modify b _)[b]? = _
  rw [Array.getElem?_modify, if_pos rfl, h']
  simp

set_option maxRecDepth 100000 in
theorem Row.storedElsewhere (h : Row w b t cs) {p : Addr} (hp : p.block ≠ b) (u : Value) : Row (w.setCell p u) b t cs :=
  (Below.heap_setCell w p u b (fun e => hp e.symm)).trans h

set_option maxRecDepth 100000 in
theorem Row.below {B : Nat} (h : Row w b t cs) (hb : Below B w w') (hB : b < B) : Row w' b t cs := (hb.block b hB).trans h

set_option maxRecDepth 100000 in
theorem Row.grown {row : Option Nat} (h : Row w b t cs) (hg : w.grownBy w' row) (hne : row ≠ some b) : Row w' b t cs :=
  (hg.block b h.inHeap (fun e => hne e.symm)).trans h
end

/-! ### Only block b, and what is new, has turned -/
section
variable {a w w' : World} {b : Nat}

set_option maxRecDepth 100000 in
theorem gb_refl (w : World) (r : Option Nat) : w.grownBy w r := ⟨rfl, rfl, rfl, Nat.le_refl _, fun _ _ _ => rfl⟩
set_option maxRecDepth 100000 in
theorem gb_trans {r : Option Nat} (h : a.grownBy w r) (k : w.grownBy w' r) : a.grownBy w' r :=
  ⟨k.os.trans h.os, k.tape.trans h.tape, k.output.trans h.output, Nat.le_trans h.size k.size, fun i hi hn => (k.block i (Nat.lt_of_lt_of_le hi h.size) hn).trans (h.block i hi hn)⟩
set_option maxRecDepth 100000 in
theorem gb_draws {r : Option Nat} (h : a.grownBy w r) (n : Nat) : a.grownBy (w.drewN n) r := ⟨h.os, h.tape, h.output, h.size, h.block⟩
set_option maxRecDepth 100000 in
theorem gb_draw {r : Option Nat} (h : a.grownBy w r) : a.grownBy w.drew r := ⟨h.os, h.tape, h.output, h.size, h.block⟩
set_option maxRecDepth 100000 in
theorem gb_new {r : Option Nat} (h : a.grownBy w r) (o : Obj) : a.grownBy (w.alloc o) r :=
  gb_trans h ⟨rfl, rfl, rfl, by simp, fun i hi _ => Below.heap_alloc w o i hi⟩
set_option maxRecDepth 100000 in
theorem gb_store (h : a.grownBy w (some b)) (i : Nat) (u : Value) : a.grownBy (w.setCell ⟨b, i, none⟩ u) (some b) :=
  gb_trans h ⟨rfl, rfl, rfl, by simp [World.setCell], fun k _ hn => Below.heap_setCell w _ u k (fun e => hn (by rw [e]))⟩
set_option maxRecDepth 100000 in
theorem gb_storeNew (h : a.grownBy w (some b)) {p : Addr} (hp : a.heap.size ≤ p.block) (u : Value) : a.grownBy (w.setCell p u) (some b) :=
  ⟨h.os, h.tape, h.output, by simpa [World.setCell] using h.size, fun k hk hn => (Below.heap_setCell w p u k (by omega)).trans (h.block k hk hn)⟩
set_option maxRecDepth 100000 in
theorem gb_below (h : Below a.heap.size a w) (r : Option Nat) : a.grownBy w r := ⟨h.os, h.tape, h.output, h.size, fun i hi _ => h.block i hi⟩
set_option maxRecDepth 100000 in
theorem below_gb {B : Nat} (h : a.grownBy w (some b)) (hB : B ≤ b) (hA : B ≤ a.heap.size) : Below B a w :=
  ⟨h.os, h.tape, h.output, h.size, fun k hk => h.block k (by omega) (fun e => by injection e with e; omega)⟩
end
end Go.Proofs.YtabnfaonlkipbaaGreatDoor
/- Paths of the document, as plain data. No program is spoken of. -/
namespace Go.Proofs.YtabnfaonlkipbaaGreatDoor.Pth

abbrev Tx := List UInt8

/-- P7.2: does a prefix cover a text? -/
def Covers (p s : Tx) : Prop := p = [] ∨ p = s ∨ (p.length < s.length ∧ s.take p.length = p ∧ s[p.length]? = some 47)
instance (p s : Tx) : Decidable (Covers p s) := inferInstanceAs (Decidable (_ ∨ _))

set_option maxRecDepth 100000 in
theorem covers_refl (a : Tx) : Covers a a := Or.inr (Or.inl rfl)
set_option maxRecDepth 100000 in
theorem covers_nil (a : Tx) : Covers [] a := Or.inl rfl

set_option maxRecDepth 100000 in
theorem covers_len {a b : Tx} (h : Covers a b) : a.length ≤ b.length := by
  rcases h with h | h | h
  · rw [h]; exact Nat.zero_le _
  · rw [h]; exact Nat.le_refl _
  · omega

set_option maxRecDepth 100000 in
theorem covers_anti {a b : Tx} (h : Covers a b) (k : Covers b a) : a = b := by
  have h1 := covers_len h
  have h2 := covers_len k
  rcases h with h | h | h
  · rw [h] at h2
    have : b = [] := List.eq_nil_of_length_eq_zero (by simpa using h2)
    rw [h, this]
  · exact h
  · omega

set_option maxRecDepth 100000 in
theorem covers_trans {a b c : Tx} (h : Covers a b) (k : Covers b c) : Covers a c := by
  rcases h with h | h | ⟨h1, h2, h3⟩
  · exact Or.inl h
  · rw [h]; exact k
  · rcases k with k | k | ⟨k1, k2, k3⟩
    · rw [k] at h1; simp at h1
    · rw [← k]; exact Or.inr (Or.inr ⟨h1, h2, h3⟩)
    · refine Or.inr (Or.inr ⟨by omega, ?_, ?_⟩)
      · have e : c.take a.length = (c.take b.length).take a.length := by rw [List.take_take, Nat.min_eq_left (by omega)]
        rw [e, k2, h2]
      · have e : (c.take b.length)[a.length]? = c[a.length]? := by rw [List.getElem?_take, if_pos h1]
        rw [← e, k2]
        exact h3

def meet (a b : Tx) : Tx × Bool := if Covers a b then (b, true) else if Covers b a then (a, true) else ([], false)

/-- Ahead of the last / among the first n bytes. -/
def parentTo (a : Tx) : Nat → Tx
  | 0 => []
  | n + 1 => if a[n]? = some 47 then a.take n else parentTo a n
def parent (a : Tx) : Tx := parentTo a a.length

def okChar (c : UInt8) : Bool := (97 ≤ c.toNat && c.toNat ≤ 122) || (48 ≤ c.toNat && c.toNat ≤ 57) || c.toNat == 45 || c.toNat == 95 || c.toNat == 46
def dots (s : Tx) : Nat := s.countP fun c => c.toNat == 46

/-- Is a text a name? -/
def Name (s : Tx) : Prop := (∀ c ∈ s, okChar c = true) ∧ 1 ≤ s.length ∧ s.length ≤ 12 ∧ dots s < s.length
instance (s : Tx) : Decidable (Name s) := inferInstanceAs (Decidable (_ ∧ _))

/-- A text's parts between a /: those that are done, and the one at hand. -/
def splitA : Tx → Tx → List Tx
  | cur, [] => [cur]
  | cur, c :: s => if c.toNat = 47 then cur :: splitA [] s else splitA (cur ++ [c]) s
def split (s : Tx) : List Tx := splitA [] s

def Right (s : Tx) : Prop := (∀ n ∈ split s, Name n) ∧ s.length ≤ 40 ∧ (split s).length ≤ 6
instance (s : Tx) : Decidable (Right s) := inferInstanceAs (Decidable (_ ∧ _))

/-- Names, joined. -/
def join : List Tx → Tx
  | [] => []
  | [a] => a
  | a :: b :: l => a ++ 47 :: join (b :: l)

def Joins (l : List Tx) : Prop := l ≠ [] ∧ (∀ n ∈ l, Name n) ∧ Right (join l)
instance (l : List Tx) : Decidable (Joins l) := inferInstanceAs (Decidable (_ ∧ _))

set_option maxRecDepth 100000 in
theorem splitA_ne (cur s : Tx) : splitA cur s ≠ [] := by
  induction s generalizing cur with
  | nil => simp [splitA]
  | cons c s ih =>
    unfold splitA
    split
    · simp
    · exact ih _

set_option maxRecDepth 100000 in
/-- Parted and joined again: the text. -/
theorem join_splitA (s : Tx) : ∀ cur, join (splitA cur s) = cur ++ s := by
  induction s with
  | nil => intro cur; simp [splitA, join]
  | cons c s ih =>
    intro cur
    unfold splitA
    by_cases hc : c.toNat = 47
    · rw [if_pos hc]
      obtain ⟨b, l, e⟩ : ∃ b l, splitA [] s = b :: l := by
        cases h : splitA [] s with
        | nil => exact absurd h (splitA_ne _ _)
        | cons b l => exact ⟨b, l, rfl⟩
      have h2 := ih []
      rw [e] at h2 ⊢
      show cur ++ 47 :: join (b :: l) = _
      rw [h2, List.nil_append]
      have : c = 47 := by
        apply UInt8.toNat_inj.1
        exact hc
      rw [this]
    · rw [if_neg hc, ih]
      simp

set_option maxRecDepth 100000 in
theorem join_split (s : Tx) : join (split s) = s := by
  have := join_splitA s []
  simpa [split] using this

set_option maxRecDepth 100000 in
theorem joins_split {s : Tx} (h : Right s) : Joins (split s) := ⟨splitA_ne _ _, h.1, by rw [join_split]; exact h⟩
end Go.Proofs.YtabnfaonlkipbaaGreatDoor.Pth
/- Sets of sizes, as plain data: which sizes a list of ranges has; the normal form of sizes, one by one. No program is spoken of. -/
namespace Go.Proofs.YtabnfaonlkipbaaGreatDoor.Sz

abbrev Rg := Int × Int

/-- Is a size in a set? -/
def holds (l : List Rg) (n : Int) : Bool := decide (0 ≤ n ∧ n ≤ 200) && l.any fun r => decide (r.1 ≤ n ∧ n ≤ r.2)
/-- The sizes of a set, one by one. -/
def of (l : List Rg) : List Bool := (List.range 201).map fun (k : Nat) => holds l (k : Int)

/-- The ranges of sizes from k on; the one that is open begins at lo. -/
def formR : Nat → Option Nat → List Bool → List Rg
  | _, none, [] => []
  | k, some lo, [] => [((lo : Int), (k : Int) - 1)]
  | k, none, false :: b => formR (k + 1) none b
  | k, none, true :: b => formR (k + 1) (some k) b
  | k, some lo, true :: b => formR (k + 1) (some lo) b
  | k, some lo, false :: b => ((lo : Int), (k : Int) - 1) :: formR (k + 1) none b
def form (b : List Bool) : List Rg := formR 0 none b
def norm (l : List Rg) : List Rg := form (of l)

/-- Of two sets: 0 those in one, 1 in both, 2 in the first alone. -/
def pick (k : Nat) (x y : Bool) : Bool := if k = 0 then x || y else if k = 1 then x && y else x && !y
def two (k : Nat) (a b : List Rg) : List Rg := form ((List.range 201).map fun (i : Nat) => pick k (holds a (i : Int)) (holds b (i : Int)))
def many (l : List Rg) : Nat := ((of l).filter id).length
def Covers (a b : List Rg) : Prop := ∀ n : Int, holds b n = true → holds a n = true

set_option maxRecDepth 100000 in
theorem of_len (l : List Rg) : (of l).length = 201 := by simp [of]
set_option maxRecDepth 100000 in
theorem of_at (l : List Rg) (k : Nat) (h : k < 201) : (of l)[k]? = some (holds l (k : Int)) := by
  unfold of
  rw [List.getElem?_map, List.getElem?_range h]
  rfl
set_option maxRecDepth 100000 in
theorem holds_out {l : List Rg} {n : Int} (h : ¬ (0 ≤ n ∧ n ≤ 200)) : holds l n = false := by
  unfold holds
  rw [decide_eq_false h]
  rfl
set_option maxRecDepth 100000 in
theorem holds_cons (r : Rg) (l : List Rg) (n : Int) : holds (r :: l) n = ((decide (0 ≤ n ∧ n ≤ 200) && decide (r.1 ≤ n ∧ n ≤ r.2)) || holds l n) := by
  unfold holds
  rw [List.any_cons]
  cases decide (0 ≤ n ∧ n ≤ 200) <;> simp
set_option maxRecDepth 100000 in
theorem holds_nil (n : Int) : holds [] n = false := by simp [holds]

def open_ (k : Nat) (st : Option Nat) (n : Int) : Bool := match st with | some lo => decide ((lo : Int) ≤ n ∧ n ≤ (k : Int) - 1) | none => false
def Opens (k : Nat) (st : Option Nat) : Prop := ∀ lo, st = some lo → lo < k

set_option maxRecDepth 100000 in
/-- Which sizes such ranges have. -/
theorem formR_holds : ∀ (b : List Bool) (k : Nat) (st : Option Nat), Opens k st → ∀ n : Int, 0 ≤ n → n ≤ 200 → holds (formR k st b) n = (open_ k st n || (decide ((k : Int) ≤ n) && (b[(n - k).toNat]?).getD false))
  | [], k, none, _, n, h0, h1 => by
    unfold formR open_
    rw [holds_nil]
    simp
  | [], k, some lo, _, n, h0, h1 => by
    unfold formR open_
    rw [holds_cons, holds_nil, decide_eq_true (p := 0 ≤ n ∧ n ≤ 200) ⟨h0, h1⟩]
    simp
  | false :: b, k, none, _, n, h0, h1 => by
    unfold formR
    rw [formR_holds b (k + 1) none (fun lo h => by cases h) n h0 h1]
    unfold open_
    simp only [Bool.false_or]
    by_cases h : (k : Int) ≤ n
    · by_cases e : n = (k : Int)
      · subst e
        have h2 : ¬ (((k + 1 : Nat) : Int) ≤ (k : Int)) := by omega
        rw [decide_eq_false h2]
        simp
      · have h2 : ((k + 1 : Nat) : Int) ≤ n := by omega
        have h3 : (n - (k : Int)).toNat = (n - ((k + 1 : Nat) : Int)).toNat + 1 := by omega
        rw [decide_eq_true h, decide_eq_true h2, h3, List.getElem?_cons_succ]
    · have h2 : ¬ (((k + 1 : Nat) : Int) ≤ n) := by omega
      rw [decide_eq_false h, decide_eq_false h2]
      simp
  | true :: b, k, none, _, n, h0, h1 => by
    unfold formR
    rw [formR_holds b (k + 1) (some k) (fun lo h => by injection h with h; omega) n h0 h1]
    unfold open_
    simp only [Bool.false_or]
    by_cases h : (k : Int) ≤ n
    · by_cases e : n = (k : Int)
      · subst e
        simp
      · have h2 : ((k + 1 : Nat) : Int) ≤ n := by omega
        have h3 : (n - (k : Int)).toNat = (n - ((k + 1 : Nat) : Int)).toNat + 1 := by omega
        have h4 : ¬ ((k : Int) ≤ n ∧ n ≤ ((k + 1 : Nat) : Int) - 1) := by omega
        rw [decide_eq_true h, decide_eq_true h2, decide_eq_false h4, h3, List.getElem?_cons_succ, Bool.false_or]
    · have h2 : ¬ (((k + 1 : Nat) : Int) ≤ n) := by omega
      have h4 : ¬ ((k : Int) ≤ n ∧ n ≤ ((k + 1 : Nat) : Int) - 1) := by omega
      rw [decide_eq_false h, decide_eq_false h2, decide_eq_false h4]
      simp
  | true :: b, k, some lo, ho, n, h0, h1 => by
    have hlo := ho lo rfl
    unfold formR
    rw [formR_holds b (k + 1) (some lo) (fun x h => by injection h with h; omega) n h0 h1]
    unfold open_
    by_cases e : n = (k : Int)
    · subst e
      have h4 : ((lo : Int) ≤ (k : Int) ∧ (k : Int) ≤ ((k + 1 : Nat) : Int) - 1) := by omega
      simp only [decide_eq_true h4, Bool.true_or]
      simp
    · by_cases h : (k : Int) ≤ n
      · have h2 : ((k + 1 : Nat) : Int) ≤ n := by omega
        have h3 : (n - (k : Int)).toNat = (n - ((k + 1 : Nat) : Int)).toNat + 1 := by omega
        have h4 : ¬ ((lo : Int) ≤ n ∧ n ≤ ((k + 1 : Nat) : Int) - 1) := by omega
        have h5 : ¬ ((lo : Int) ≤ n ∧ n ≤ (k : Int) - 1) := by omega
        simp only [decide_eq_false h4, decide_eq_false h5, decide_eq_true h, decide_eq_true h2, h3, List.getElem?_cons_succ]
      · have h2 : ¬ (((k + 1 : Nat) : Int) ≤ n) := by omega
        have h6 : ((lo : Int) ≤ n ∧ n ≤ ((k + 1 : Nat) : Int) - 1) ↔ ((lo : Int) ≤ n ∧ n ≤ (k : Int) - 1) := by omega
        simp only [decide_eq_false h, decide_eq_false h2, Bool.false_and, Bool.or_false]
        exact decide_eq_decide.2 h6
  | false :: b, k, some lo, ho, n, h0, h1 => by
    have hlo := ho lo rfl
    unfold formR
    rw [holds_cons, formR_holds b (k + 1) none (fun x h => by cases h) n h0 h1, decide_eq_true (p := 0 ≤ n ∧ n ≤ 200) ⟨h0, h1⟩]
    unfold open_
    simp only [Bool.true_and, Bool.false_or]
    congr 1
    by_cases h : (k : Int) ≤ n
    · by_cases e : n = (k : Int)
      · subst e
        have h2 : ¬ (((k + 1 : Nat) : Int) ≤ (k : Int)) := by omega
        rw [decide_eq_false h2]
        simp
      · have h2 : ((k + 1 : Nat) : Int) ≤ n := by omega
        have h3 : (n - (k : Int)).toNat = (n - ((k + 1 : Nat) : Int)).toNat + 1 := by omega
        rw [decide_eq_true h, decide_eq_true h2, h3, List.getElem?_cons_succ]
    · have h2 : ¬ (((k + 1 : Nat) : Int) ≤ n) := by omega
      rw [decide_eq_false h, decide_eq_false h2]
      simp

set_option maxRecDepth 100000 in
theorem form_holds (b : List Bool) (n : Int) (h0 : 0 ≤ n) (h1 : n ≤ 200) : holds (form b) n = (b[n.toNat]?).getD false := by
  unfold form
  rw [formR_holds b 0 none (fun lo h => by cases h) n h0 h1]
  unfold open_
  simp [h0]

set_option maxRecDepth 100000 in
theorem norm_holds (l : List Rg) (n : Int) : holds (norm l) n = holds l n := by
  by_cases h : 0 ≤ n ∧ n ≤ 200
  · unfold norm
    rw [form_holds _ n h.1 h.2, of_at l n.toNat (by omega)]
    have : ((n.toNat : Nat) : Int) = n := by omega
    rw [this]
    rfl
  · rw [holds_out h, holds_out h]

set_option maxRecDepth 100000 in
theorem of_same {a b : List Rg} (h : ∀ n, holds a n = holds b n) : of a = of b := by
  unfold of
  exact List.map_congr_left (fun k _ => h k)

set_option maxRecDepth 100000 in
theorem norm_norm (l : List Rg) : norm (norm l) = norm l := by
  show form (of (norm l)) = form (of l)
  rw [of_same (norm_holds l)]

set_option maxRecDepth 100000 in
theorem two_holds (k : Nat) (a b : List Rg) (n : Int) (h : 0 ≤ n ∧ n ≤ 200) : holds (two k a b) n = pick k (holds a n) (holds b n) := by
  unfold two
  rw [form_holds _ n h.1 h.2, List.getElem?_map, List.getElem?_range (by omega)]
  have : ((n.toNat : Nat) : Int) = n := by omega
  simp [this]

/-- How many sizes ranges have. -/
def wide (l : List Rg) : Int := (l.map fun r => r.2 - r.1 + 1).sum

set_option maxRecDepth 100000 in
theorem formR_wide : ∀ (b : List Bool) (k : Nat) (st : Option Nat), Opens k st → wide (formR k st b) = ((b.filter id).length : Int) + (match st with | some lo => (k : Int) - (lo : Int) | none => 0)
  | [], k, none, _ => by simp [formR, wide]
  | [], k, some lo, _ => by simp [formR, wide]; omega
  | false :: b, k, none, _ => by
    unfold formR
    rw [formR_wide b (k + 1) none (fun lo h => by cases h)]
    simp
  | true :: b, k, none, _ => by
    unfold formR
    rw [formR_wide b (k + 1) (some k) (fun lo h => by injection h with h; omega)]
    simp
    omega
  | true :: b, k, some lo, ho => by
    have hlo := ho lo rfl
    unfold formR
    rw [formR_wide b (k + 1) (some lo) (fun x h => by injection h with h; omega)]
    simp
    omega
  | false :: b, k, some lo, ho => by
    have hlo := ho lo rfl
    have e : wide (formR k (some lo) (false :: b)) = (((k : Int) - 1) - (lo : Int) + 1) + wide (formR (k + 1) none b) := by
      show wide (((lo : Int), (k : Int) - 1) :: formR (k + 1) none b) = _
      unfold wide
      rw [List.map_cons, List.sum_cons]
    rw [e, formR_wide b (k + 1) none (fun x h => by cases h)]
    simp
    omega

set_option maxRecDepth 100000 in
theorem form_wide (l : List Rg) : wide (norm l) = (many l : Int) := by
  unfold norm form many
  rw [formR_wide _ 0 none (fun lo h => by cases h)]
  simp

set_option maxRecDepth 100000 in
theorem formR_none : ∀ (b : List Bool) (k : Nat), formR k none b = [] ↔ ∀ x ∈ b, x = false
  | [], k => by simp [formR]
  | false :: b, k => by
    unfold formR
    rw [formR_none b (k + 1)]
    simp
  | true :: b, k => by
    constructor
    · intro h
      exfalso
      have hne : ∀ (b : List Bool) (k lo : Nat), formR k (some lo) b ≠ [] := by
        intro b
        induction b with
        | nil => intro k lo; simp [formR]
        | cons x b ih =>
          intro k lo
          cases x
          · simp [formR]
          · show formR (k + 1) (some lo) b ≠ []
            exact ih _ _
      exact hne b (k + 1) k h
    · intro h
      have := h true (by simp)
      cases this

set_option maxRecDepth 100000 in
/-- A set has all of another one just if nothing of it is alone. -/
theorem covers_iff (a b : List Rg) : Covers a b ↔ two 2 b a = [] := by
  unfold two form
  rw [formR_none]
  constructor
  · intro h x hx
    obtain ⟨k, hk, rfl⟩ := List.mem_map.1 hx
    show pick 2 (holds b (k : Int)) (holds a (k : Int)) = false
    have := h (k : Int)
    cases hb : holds b (k : Int)
    · rfl
    · rw [this hb]; rfl
  · intro h n hb
    by_cases hn : 0 ≤ n ∧ n ≤ 200
    · have := h _ (List.mem_map.2 ⟨n.toNat, List.mem_range.2 (show n.toNat < 201 by omega), rfl⟩)
      have e : ((n.toNat : Nat) : Int) = n := by omega
      rw [e, hb] at this
      cases ha : holds a n
      · rw [ha] at this; cases this
      · rfl
    · rw [holds_out hn] at hb; cases hb

instance (a b : List Rg) : Decidable (Covers a b) := decidable_of_iff _ (covers_iff a b).symm

set_option maxRecDepth 100000 in
theorem covers_refl (a : List Rg) : Covers a a := fun _ h => h

set_option maxRecDepth 100000 in
theorem formR_bd : ∀ (b : List Bool) (k : Nat) (st : Option Nat), k + b.length ≤ 201 → Opens k st → ∀ r ∈ formR k st b, 0 ≤ r.1 ∧ r.1 ≤ r.2 ∧ r.2 ≤ 200
  | [], k, none, _, _, r, hr => by cases hr
  | [], k, some lo, hk, ho, r, hr => by
    have := ho lo rfl
    unfold formR at hr
    rw [List.mem_singleton.1 hr]
    simp only [List.length_nil] at hk
    refine ⟨by simp, by simp; omega, by simp; omega⟩
  | false :: b, k, none, hk, ho, r, hr => formR_bd b (k + 1) none (by simp at hk; omega) (fun lo h => by cases h) r hr
  | true :: b, k, none, hk, ho, r, hr => formR_bd b (k + 1) (some k) (by simp at hk; omega) (fun lo h => by injection h with h; omega) r hr
  | true :: b, k, some lo, hk, ho, r, hr => by
    have := ho lo rfl
    exact formR_bd b (k + 1) (some lo) (by simp at hk; omega) (fun x h => by injection h with h; omega) r hr
  | false :: b, k, some lo, hk, ho, r, hr => by
    have := ho lo rfl
    unfold formR at hr
    simp only [List.length_cons] at hk
    rcases List.mem_cons.1 hr with e | e
    · rw [e]
      refine ⟨by simp, by simp; omega, by simp; omega⟩
    · exact formR_bd b (k + 1) none (by omega) (fun x h => by cases h) r e

set_option maxRecDepth 100000 in
theorem formR_len : ∀ (b : List Bool) (k : Nat) (st : Option Nat), (formR k st b).length ≤ b.length + 1
  | [], k, none => by simp [formR]
  | [], k, some lo => by simp [formR]
  | false :: b, k, none => by
    have := formR_len b (k + 1) none
    unfold formR
    rw [List.length_cons]; omega
  | true :: b, k, none => by
    have := formR_len b (k + 1) (some k)
    unfold formR
    rw [List.length_cons]; omega
  | true :: b, k, some lo => by
    have := formR_len b (k + 1) (some lo)
    unfold formR
    rw [List.length_cons]; omega
  | false :: b, k, some lo => by
    have := formR_len b (k + 1) none
    unfold formR
    rw [List.length_cons, List.length_cons]; omega

end Go.Proofs.YtabnfaonlkipbaaGreatDoor.Sz
