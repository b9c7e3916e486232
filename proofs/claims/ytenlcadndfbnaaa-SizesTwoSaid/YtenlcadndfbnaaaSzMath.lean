/- Sets of sizes, as plain data: which sizes a list of ranges has; the normal form of sizes, one by one. No program is spoken of. -/
import Derived.Test.YtenlcadndfbnaaaBase
namespace Go.Proofs.Ytenlcadndfbnaaa.Sz

abbrev Rg := Int × Int

/-- Is a size in a set? -/
def holds (l : List Rg) (n : Int) : Bool := decide (0 ≤ n ∧ n ≤ 200) && l.any fun r => decide (r.1 ≤ n ∧ n ≤ r.2)
/-- The sizes of a set, one by one. -/
def of (l : List Rg) : List Bool := (List.range 201).map fun (k : Nat) => holds l (k : Int)

/-- The ranges of sizes from k on; the one that is open begins at lo. -/
def formR : Nat → Option Nat → List Bool → List Rg
  | _, none, [] => []
  | k, some lo, [] => [((lo : Int), (k : Int) - 1)]
  | k, none, false :: b => formR (k + 1) none b
  | k, none, true :: b => formR (k + 1) (some k) b
  | k, some lo, true :: b => formR (k + 1) (some lo) b
  | k, some lo, false :: b => ((lo : Int), (k : Int) - 1) :: formR (k + 1) none b
def form (b : List Bool) : List Rg := formR 0 none b
def norm (l : List Rg) : List Rg := form (of l)

/-- Of two sets: 0 those in one, 1 in both, 2 in the first alone. -/
def pick (k : Nat) (x y : Bool) : Bool := if k = 0 then x || y else if k = 1 then x && y else x && !y
def two (k : Nat) (a b : List Rg) : List Rg := form ((List.range 201).map fun (i : Nat) => pick k (holds a (i : Int)) (holds b (i : Int)))
def many (l : List Rg) : Nat := ((of l).filter id).length
def Covers (a b : List Rg) : Prop := ∀ n : Int, holds b n = true → holds a n = true

set_option maxRecDepth 100000 in
theorem of_len (l : List Rg) : (of l).length = 201 := by simp [of]
set_option maxRecDepth 100000 in
theorem of_at (l : List Rg) (k : Nat) (h : k < 201) : (of l)[k]? = some (holds l (k : Int)) := by
  unfold of
  rw [List.getElem?_map, List.getElem?_range h]
  rfl
set_option maxRecDepth 100000 in
theorem holds_out {l : List Rg} {n : Int} (h : ¬ (0 ≤ n ∧ n ≤ 200)) : holds l n = false := by
  unfold holds
  rw [decide_eq_false h]
  rfl
set_option maxRecDepth 100000 in
theorem holds_cons (r : Rg) (l : List Rg) (n : Int) : holds (r :: l) n = ((decide (0 ≤ n ∧ n ≤ 200) && decide (r.1 ≤ n ∧ n ≤ r.2)) || holds l n) := by
  unfold holds
  rw [List.any_cons]
  cases decide (0 ≤ n ∧ n ≤ 200) <;> simp
set_option maxRecDepth 100000 in
theorem holds_nil (n : Int) : holds [] n = false := by simp [holds]

def open_ (k : Nat) (st : Option Nat) (n : Int) : Bool := match st with | some lo => decide ((lo : Int) ≤ n ∧ n ≤ (k : Int) - 1) | none => false
def Opens (k : Nat) (st : Option Nat) : Prop := ∀ lo, st = some lo → lo < k

set_option maxRecDepth 100000 in
/-- Which sizes such ranges have. -/
theorem formR_holds : ∀ (b : List Bool) (k : Nat) (st : Option Nat), Opens k st → ∀ n : Int, 0 ≤ n → n ≤ 200 → holds (formR k st b) n = (open_ k st n || (decide ((k : Int) ≤ n) && (b[(n - k).toNat]?).getD false))
  | [], k, none, _, n, h0, h1 => by
    unfold formR open_
    rw [holds_nil]
    simp
  | [], k, some lo, _, n, h0, h1 => by
    unfold formR open_
    rw [holds_cons, holds_nil, decide_eq_true (p := 0 ≤ n ∧ n ≤ 200) ⟨h0, h1⟩]
    simp
  | false :: b, k, none, _, n, h0, h1 => by
    unfold formR
    rw [formR_holds b (k + 1) none (fun lo h => by cases h) n h0 h1]
    unfold open_
    simp only [Bool.false_or]
    by_cases h : (k : Int) ≤ n
    · by_cases e : n = (k : Int)
      · subst e
        have h2 : ¬ (((k + 1 : Nat) : Int) ≤ (k : Int)) := by omega
        rw [decide_eq_false h2]
        simp
      · have h2 : ((k + 1 : Nat) : Int) ≤ n := by omega
        have h3 : (n - (k : Int)).toNat = (n - ((k + 1 : Nat) : Int)).toNat + 1 := by omega
        rw [decide_eq_true h, decide_eq_true h2, h3, List.getElem?_cons_succ]
    · have h2 : ¬ (((k + 1 : Nat) : Int) ≤ n) := by omega
      rw [decide_eq_false h, decide_eq_false h2]
      simp
  | true :: b, k, none, _, n, h0, h1 => by
    unfold formR
    rw [formR_holds b (k + 1) (some k) (fun lo h => by injection h with h; omega) n h0 h1]
    unfold open_
    simp only [Bool.false_or]
    by_cases h : (k : Int) ≤ n
    · by_cases e : n = (k : Int)
      · subst e
        simp
      · have h2 : ((k + 1 : Nat) : Int) ≤ n := by omega
        have h3 : (n - (k : Int)).toNat = (n - ((k + 1 : Nat) : Int)).toNat + 1 := by omega
        have h4 : ¬ ((k : Int) ≤ n ∧ n ≤ ((k + 1 : Nat) : Int) - 1) := by omega
        rw [decide_eq_true h, decide_eq_true h2, decide_eq_false h4, h3, List.getElem?_cons_succ, Bool.false_or]
    · have h2 : ¬ (((k + 1 : Nat) : Int) ≤ n) := by omega
      have h4 : ¬ ((k : Int) ≤ n ∧ n ≤ ((k + 1 : Nat) : Int) - 1) := by omega
      rw [decide_eq_false h, decide_eq_false h2, decide_eq_false h4]
      simp
  | true :: b, k, some lo, ho, n, h0, h1 => by
    have hlo := ho lo rfl
    unfold formR
    rw [formR_holds b (k + 1) (some lo) (fun x h => by injection h with h; omega) n h0 h1]
    unfold open_
    by_cases e : n = (k : Int)
    · subst e
      have h4 : ((lo : Int) ≤ (k : Int) ∧ (k : Int) ≤ ((k + 1 : Nat) : Int) - 1) := by omega
      simp only [decide_eq_true h4, Bool.true_or]
      simp
    · by_cases h : (k : Int) ≤ n
      · have h2 : ((k + 1 : Nat) : Int) ≤ n := by omega
        have h3 : (n - (k : Int)).toNat = (n - ((k + 1 : Nat) : Int)).toNat + 1 := by omega
        have h4 : ¬ ((lo : Int) ≤ n ∧ n ≤ ((k + 1 : Nat) : Int) - 1) := by omega
        have h5 : ¬ ((lo : Int) ≤ n ∧ n ≤ (k : Int) - 1) := by omega
        simp only [decide_eq_false h4, decide_eq_false h5, decide_eq_true h, decide_eq_true h2, h3, List.getElem?_cons_succ]
      · have h2 : ¬ (((k + 1 : Nat) : Int) ≤ n) := by omega
        have h6 : ((lo : Int) ≤ n ∧ n ≤ ((k + 1 : Nat) : Int) - 1) ↔ ((lo : Int) ≤ n ∧ n ≤ (k : Int) - 1) := by omega
        simp only [decide_eq_false h, decide_eq_false h2, Bool.false_and, Bool.or_false]
        exact decide_eq_decide.2 h6
  | false :: b, k, some lo, ho, n, h0, h1 => by
    have hlo := ho lo rfl
    unfold formR
    rw [holds_cons, formR_holds b (k + 1) none (fun x h => by cases h) n h0 h1, decide_eq_true (p := 0 ≤ n ∧ n ≤ 200) ⟨h0, h1⟩]
    unfold open_
    simp only [Bool.true_and, Bool.false_or]
    congr 1
    by_cases h : (k : Int) ≤ n
    · by_cases e : n = (k : Int)
      · subst e
        have h2 : ¬ (((k + 1 : Nat) : Int) ≤ (k : Int)) := by omega
        rw [decide_eq_false h2]
        simp
      · have h2 : ((k + 1 : Nat) : Int) ≤ n := by omega
        have h3 : (n - (k : Int)).toNat = (n - ((k + 1 : Nat) : Int)).toNat + 1 := by omega
        rw [decide_eq_true h, decide_eq_true h2, h3, List.getElem?_cons_succ]
    · have h2 : ¬ (((k + 1 : Nat) : Int) ≤ n) := by omega
      rw [decide_eq_false h, decide_eq_false h2]
      simp

set_option maxRecDepth 100000 in
theorem form_holds (b : List Bool) (n : Int) (h0 : 0 ≤ n) (h1 : n ≤ 200) : holds (form b) n = (b[n.toNat]?).getD false := by
  unfold form
  rw [formR_holds b 0 none (fun lo h => by cases h) n h0 h1]
  unfold open_
  simp [h0]

set_option maxRecDepth 100000 in
theorem norm_holds (l : List Rg) (n : Int) : holds (norm l) n = holds l n := by
  by_cases h : 0 ≤ n ∧ n ≤ 200
  · unfold norm
    rw [form_holds _ n h.1 h.2, of_at l n.toNat (by omega)]
    have : ((n.toNat : Nat) : Int) = n := by omega
    rw [this]
    rfl
  · rw [holds_out h, holds_out h]

set_option maxRecDepth 100000 in
theorem of_same {a b : List Rg} (h : ∀ n, holds a n = holds b n) : of a = of b := by
  unfold of
  exact List.map_congr_left (fun k _ => h k)

set_option maxRecDepth 100000 in
theorem norm_norm (l : List Rg) : norm (norm l) = norm l := by
  show form (of (norm l)) = form (of l)
  rw [of_same (norm_holds l)]

set_option maxRecDepth 100000 in
theorem two_holds (k : Nat) (a b : List Rg) (n : Int) (h : 0 ≤ n ∧ n ≤ 200) : holds (two k a b) n = pick k (holds a n) (holds b n) := by
  unfold two
  rw [form_holds _ n h.1 h.2, List.getElem?_map, List.getElem?_range (by omega)]
  have : ((n.toNat : Nat) : Int) = n := by omega
  simp [this]

/-- How many sizes ranges have. -/
def wide (l : List Rg) : Int := (l.map fun r => r.2 - r.1 + 1).sum

set_option maxRecDepth 100000 in
theorem formR_wide : ∀ (b : List Bool) (k : Nat) (st : Option Nat), Opens k st → wide (formR k st b) = ((b.filter id).length : Int) + (match st with | some lo => (k : Int) - (lo : Int) | none => 0)
  | [], k, none, _ => by simp [formR, wide]
  | [], k, some lo, _ => by simp [formR, wide]; omega
  | false :: b, k, none, _ => by
    unfold formR
    rw [formR_wide b (k + 1) none (fun lo h => by cases h)]
    simp
  | true :: b, k, none, _ => by
    unfold formR
    rw [formR_wide b (k + 1) (some k) (fun lo h => by injection h with h; omega)]
    simp
    omega
  | true :: b, k, some lo, ho => by
    have hlo := ho lo rfl
    unfold formR
    rw [formR_wide b (k + 1) (some lo) (fun x h => by injection h with h; omega)]
    simp
    omega
  | false :: b, k, some lo, ho => by
    have hlo := ho lo rfl
    have e : wide (formR k (some lo) (false :: b)) = (((k : Int) - 1) - (lo : Int) + 1) + wide (formR (k + 1) none b) := by
      show wide (((lo : Int), (k : Int) - 1) :: formR (k + 1) none b) = _
      unfold wide
      rw [List.map_cons, List.sum_cons]
    rw [e, formR_wide b (k + 1) none (fun x h => by cases h)]
    simp
    omega

set_option maxRecDepth 100000 in
theorem form_wide (l : List Rg) : wide (norm l) = (many l : Int) := by
  unfold norm form many
  rw [formR_wide _ 0 none (fun lo h => by cases h)]
  simp

set_option maxRecDepth 100000 in
theorem formR_none : ∀ (b : List Bool) (k : Nat), formR k none b = [] ↔ ∀ x ∈ b, x = false
  | [], k => by simp [formR]
  | false :: b, k => by
    unfold formR
    rw [formR_none b (k + 1)]
    simp
  | true :: b, k => by
    constructor
    · intro h
      exfalso
      have hne : ∀ (b : List Bool) (k lo : Nat), formR k (some lo) b ≠ [] := by
        intro b
        induction b with
        | nil => intro k lo; simp [formR]
        | cons x b ih =>
          intro k lo
          cases x
          · simp [formR]
          · show formR (k + 1) (some lo) b ≠ []
            exact ih _ _
      exact hne b (k + 1) k h
    · intro h
      have := h true (by simp)
      cases this

set_option maxRecDepth 100000 in
/-- A set has all of another one just if nothing of it is alone. -/
theorem covers_iff (a b : List Rg) : Covers a b ↔ two 2 b a = [] := by
  unfold two form
  rw [formR_none]
  constructor
  · intro h x hx
    obtain ⟨k, hk, rfl⟩ := List.mem_map.1 hx
    show pick 2 (holds b (k : Int)) (holds a (k : Int)) = false
    have := h (k : Int)
    cases hb : holds b (k : Int)
    · rfl
    · rw [this hb]; rfl
  · intro h n hb
    by_cases hn : 0 ≤ n ∧ n ≤ 200
    · have := h _ (List.mem_map.2 ⟨n.toNat, List.mem_range.2 (show n.toNat < 201 by omega), rfl⟩)
      have e : ((n.toNat : Nat) : Int) = n := by omega
      rw [e, hb] at this
      cases ha : holds a n
      · rw [ha] at this; cases this
      · rfl
    · rw [holds_out hn] at hb; cases hb

instance (a b : List Rg) : Decidable (Covers a b) := decidable_of_iff _ (covers_iff a b).symm

set_option maxRecDepth 100000 in
theorem covers_refl (a : List Rg) : Covers a a := fun _ h => h

set_option maxRecDepth 100000 in
theorem formR_bd : ∀ (b : List Bool) (k : Nat) (st : Option Nat), k + b.length ≤ 201 → Opens k st → ∀ r ∈ formR k st b, 0 ≤ r.1 ∧ r.1 ≤ r.2 ∧ r.2 ≤ 200
  | [], k, none, _, _, r, hr => by cases hr
  | [], k, some lo, hk, ho, r, hr => by
    have := ho lo rfl
    unfold formR at hr
    rw [List.mem_singleton.1 hr]
    simp only [List.length_nil] at hk
    refine ⟨by simp, by simp; omega, by simp; omega⟩
  | false :: b, k, none, hk, ho, r, hr => formR_bd b (k + 1) none (by simp at hk; omega) (fun lo h => by cases h) r hr
  | true :: b, k, none, hk, ho, r, hr => formR_bd b (k + 1) (some k) (by simp at hk; omega) (fun lo h => by injection h with h; omega) r hr
  | true :: b, k, some lo, hk, ho, r, hr => by
    have := ho lo rfl
    exact formR_bd b (k + 1) (some lo) (by simp at hk; omega) (fun x h => by injection h with h; omega) r hr
  | false :: b, k, some lo, hk, ho, r, hr => by
    have := ho lo rfl
    unfold formR at hr
    simp only [List.length_cons] at hk
    rcases List.mem_cons.1 hr with e | e
    · rw [e]
      refine ⟨by simp, by simp; omega, by simp; omega⟩
    · exact formR_bd b (k + 1) none (by omega) (fun x h => by cases h) r e

set_option maxRecDepth 100000 in
theorem formR_len : ∀ (b : List Bool) (k : Nat) (st : Option Nat), (formR k st b).length ≤ b.length + 1
  | [], k, none => by simp [formR]
  | [], k, some lo => by simp [formR]
  | false :: b, k, none => by
    have := formR_len b (k + 1) none
    unfold formR
    rw [List.length_cons]; omega
  | true :: b, k, none => by
    have := formR_len b (k + 1) (some k)
    unfold formR
    rw [List.length_cons]; omega
  | true :: b, k, some lo => by
    have := formR_len b (k + 1) (some lo)
    unfold formR
    rw [List.length_cons]; omega
  | false :: b, k, some lo => by
    have := formR_len b (k + 1) none
    unfold formR
    rw [List.length_cons, List.length_cons]; omega

end Go.Proofs.Ytenlcadndfbnaaa.Sz
