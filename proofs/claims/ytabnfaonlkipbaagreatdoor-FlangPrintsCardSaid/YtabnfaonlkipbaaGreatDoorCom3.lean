/- The texts of filters, as plain data: what is printed, what is parsed, and that both agree. No program is spoken of. -/
import Derived.Test.YtabnfaonlkipbaaGreatDoorCom2
import Derived.Test.YtabnfaonlkipbaaGreatDoorCom1
import Derived.Deep.AppendLies
import Derived.Laws.AppendOwn
import Derived.Lib.Hide
import Derived.OwnWalk
import Derived.Tactics
namespace Go.Proofs.YtabnfaonlkipbaaGreatDoor.Flg
open Flt (Tx Cl Right)

/-! ### A text's parts between a byte -/
def splitC (c : UInt8) : Tx → Tx → List Tx
  | cur, [] => [cur]
  | cur, x :: s => if x = c then cur :: splitC c [] s else splitC c (cur ++ [x]) s
def cut (c : UInt8) (s : Tx) : List Tx := splitC c [] s

set_option maxRecDepth 100000 in
theorem splitC_ne (c : UInt8) : ∀ (s cur : Tx), splitC c cur s ≠ []
  | [], cur => by simp [splitC]
  | x :: s, cur => by
    unfold splitC
    split
    · simp
    · exact splitC_ne c s _
set_option maxRecDepth 100000 in
theorem splitC_none {c : UInt8} : ∀ (s cur : Tx), c ∉ s → splitC c cur s = [cur ++ s]
  | [], cur, _ => by simp [splitC]
  | x :: s, cur, h => by
    unfold splitC
    rw [if_neg (fun e => h (by rw [e]; exact List.mem_cons_self ..)), splitC_none s _ (fun hm => h (List.mem_cons_of_mem _ hm))]
    simp
set_option maxRecDepth 100000 in
theorem splitC_cons {c : UInt8} (r : Tx) : ∀ (a cur : Tx), c ∉ a → splitC c cur (a ++ c :: r) = (cur ++ a) :: cut c r
  | [], cur, _ => by
    rw [List.nil_append]
    unfold splitC
    rw [if_pos rfl, List.append_nil]
    rfl
  | x :: a, cur, h => by
    rw [List.cons_append]
    unfold splitC
    rw [if_neg (fun e => h (by rw [e]; exact List.mem_cons_self ..)), splitC_cons r a _ (fun hm => h (List.mem_cons_of_mem _ hm))]
    simp
set_option maxRecDepth 100000 in
theorem cut_none {c : UInt8} {s : Tx} (h : c ∉ s) : cut c s = [s] := by
  unfold cut
  rw [splitC_none s [] h, List.nil_append]
set_option maxRecDepth 100000 in
theorem cut_cons {c : UInt8} {a r : Tx} (h : c ∉ a) : cut c (a ++ c :: r) = a :: cut c r := by
  unfold cut
  rw [splitC_cons r a [] h, List.nil_append]
  rfl
set_option maxRecDepth 100000 in
theorem cut_slash (s : Tx) : Pth.split s = cut 47 s := by
  have : ∀ (s cur : Tx), Pth.splitA cur s = splitC 47 cur s := by
    intro s
    induction s with
    | nil => intro cur; simp [Pth.splitA, splitC]
    | cons x s ih =>
      intro cur
      unfold Pth.splitA splitC
      by_cases h : x = 47
      · rw [if_pos h, if_pos (by rw [h]; rfl), ih]
      · rw [if_neg h, if_neg (show ¬ x.toNat = 47 from fun e => h (UInt8.toNat_inj.1 e)), ih]
  exact this s []

/-- Texts with a byte between them. -/
def joinC (c : UInt8) : List Tx → Tx
  | [] => []
  | [a] => a
  | a :: b :: l => a ++ c :: joinC c (b :: l)
set_option maxRecDepth 100000 in
theorem cut_join {c : UInt8} : ∀ {l : List Tx}, l ≠ [] → (∀ a ∈ l, c ∉ a) → cut c (joinC c l) = l
  | [a], _, h => cut_none (h a (by simp))
  | a :: b :: l, _, h => by
    show cut c (a ++ c :: joinC c (b :: l)) = _
    rw [cut_cons (h a (by simp)), cut_join (by simp) (fun x hx => h x (List.mem_cons_of_mem _ hx))]
set_option maxRecDepth 100000 in
theorem join_more (c : UInt8) : ∀ (l : List Tx) (a : Tx), l ≠ [] → joinC c (l ++ [a]) = joinC c l ++ c :: a
  | [x], a, _ => rfl
  | x :: y :: l, a, _ => by
    show x ++ c :: joinC c (y :: l ++ [a]) = (x ++ c :: joinC c (y :: l)) ++ c :: a
    rw [join_more c (y :: l) a (by simp)]
    simp

/-! ### Numbers -/
def digits (n : Nat) : Tx := if n < 10 then [UInt8.ofNat (48 + n)] else digits (n / 10) ++ [UInt8.ofNat (48 + n % 10)]
termination_by n
decreasing_by omega
def val (s : Tx) : Nat := s.foldl (fun a c => a * 10 + (c.toNat - 48)) 0

set_option maxRecDepth 100000 in
theorem digit_nat (k : Nat) (h : k < 10) : (UInt8.ofNat (48 + k)).toNat = 48 + k := by
  rw [UInt8.toNat_ofNat']
  omega
set_option maxRecDepth 100000 in
theorem digits_val (n : Nat) : val (digits n) = n := by
  induction n using Nat.strongRecOn with
  | _ n ih =>
    rw [digits]
    by_cases h : n < 10
    · rw [if_pos h]
      unfold val
      simp only [List.foldl_cons, List.foldl_nil]
      rw [digit_nat n h]
      omega
    · rw [if_neg h]
      have := ih (n / 10) (by omega)
      unfold val at this ⊢
      rw [List.foldl_append, this]
      simp only [List.foldl_cons, List.foldl_nil]
      rw [digit_nat _ (Nat.mod_lt _ (by omega))]
      omega
set_option maxRecDepth 100000 in
theorem digits_chars (n : Nat) : ∀ c ∈ digits n, 48 ≤ c.toNat ∧ c.toNat ≤ 57 := by
  induction n using Nat.strongRecOn with
  | _ n ih =>
    intro c hc
    rw [digits] at hc
    by_cases h : n < 10
    · rw [if_pos h] at hc
      rw [List.mem_singleton.1 hc, digit_nat n h]
      omega
    · rw [if_neg h] at hc
      rcases List.mem_append.1 hc with hc | hc
      · exact ih (n / 10) (by omega) c hc
      · rw [List.mem_singleton.1 hc, digit_nat _ (Nat.mod_lt _ (by omega))]
        have := Nat.mod_lt n (show 10 > 0 by omega)
        omega
set_option maxRecDepth 100000 in
theorem digits_inj {a b : Nat} (h : digits a = digits b) : a = b := by
  have := congrArg val h
  rwa [digits_val, digits_val] at this
set_option maxRecDepth 100000 in
theorem digits_len (n : Nat) (h : n < 1000) : 1 ≤ (digits n).length ∧ (digits n).length ≤ 3 := by
  rw [digits]
  by_cases h1 : n < 10
  · rw [if_pos h1]; simp
  · rw [if_neg h1, digits]
    by_cases h2 : n / 10 < 10
    · rw [if_pos h2]; simp
    · rw [if_neg h2, digits, if_pos (by omega)]; simp

/-- The number from 0 to 200 of a text; below 0: it is none. -/
def number (s : Tx) : Int := match (List.range 201).find? fun n => decide (digits n = s) with | some n => (n : Int) | none => -1
set_option maxRecDepth 100000 in
theorem number_digits {n : Nat} (h : n ≤ 200) : number (digits n) = (n : Int) := by
  unfold number
  cases hf : (List.range 201).find? fun m => decide (digits m = digits n) with
  | none =>
    have := List.find?_eq_none.1 hf n (List.mem_range.2 (by omega))
    simp at this
  | some m =>
    have := List.find?_some hf
    have e : digits m = digits n := by simpa using this
    rw [digits_inj e]
set_option maxRecDepth 100000 in
theorem number_bd (s : Tx) : -1 ≤ number s ∧ number s ≤ 200 := by
  unfold number
  cases hf : (List.range 201).find? fun m => decide (digits m = s) with
  | none => simp
  | some m =>
    have := List.mem_range.1 (List.mem_of_find?_eq_some hf)
    simp only
    omega
set_option maxRecDepth 100000 in
theorem number_none {s : Tx} (h : ∀ n, n ≤ 200 → digits n ≠ s) : number s = -1 := by
  unfold number
  rw [List.find?_eq_none.2 (fun n hn => by have := List.mem_range.1 hn; simpa using h n (by omega))]

/-! ### Texts of clauses and filters -/
def star (p : Tx) : Tx := if p = [] then [42] else p
def unstar (p : Tx) : Tx := if p = [42] then [] else p
def one (c : Cl) : Tx := star c.pre ++ if c.lo = 0 ∧ c.hi = 200 then [] else 58 :: (digits c.lo.toNat ++ 45 :: digits c.hi.toNat)
def text (f : List Cl) : Tx := if f = [] then [33] else joinC 44 (f.map one)

/-- The clause as it is read, whether it may be or not. -/
def read (s : Tx) : Option Cl := match cut 58 s with
  | [a] => if a = [] then none else some ⟨unstar a, 0, 200⟩
  | [a, b] => if a = [] then none else match cut 45 b with
    | [x, y] => some ⟨unstar a, number x, number y⟩
    | _ => none
  | _ => none
def clause (s : Tx) : Option Cl := match read s with
  | some c => if Right c then some c else none
  | none => none
def clauses : List Tx → Option (List Cl)
  | [] => some []
  | a :: l => match clause a, clauses l with
    | some c, some f => some (c :: f)
    | _, _ => none
def parse (s : Tx) : Option (List Cl) := if s = [33] then some [] else match clauses (cut 44 s) with
  | some f => if f.length ≤ 8 then some f else none
  | none => none

set_option maxRecDepth 100000 in
theorem right_chars {s : Tx} (h : Pth.Right s) : ∀ c ∈ s, Pth.okChar c = true ∨ c = 47 := by
  have hj : ∀ l : List Tx, (∀ n ∈ l, ∀ c ∈ n, Pth.okChar c = true) → ∀ c ∈ Pth.join l, Pth.okChar c = true ∨ c = 47 := by
    intro l
    induction l with
    | nil => intro _ c hc; cases hc
    | cons a l ih =>
      intro hl c hc
      cases l with
      | nil => exact Or.inl (hl a (by simp) c hc)
      | cons b l =>
        have hc : c ∈ a ++ 47 :: Pth.join (b :: l) := hc
        rcases List.mem_append.1 hc with hc | hc
        · exact Or.inl (hl a (by simp) c hc)
        · rcases List.mem_cons.1 hc with hc | hc
          · exact Or.inr hc
          · exact ih (fun n hn => hl n (List.mem_cons_of_mem _ hn)) c hc
  have := hj (Pth.split s) (fun n hn => (h.1 n hn).1)
  rwa [Pth.join_split] at this
set_option maxRecDepth 100000 in
theorem right_not {s : Tx} (h : Pth.Right s) {c : UInt8} (hc : Pth.okChar c = false) (h47 : c ≠ 47) : c ∉ s := by
  intro hm
  rcases right_chars h c hm with k | k
  · rw [hc] at k; cases k
  · exact h47 k
set_option maxRecDepth 100000 in
theorem right_some {s : Tx} (h : Pth.Right s) : s ≠ [] := by
  rintro rfl
  have := (h.1 [] (by simp [Pth.split, Pth.splitA])).2.1
  simp at this
set_option maxRecDepth 100000 in
theorem star_ne (p : Tx) : star p ≠ [] := by
  unfold star
  split
  · simp
  · assumption
set_option maxRecDepth 100000 in
theorem star_not {c : Cl} (h : Right c) {b : UInt8} (hb : Pth.okChar b = false) (h47 : b ≠ 47) (h42 : b ≠ 42) : b ∉ star c.pre := by
  unfold star
  split
  · intro hm; exact h42 (List.mem_singleton.1 hm)
  · rename_i hne
    exact right_not (h.1.resolve_left hne) hb h47
set_option maxRecDepth 100000 in
theorem unstar_star {c : Cl} (h : Right c) : unstar (star c.pre) = c.pre := by
  unfold star unstar
  by_cases hp : c.pre = []
  · rw [if_pos hp, if_pos rfl, hp]
  · rw [if_neg hp, if_neg]
    intro e
    have := right_not (h.1.resolve_left hp) (c := 42) (by decide) (by decide)
    rw [e] at this
    exact this (by simp)
set_option maxRecDepth 100000 in
theorem digits_not (n : Nat) {b : UInt8} (hb : ¬ (48 ≤ b.toNat ∧ b.toNat ≤ 57)) : b ∉ digits n := fun hm => hb (digits_chars n b hm)

set_option maxRecDepth 100000 in
theorem one_not {c : Cl} (h : Right c) : (44 : UInt8) ∉ one c := by
  unfold one
  intro hm
  rcases List.mem_append.1 hm with hm | hm
  · exact star_not h (by decide) (by decide) (by decide) hm
  · split at hm
    · cases hm
    · rcases List.mem_cons.1 hm with hm | hm
      · revert hm; decide
      · rcases List.mem_append.1 hm with hm | hm
        · exact digits_not _ (by decide) hm
        · rcases List.mem_cons.1 hm with hm | hm
          · revert hm; decide
          · exact digits_not _ (by decide) hm

set_option maxRecDepth 100000 in
/-- A clause's text is read as that clause. -/
theorem read_one {c : Cl} (h : Right c) : read (one c) = some c := by
  have h58 : (58 : UInt8) ∉ star c.pre := star_not h (by decide) (by decide) (by decide)
  unfold one
  by_cases hr : c.lo = 0 ∧ c.hi = 200
  · rw [if_pos hr, List.append_nil]
    unfold read
    rw [cut_none h58]
    simp only
    rw [if_neg (star_ne _), unstar_star h]
    cases c
    simp only at hr
    rw [hr.1, hr.2]
  · rw [if_neg hr]
    have hd : (58 : UInt8) ∉ digits c.lo.toNat ++ 45 :: digits c.hi.toNat := by
      intro hm
      rcases List.mem_append.1 hm with hm | hm
      · exact digits_not _ (by decide) hm
      · rcases List.mem_cons.1 hm with hm | hm
        · revert hm; decide
        · exact digits_not _ (by decide) hm
    unfold read
    rw [cut_cons h58, cut_none hd]
    simp only
    rw [if_neg (star_ne _), cut_cons (digits_not _ (by decide)), cut_none (digits_not _ (by decide))]
    simp only
    have hb := h.2
    rw [number_digits (by omega), number_digits (by omega), unstar_star h]
    cases c
    simp only at hb ⊢
    congr 2 <;> omega
set_option maxRecDepth 100000 in
theorem clause_one {c : Cl} (h : Right c) : clause (one c) = some c := by
  unfold clause
  rw [read_one h]
  exact if_pos h
set_option maxRecDepth 100000 in
theorem clauses_all : ∀ {f : List Cl}, (∀ c ∈ f, Right c) → clauses (f.map one) = some f
  | [], _ => rfl
  | c :: f, h => by
    show (match clause (one c), clauses (f.map one) with
    | some c, some f => some (c :: f)
    | _, _ => none) = _
    rw [clause_one (h c (by simp)), clauses_all (fun x hx => h x (List.mem_cons_of_mem _ hx))]
set_option maxRecDepth 100000 in
theorem joinC_mem {b : UInt8} : ∀ {l : List Tx} {x : UInt8}, x ∈ joinC b l → x = b ∨ ∃ a ∈ l, x ∈ a
  | [], x, h => by cases h
  | [a], x, h => Or.inr ⟨a, by simp, h⟩
  | a :: c :: l, x, h => by
    have h : x ∈ a ++ b :: joinC b (c :: l) := h
    rcases List.mem_append.1 h with h | h
    · exact Or.inr ⟨a, by simp, h⟩
    · rcases List.mem_cons.1 h with h | h
      · exact Or.inl h
      · rcases joinC_mem h with h | ⟨y, hy, h⟩
        · exact Or.inl h
        · exact Or.inr ⟨y, List.mem_cons_of_mem _ hy, h⟩
set_option maxRecDepth 100000 in
theorem one_no33 {c : Cl} (h : Right c) : (33 : UInt8) ∉ one c := by
  unfold one
  intro hm
  rcases List.mem_append.1 hm with hm | hm
  · exact star_not h (by decide) (by decide) (by decide) hm
  · split at hm
    · cases hm
    · rcases List.mem_cons.1 hm with hm | hm
      · revert hm; decide
      · rcases List.mem_append.1 hm with hm | hm
        · exact digits_not _ (by decide) hm
        · rcases List.mem_cons.1 hm with hm | hm
          · revert hm; decide
          · exact digits_not _ (by decide) hm

set_option maxRecDepth 100000 in
/-- P11.4: what was printed is parsed as the same filter. -/
theorem parse_text {f : List Cl} (h : ∀ c ∈ f, Right c) (hl : f.length ≤ 8) : parse (text f) = some f := by
  unfold text
  by_cases hf : f = []
  · rw [if_pos hf, hf]; rfl
  · rw [if_neg hf]
    have hne : joinC 44 (f.map one) ≠ [33] := by
      intro e
      have hm : (33 : UInt8) ∈ joinC 44 (f.map one) := by rw [e]; simp
      rcases joinC_mem hm with k | ⟨a, ha, k⟩
      · revert k; decide
      · obtain ⟨c, hc, rfl⟩ := List.mem_map.1 ha
        exact one_no33 (h c hc) k
    unfold parse
    rw [if_neg hne, cut_join (by simpa using hf) (fun a ha => by obtain ⟨c, hc, rfl⟩ := List.mem_map.1 ha; exact one_not (h c hc)), clauses_all h]
    exact if_pos hl

set_option maxRecDepth 100000 in
theorem clauses_right : ∀ {l : List Tx} {f : List Cl}, clauses l = some f → (∀ c ∈ f, Right c) ∧ f.length = l.length
  | [], f, h => by
    have : f = [] := by simpa [clauses] using h.symm
    rw [this]
    exact ⟨fun c hc => (by cases hc), rfl⟩
  | a :: l, f, h => by
    unfold clauses at h
    cases hc : clause a with
    | none => rw [hc] at h; cases h
    | some c =>
      cases hg : clauses l with
      | none => rw [hc, hg] at h; cases h
      | some g =>
        rw [hc, hg] at h
        have e : c :: g = f := by simpa using h
        rw [← e]
        obtain ⟨h1, h2⟩ := clauses_right hg
        refine ⟨fun x hx => ?_, by simp [h2]⟩
        rcases List.mem_cons.1 hx with rfl | hx
        · unfold clause at hc
          cases hr : read a with
          | none => rw [hr] at hc; cases hc
          | some y =>
            rw [hr] at hc
            simp only at hc
            by_cases hy : Right y
            · rw [if_pos hy] at hc
              have : y = x := by simpa using hc
              rw [← this]; exact hy
            · rw [if_neg hy] at hc; cases hc
        · exact h1 x hx
set_option maxRecDepth 100000 in
theorem parse_right {s : Tx} {f : List Cl} (h : parse s = some f) : (∀ c ∈ f, Right c) ∧ f.length ≤ 8 := by
  unfold parse at h
  by_cases hs : s = [33]
  · rw [if_pos hs] at h
    have : f = [] := by simpa using h.symm
    rw [this]
    exact ⟨fun c hc => (by cases hc), by simp⟩
  · rw [if_neg hs] at h
    cases hg : clauses (cut 44 s) with
    | none => rw [hg] at h; cases h
    | some g =>
      rw [hg] at h
      simp only at h
      by_cases hl : g.length ≤ 8
      · rw [if_pos hl] at h
        have : g = f := by simpa using h
        rw [← this]
        exact ⟨(clauses_right hg).1, hl⟩
      · rw [if_neg hl] at h; cases h
set_option maxRecDepth 100000 in
theorem text_inj {f g : List Cl} (hf : ∀ c ∈ f, Right c) (hg : ∀ c ∈ g, Right c) (lf : f.length ≤ 8) (lg : g.length ≤ 8) (h : text f = text g) : f = g := by
  have := parse_text hf lf
  rw [h, parse_text hg lg] at this
  exact (by simpa using this.symm)
set_option maxRecDepth 100000 in
/-- P11.4: filters that are alike have one plain text. -/
theorem plain_alike {f g : List Cl} (hf : ∀ c ∈ f, Right c) (hg : ∀ c ∈ g, Right c) (lf : (Flt.norm f).length ≤ 8) (lg : (Flt.norm g).length ≤ 8) : text (Flt.norm f) = text (Flt.norm g) ↔ Flt.Alike f g := by
  rw [Flt.alike_iff]
  exact ⟨text_inj (Flt.norm_right hf) (Flt.norm_right hg) lf lg, fun h => by rw [h]⟩

set_option maxRecDepth 100000 in
theorem one_len {c : Cl} (h : Right c) : (one c).length ≤ 48 := by
  unfold one
  have h1 : (star c.pre).length ≤ 40 := by
    unfold star
    split
    · simp
    · rename_i hne
      exact (h.1.resolve_left hne).2.1
  have hb := h.2
  rw [List.length_append]
  split
  · simp; omega
  · have := digits_len c.lo.toNat (by omega)
    have := digits_len c.hi.toNat (by omega)
    simp only [List.length_cons, List.length_append]
    omega
set_option maxRecDepth 100000 in
theorem join_len (b : UInt8) : ∀ (l : List Tx) (k : Nat), (∀ a ∈ l, a.length ≤ k) → (joinC b l).length ≤ l.length * (k + 1)
  | [], k, _ => by simp [joinC]
  | [a], k, h => by
    have := h a (by simp)
    show a.length ≤ _
    simp
    omega
  | a :: c :: l, k, h => by
    have h1 := h a (by simp)
    have h2 := join_len b (c :: l) k (fun x hx => h x (List.mem_cons_of_mem _ hx))
    show (a ++ b :: joinC b (c :: l)).length ≤ _
    rw [List.length_append, List.length_cons]
    have e : (a :: c :: l).length * (k + 1) = (c :: l).length * (k + 1) + (k + 1) := by
      rw [List.length_cons (as := c :: l), Nat.succ_mul]
    omega
set_option maxRecDepth 100000 in
theorem text_len {f : List Cl} (h : ∀ c ∈ f, Right c) (hl : f.length ≤ 8) : (text f).length ≤ 392 := by
  unfold text
  split
  · simp
  · have := join_len 44 (f.map one) 48 (fun a ha => by obtain ⟨c, hc, rfl⟩ := List.mem_map.1 ha; exact one_len (h c hc))
    rw [List.length_map] at this
    omega
end Go.Proofs.YtabnfaonlkipbaaGreatDoor.Flg
/- Words for memory with footprints: what a call may write is a set of blocks; slices that read as lists. No program is spoken of. -/
namespace Go.Proofs.YtabnfaonlkipbaaGreatDoor
open Go.RowKit

/-- Of what was there, only blocks of F may have turned. -/
structure Kept (F : Nat → Prop) (w w' : World) : Prop where
  os : w'.os = w.os
  tape : w'.tape = w.tape
  output : w'.output = w.output
  size : w.heap.size ≤ w'.heap.size
  block : ∀ k, k < w.heap.size → ¬ F k → w'.heap[k]? = w.heap[k]?

/-- A set of blocks, and all that came to be between two worlds. -/
def Grow (F : Nat → Prop) (w w' : World) (k : Nat) : Prop := F k ∨ (w.heap.size ≤ k ∧ k < w'.heap.size)

section
variable {F G : Nat → Prop} {a b c w w' : World}

set_option maxRecDepth 100000 in
theorem Kept.refl (F : Nat → Prop) (w : World) : Kept F w w := ⟨rfl, rfl, rfl, Nat.le_refl _, fun _ _ _ => rfl⟩

set_option maxRecDepth 100000 in
/-- Two steps, the second one of which may write what came to be in the first. -/
theorem Kept.trans (h : Kept F a b) (k : Kept G b c) (hG : ∀ i, i < a.heap.size → G i → F i) : Kept F a c :=
  ⟨k.os.trans h.os, k.tape.trans h.tape, k.output.trans h.output, Nat.le_trans h.size k.size, fun i hi hn => (k.block i (Nat.lt_of_lt_of_le hi h.size) (fun hg => hn (hG i hi hg))).trans (h.block i hi hn)⟩

set_option maxRecDepth 100000 in
theorem Kept.mono (h : Kept F a b) (hF : ∀ i, F i → G i) : Kept G a b := ⟨h.os, h.tape, h.output, h.size, fun i hi hn => h.block i hi (fun hf => hn (hF i hf))⟩

set_option maxRecDepth 100000 in
theorem Kept.ofBelow (h : Below a.heap.size a b) (F : Nat → Prop) : Kept F a b := ⟨h.os, h.tape, h.output, h.size, fun i hi _ => h.block i hi⟩

set_option maxRecDepth 100000 in
theorem Kept.ofGrown {r : Option Nat} (h : a.grownBy b r) (hr : ∀ i, r = some i → F i) : Kept F a b := ⟨h.os, h.tape, h.output, h.size, fun i hi hn => h.block i hi (fun e => hn (hr i e.symm))⟩

set_option maxRecDepth 100000 in
theorem Kept.grown {i : Nat} (h : Kept (fun k => k = i) a b) : a.grownBy b (some i) := ⟨h.os, h.tape, h.output, h.size, fun k hk hn => h.block k hk (fun e => hn (by rw [e]))⟩

set_option maxRecDepth 100000 in
theorem Kept.below (h : Kept F a b) {B : Nat} (hB : B ≤ a.heap.size) (hF : ∀ i, F i → B ≤ i) : Below B a b := ⟨h.os, h.tape, h.output, h.size, fun i hi => h.block i (by omega) (fun hf => by have := hF i hf; omega)⟩

set_option maxRecDepth 100000 in
theorem Kept.drew (h : Kept F a b) : Kept F a b.drew := ⟨h.os, h.tape, h.output, h.size, h.block⟩

set_option maxRecDepth 100000 in
theorem Kept.alloc (h : Kept F a b) (o : Obj) : Kept F a (b.alloc o) :=
  h.trans (G := F) ⟨rfl, rfl, rfl, by simp, fun i hi _ => Below.heap_alloc b o i hi⟩ (fun _ _ h => h)

set_option maxRecDepth 100000 in
theorem Kept.stored (h : Kept F a b) {p : Addr} (hp : F p.block ∨ a.heap.size ≤ p.block) (u : Value) : Kept F a (b.setCell p u) :=
  ⟨h.os, h.tape, h.output, by simpa [World.setCell] using h.size, fun i hi hn => by
    rcases hp with hp | hp
    · exact (Below.heap_setCell b p u i (fun e => hn (by rw [e]; exact hp))).trans (h.block i hi hn)
    · exact (Below.heap_setCell b p u i (by omega)).trans (h.block i hi hn)⟩

set_option maxRecDepth 100000 in
theorem Grow.old {k : Nat} (h : F k) : Grow F a b k := Or.inl h
set_option maxRecDepth 100000 in
theorem Grow.lt {k : Nat} (h : Grow F a b k) (hF : ∀ k, F k → k < a.heap.size) (hs : a.heap.size ≤ b.heap.size) : k < b.heap.size := by
  rcases h with h | h
  · exact Nat.lt_of_lt_of_le (hF k h) hs
  · exact h.2
set_option maxRecDepth 100000 in
theorem Grow.trans {k : Nat} (h : Grow (Grow F a b) b c k) (hab : a.heap.size ≤ b.heap.size) (hbc : b.heap.size ≤ c.heap.size) : Grow F a c k := by
  rcases h with (h | h) | h
  · exact Or.inl h
  · exact Or.inr ⟨h.1, by omega⟩
  · exact Or.inr ⟨by omega, h.2⟩
set_option maxRecDepth 100000 in
theorem Grow.within {k : Nat} (h : Grow F a b k) (hbc : b.heap.size ≤ c.heap.size) : Grow F a c k := by
  rcases h with h | h
  · exact Or.inl h
  · exact Or.inr ⟨h.1, by omega⟩
set_option maxRecDepth 100000 in
theorem Grow.later {k : Nat} (h : Grow F b c k) (hab : a.heap.size ≤ b.heap.size) : Grow F a c k := by
  rcases h with h | h
  · exact Or.inl h
  · exact Or.inr ⟨by omega, h.2⟩

set_option maxRecDepth 100000 in
/-- Whoever has no block of F finds its own as they were. -/
theorem Kept.same (h : Kept F w w') {k : Nat} (hk : k < w.heap.size) (hn : ¬ F k) : w'.heap[k]? = w.heap[k]? := h.block k hk hn

set_option maxRecDepth 100000 in
theorem Kept.cell (h : Kept F w w') {p : Addr} (hk : p.block < w.heap.size) (hn : ¬ F p.block) : w'.cell? p = w.cell? p := World.cell?_of_block (w := w) (h.block p.block hk hn)

set_option maxRecDepth 100000 in
theorem Row.kept {t : TypeId} {i : Nat} {cs : Array Value} (hr : Row w i t cs) (h : Kept F w w') (hn : ¬ F i) : Row w' i t cs := (h.block i hr.inHeap hn).trans hr
end

/-! ### Slices of one cell each -/

/-- The slice value v reads as us, out of blocks of F. -/
def Cells (w : World) (F : Nat → Prop) (v : Value) (us : List Value) : Prop :=
  ∃ A cap, v = .slice A us.length cap ∧ us.length ≤ cap ∧ (0 < us.length → ∃ b o, A = some ⟨b, o, none⟩ ∧ F b ∧ b < w.heap.size ∧ ∀ i u, us[i]? = some u → w.cell? ⟨b, o + i, none⟩ = some u)

section
variable {F G : Nat → Prop} {w w' : World} {v : Value} {us : List Value}

set_option maxRecDepth 100000 in
theorem Cells.none (w : World) (F : Nat → Prop) : Cells w F (.slice none 0 0) [] := ⟨Option.none, 0, rfl, Nat.le_refl _, fun h => absurd h (by simp)⟩

set_option maxRecDepth 100000 in
theorem Cells.kept (h : Cells w F v us) (k : Kept G w w') (hd : ∀ i, F i → ¬ G i) : Cells w' F v us := by
  obtain ⟨A, cap, h1, h2, h3⟩ := h
  refine ⟨A, cap, h1, h2, fun hp => ?_⟩
  obtain ⟨b, o, e, hb, hl, hc⟩ := h3 hp
  exact ⟨b, o, e, hb, Nat.lt_of_lt_of_le hl k.size, fun i u hu => (k.cell (p := ⟨b, o + i, Option.none⟩) hl (hd b hb)).trans (hc i u hu)⟩

set_option maxRecDepth 100000 in
theorem Cells.mono (h : Cells w F v us) (hF : ∀ i, F i → G i) : Cells w G v us := by
  obtain ⟨A, cap, h1, h2, h3⟩ := h
  refine ⟨A, cap, h1, h2, fun hp => ?_⟩
  obtain ⟨b, o, e, hb, r⟩ := h3 hp
  exact ⟨b, o, e, hF b hb, r⟩

set_option maxRecDepth 100000 in
theorem Cells.ofOwn {base t n : Nat} (h : w.ownsRow base t 1 v n us) (hF : ∀ b, v.ownBlock = some b → base ≤ b → b < w.heap.size → F b) : Cells w F v us := by
  have hn : us.length = n := by rw [h.1, Nat.mul_one]
  subst hn
  rcases h.2 with ⟨hv, h0⟩ | ⟨g, cap, cur, hv, hb, hg, hc, hm, hs, ht⟩
  · rw [hv]
    have : us = [] := List.eq_nil_of_length_eq_zero h0
    rw [this]
    exact Cells.none _ _
  · refine ⟨some ⟨g, 0, Option.none⟩, cap, hv, hc, fun _ => ⟨g, 0, rfl, hF g (by rw [hv]; rfl) hb (lt_of_block hg), lt_of_block hg, fun i u hu => ?_⟩⟩
    rw [cell_of_row w g _ cur t (0, 0) hg, Nat.zero_add]
    rw [← ht, List.getElem?_take] at hu
    split at hu
    · rw [Array.getElem?_toList] at hu; exact hu
    · cases hu
end
end Go.Proofs.YtabnfaonlkipbaaGreatDoor
/- Slices whose elements have several cells each (structs): what they read as, what is appended to the call's own, pieces of them. No program is spoken of. -/
namespace Go.Proofs.YtabnfaonlkipbaaGreatDoor
open Go.RowKit

/-- The slice value v reads as l, each x as the k cells f x, out of blocks of F. -/
def Rws {α : Type} (k : Nat) (f : α → List Value) (w : World) (F : Nat → Prop) (v : Value) (l : List α) : Prop :=
  ∃ A cap, v = .slice A l.length cap ∧ l.length ≤ cap ∧ (0 < l.length → ∃ b o, A = some ⟨b, o, none⟩ ∧ F b ∧ b < w.heap.size ∧ ∀ i x, l[i]? = some x → ∀ j u, (f x)[j]? = some u → w.cell? ⟨b, o + i * k + j, none⟩ = some u)

section
variable {α : Type} {k : Nat} {f : α → List Value} {w w' : World} {F G : Nat → Prop} {v : Value} {l : List α}

set_option maxRecDepth 100000 in
theorem Rws.none (w : World) (F : Nat → Prop) (c : Nat) : Rws k f w F (.slice none 0 c) [] := ⟨Option.none, c, rfl, Nat.zero_le _, fun h => absurd h (by simp)⟩
set_option maxRecDepth 100000 in
theorem Rws.empty (w : World) (F : Nat → Prop) (A : Option Addr) (c : Nat) : Rws k f w F (.slice A 0 c) [] := ⟨A, c, rfl, Nat.zero_le _, fun h => absurd h (by simp)⟩

set_option maxRecDepth 100000 in
theorem Rws.kept (h : Rws k f w F v l) (hk : Kept G w w') (hd : ∀ i, F i → ¬ G i) : Rws k f w' F v l := by
  obtain ⟨A, cap, h1, h2, h3⟩ := h
  refine ⟨A, cap, h1, h2, fun hp => ?_⟩
  obtain ⟨b, o, e, hb, hl, hc⟩ := h3 hp
  exact ⟨b, o, e, hb, Nat.lt_of_lt_of_le hl hk.size, fun i x hx j u hu => (hk.cell (p := ⟨b, _, Option.none⟩) hl (hd b hb)).trans (hc i x hx j u hu)⟩

set_option maxRecDepth 100000 in
theorem Rws.below (h : Rws k f w F v l) (hk : Below w.heap.size w w') : Rws k f w' F v l := h.kept (Kept.ofBelow hk (fun _ => False)) (fun _ _ h => h)

set_option maxRecDepth 100000 in
theorem Rws.mono (h : Rws k f w F v l) (hF : ∀ i, F i → G i) : Rws k f w G v l := by
  obtain ⟨A, cap, h1, h2, h3⟩ := h
  refine ⟨A, cap, h1, h2, fun hp => ?_⟩
  obtain ⟨b, o, e, hb, r⟩ := h3 hp
  exact ⟨b, o, e, hF b hb, r⟩

set_option maxRecDepth 100000 in
theorem Rws.lt (h : Rws k f w F v l) : Rws k f w (fun i => F i ∧ i < w.heap.size) v l := by
  obtain ⟨A, cap, h1, h2, h3⟩ := h
  refine ⟨A, cap, h1, h2, fun hp => ?_⟩
  obtain ⟨b, o, e, hb, r⟩ := h3 hp
  exact ⟨b, o, e, ⟨hb, r.1⟩, r⟩

set_option maxRecDepth 100000 in
/-- Rows, one behind the other: which cell is which. -/
theorem rows_at : ∀ (l : List α), (∀ x ∈ l, (f x).length = k) → ∀ (i : Nat) (x : α), l[i]? = some x → ∀ (j : Nat) (u : Value), (f x)[j]? = some u → (l.flatMap f)[i * k + j]? = some u
  | [], _, i, x, hx, _, _, _ => by cases hx
  | y :: l, hk, 0, x, hx, j, u, hu => by
    simp at hx
    subst hx
    rw [List.flatMap_cons, Nat.zero_mul, Nat.zero_add, List.getElem?_append_left (by obtain ⟨h, _⟩ := List.getElem?_eq_some_iff.1 hu; exact h)]
    exact hu
  | y :: l, hk, i + 1, x, hx, j, u, hu => by
    have hy := hk y (by simp)
    rw [List.flatMap_cons, List.getElem?_append_right (by rw [hy, Nat.add_one_mul]; omega), hy]
    have e : (i + 1) * k + j - k = i * k + j := by rw [Nat.add_one_mul]; omega
    rw [e]
    exact rows_at l (fun z hz => hk z (List.mem_cons_of_mem _ hz)) i x (by simpa using hx) j u hu

set_option maxRecDepth 100000 in
theorem rows_of : ∀ (l : List α), (∀ x ∈ l, (f x).length = k) → ∀ (m : Nat) (u : Value), (l.flatMap f)[m]? = some u → ∃ i x j, l[i]? = some x ∧ (f x)[j]? = some u ∧ m = i * k + j
  | [], _, m, u, h => by simp at h
  | y :: l, hk, m, u, h => by
    have hy := hk y (by simp)
    rw [List.flatMap_cons] at h
    by_cases hm : m < k
    · rw [List.getElem?_append_left (by omega)] at h
      exact ⟨0, y, m, rfl, h, by omega⟩
    · rw [List.getElem?_append_right (by omega), hy] at h
      obtain ⟨i, x, j, h1, h2, h3⟩ := rows_of l (fun z hz => hk z (List.mem_cons_of_mem _ hz)) _ u h
      exact ⟨i + 1, x, j, by simpa using h1, h2, by rw [Nat.add_one_mul]; omega⟩

set_option maxRecDepth 100000 in
theorem rows_len : ∀ (l : List α), (∀ x ∈ l, (f x).length = k) → (l.flatMap f).length = l.length * k
  | [], _ => by simp
  | y :: l, hk => by
    rw [List.flatMap_cons, List.length_append, rows_len l (fun z hz => hk z (List.mem_cons_of_mem _ hz)), hk y (by simp), List.length_cons, Nat.add_one_mul]
    omega

set_option maxRecDepth 100000 in
theorem Rws.ofOwn {base t n : Nat} (h : w.ownsRow base t k v n (l.flatMap f)) (hl : l.length = n) (hk : ∀ x ∈ l, (f x).length = k) (hF : ∀ b, v.ownBlock = some b → base ≤ b → b < w.heap.size → F b) : Rws k f w F v l := by
  subst hl
  rcases h.2 with ⟨hv, h0⟩ | ⟨g, cap, cur, hv, hb, hg, hc, hm, hs, ht⟩
  · rw [hv]
    have : l = [] := List.eq_nil_of_length_eq_zero h0
    rw [this]
    exact Rws.none _ _ _
  · refine ⟨some ⟨g, 0, Option.none⟩, cap, hv, hc, fun _ => ⟨g, 0, rfl, hF g (by rw [hv]; rfl) hb (lt_of_block hg), lt_of_block hg, fun i x hx j u hu => ?_⟩⟩
    have hr := rows_at l hk i x hx j u hu
    rw [cell_of_row w g _ cur t (0, 0) hg, Nat.zero_add]
    rw [← ht, List.getElem?_take] at hr
    split at hr
    · rw [Array.getElem?_toList] at hr; exact hr
    · cases hr

set_option maxRecDepth 100000 in
/-- A piece from the front, a piece to the end. -/
theorem Rws.take (h : Rws k f w F v l) {A : Option Addr} {cap : Nat} (hv : v = .slice A l.length cap) (i : Nat) (hi : i ≤ l.length) (c : Nat) (hc : i ≤ c) : Rws k f w F (.slice A i c) (l.take i) := by
  obtain ⟨B, cap', h1, h2, h3⟩ := h
  rw [h1] at hv
  injection hv with e1 e2 e3
  subst e1
  have hl : (l.take i).length = i := by rw [List.length_take]; omega
  refine ⟨B, c, by rw [hl], by rw [hl]; exact hc, fun hp => ?_⟩
  rw [hl] at hp
  obtain ⟨b, o, e, hb, hlt, hcl⟩ := h3 (by omega)
  exact ⟨b, o, e, hb, hlt, fun m x hx => hcl m x (by rw [List.getElem?_take] at hx; split at hx; exact hx; cases hx)⟩

set_option maxRecDepth 100000 in
theorem Rws.drop (h : Rws k f w F v l) {b o cap : Nat} (hv : v = .slice (some ⟨b, o, Option.none⟩) l.length cap) (i : Nat) (hi : i ≤ l.length) (c : Nat) (hc : l.length - i ≤ c) : Rws k f w F (.slice (some ⟨b, o + i * k, Option.none⟩) (l.length - i) c) (l.drop i) := by
  obtain ⟨B, cap', h1, h2, h3⟩ := h
  rw [h1] at hv
  injection hv with e1 e2 e3
  subst e1
  have hl : (l.drop i).length = l.length - i := List.length_drop
  refine ⟨_, c, by rw [hl], by rw [hl]; exact hc, fun hp => ?_⟩
  rw [hl] at hp
  obtain ⟨b', o', e, hb, hlt, hcl⟩ := h3 (by omega)
  injection e with e
  injection e with e1 e2
  subst e1 e2
  refine ⟨b, o + i * k, rfl, hb, hlt, fun m x hx j u hu => ?_⟩
  rw [List.getElem?_drop] at hx
  have := hcl (i + m) x hx j u hu
  rw [show o + (i + m) * k + j = o + i * k + m * k + j by rw [Nat.add_mul]; omega] at this
  exact this
end

/-! ### What is appended to the call's own -/
section
variable {P : Program} {α : Type} {k : Nat} {f : α → List Value}

set_option maxRecDepth 100000 in
theorem join_nothing {w : World} (base : Nat) (t ty e : TypeId) (i : TypeInfo) (size c : Nat) (ht : P.underlying t = some (.slice e)) (hi : P.info? e = some i) (v : Value) (n : Nat) (xs : List Value) (hown : w.ownsRow base e size v n xs) :
    (Builtin.append_ #[t, t] ty #[v, .slice none 0 c]).run P w = .ok v w := by
  rcases hown.2 with ⟨rfl, rfl⟩ | ⟨g, cap, cur, rfl, _, _, hnc, _⟩
  · simp [Builtin.append_, run_underlying ht, sizeOf, typeInfo, hi, Builtin.lenOf, Builtin.firstCells]
  · simp [Builtin.append_, run_underlying ht, sizeOf, typeInfo, hi, Builtin.lenOf, Builtin.firstCells, hnc, storeCells]

set_option maxRecDepth 100000 in
/-- The call's own, and behind it what another slice reads as. -/
theorem join_rows {w : World} (base : Nat) (t ty e : TypeId) (i : TypeInfo) (z : Value) (bytes : Nat) (ht : P.underlying t = some (.slice e)) (hi : P.info? e = some i) (hz : i.zero = some z) (hsize : i.size = k) (hby : i.bytes = bytes) (hzs : z.cells.size = k) (hsz : 0 < k)
    {v xv : Value} {n : Nat} {xs : List Value} {F : Nat → Prop} {l : List α} (hown : w.ownsRow base e k v n xs) (hx : Rws k f w F xv l) (hk : ∀ x ∈ l, (f x).length = k) (h1 : ∀ x ∈ l, ∀ u ∈ f x, u.oneCell' = true)
    (h63 : n + l.length ≤ maxLen) (hbytes : (n + l.length) * bytes ≤ 140737488355328) (hbase : base ≤ w.heap.size) :
    ∃ v' w', (Builtin.append_ #[t, t] ty #[v, xv]).run P w = .ok v' w' ∧ w'.ownsRow base e k v' (n + l.length) (xs ++ l.flatMap f) ∧ w.grownBy w' v.ownBlock := by
  obtain ⟨A, c, rfl, hc, hat⟩ := hx
  have hone : ∀ u ∈ l.flatMap f, u.oneCell' = true := by
    intro u hu
    obtain ⟨x, hx, hu⟩ := List.mem_flatMap.1 hu
    exact h1 x hx u hu
  have hgo : ∀ ad : Addr, A = some ad → (∀ j u, (l.flatMap f)[j]? = some u → w.cell? (ad.add j) = some u) → ∃ v' w', (Builtin.append_ #[t, t] ty #[v, .slice A l.length c]).run P w = .ok v' w' ∧ w'.ownsRow base e k v' (n + l.length) (xs ++ l.flatMap f) ∧ w.grownBy w' v.ownBlock := by
    rintro ad rfl hnews
    obtain ⟨v', w', r1, r2, r3, -⟩ := run_append_own w base t ty e i z k bytes ht hi hz hsize hby hzs hsz v n xs hown ad l.length c (l.flatMap f) (rows_len l hk) hnews hone h63 hbytes hbase
    exact ⟨v', w', r1, r2, r3⟩
  by_cases h0 : 0 < l.length
  · obtain ⟨b, o, rfl, -, hbl, hcell⟩ := hat h0
    refine hgo _ rfl (fun j u hu => ?_)
    obtain ⟨m, x, r, e1, e2, rfl⟩ := rows_of l hk j u hu
    rw [Go.WideShapes.add_plain, ← Nat.add_assoc]
    exact hcell m x e1 r u e2
  · have hl : l = [] := List.eq_nil_of_length_eq_zero (by omega)
    subst hl
    cases A with
    | none => exact ⟨v, w, join_nothing base t ty e i k c ht hi v n xs hown, by simpa using hown, rfl, rfl, rfl, Nat.le_refl _, fun _ _ _ => rfl⟩
    | some ad => exact hgo ad rfl (fun j u hu => by simp at hu)

set_option maxRecDepth 100000 in
theorem wp_join {ops : Array Oper} {rest : List Oper} {o : Oper} {a : Act} {w : World} {Q : Exit → Act → World → Prop} (hgd : o.guard = none) (s x : Operand) (t : TypeId)
    (ho : o.op = .call { callee := .builtin .append, args := #[s, x], argTypes := #[t, t] }) (base : Nat) (e : TypeId) (i : TypeInfo) (z : Value) (bytes : Nat) (ht : P.underlying t = some (.slice e)) (hi : P.info? e = some i) (hz : i.zero = some z)
    (hsize : i.size = k) (hby : i.bytes = bytes) (hzs : z.cells.size = k) (hsz : 0 < k) {v xv : Value} {n : Nat} {xs : List Value} {F : Nat → Prop} {l : List α} (hs : a.eval s = v) (hx : a.eval x = xv)
    (hown : w.ownsRow base e k v n xs) (hr : Rws k f w F xv l) (hk : ∀ x ∈ l, (f x).length = k) (h1 : ∀ x ∈ l, ∀ u ∈ f x, u.oneCell' = true) (h63 : n + l.length ≤ maxLen) (hbytes : (n + l.length) * bytes ≤ 140737488355328) (hbase : base ≤ w.heap.size)
    (h : ∀ v' w', w'.ownsRow base e k v' (n + l.length) (xs ++ l.flatMap f) → w.grownBy w' v.ownBlock → wpList P ops Q rest (a.put o.dst v') w') : wpList P ops Q (o :: rest) a w :=
  wpList_plain hgd fun _ hK => by
    obtain ⟨v', w', r1, r2, r3⟩ := join_rows (P := P) base t o.type e i z bytes ht hi hz hsize hby hzs hsz hown hr hk h1 h63 hbytes hbase
    unfold Oper.wp execOp
    simp only [ho, resolve, invoke, builtin, Sem.run_bind, Sem.run_pure, Result.andThen_ok, List.map_toArray, List.map_cons, List.map_nil, hs, hx, r1]
    exact hK _ _ (h v' w' r2 r3)

set_option maxRecDepth 100000 in
theorem step_joins {ops : Array Oper} {o : Oper} {a : Act} {w : World} {K : Act → World → Prop} {Q : Exit → Act → World → Prop} {E : Prop} (hgd : o.guard = none) (s x : Operand) (t : TypeId)
    (ho : o.op = .call { callee := .builtin .append, args := #[s, x], argTypes := #[t, t] }) (base : Nat) (e : TypeId) (i : TypeInfo) (z : Value) (bytes : Nat) (ht : P.underlying t = some (.slice e)) (hi : P.info? e = some i) (hz : i.zero = some z)
    (hsize : i.size = k) (hby : i.bytes = bytes) (hzs : z.cells.size = k) (hsz : 0 < k) {v xv : Value} {n : Nat} {xs : List Value} {F : Nat → Prop} {l : List α} (hs : a.eval s = v) (hx : a.eval x = xv)
    (hown : w.ownsRow base e k v n xs) (hr : Rws k f w F xv l) (hk : ∀ x ∈ l, (f x).length = k) (h1 : ∀ x ∈ l, ∀ u ∈ f x, u.oneCell' = true) (h63 : n + l.length ≤ maxLen) (hbytes : (n + l.length) * bytes ≤ 140737488355328) (hbase : base ≤ w.heap.size)
    (h : ∀ v' w', w'.ownsRow base e k v' (n + l.length) (xs ++ l.flatMap f) → w.grownBy w' v.ownBlock → K (a.put o.dst v') w') :
    if Region.wanted o (yielded ops a.tmps) = true then Oper.wp P o a w K Q else E := by
  rw [if_pos (by simp [Region.wanted, hgd])]
  obtain ⟨v', w', r1, r2, r3⟩ := join_rows (P := P) base t o.type e i z bytes ht hi hz hsize hby hzs hsz hown hr hk h1 h63 hbytes hbase
  unfold Oper.wp execOp
  simp only [ho, resolve, invoke, builtin, Sem.run_bind, Sem.run_pure, Result.andThen_ok, List.map_toArray, List.map_cons, List.map_nil, hs, hx, r1]
  exact h v' w' r2 r3
end
end Go.Proofs.YtabnfaonlkipbaaGreatDoor
