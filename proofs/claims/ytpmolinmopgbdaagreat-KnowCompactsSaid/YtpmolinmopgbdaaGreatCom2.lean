import Derived.Test.YtpmolinmopgbdaaGreatCom1
import Derived.Lib.SlicesCompact
import Derived.Deep.AppendLies
import Derived.Laws.AppendOwn
import Derived.Lib.Hide
set_option maxRecDepth 100000
set_option linter.unusedVariables false
set_option linter.unusedSimpArgs false
namespace Go.Proofs.YtpmolinmopgbdaaGreat.Sz
def Nm : Int → List Rg → Prop
 | _, [] => True
 | k, r :: l => k ≤ r.1 ∧ r.1 ≤ r.2 ∧ r.2 ≤ 200 ∧ Nm (r.2 + 2) l
def Nmt : Int → List Rg → Int → Prop
 | k, [], m => k ≤ m
 | k, r :: l, m => k ≤ r.1 ∧ r.1 ≤ r.2 ∧ r.2 ≤ 200 ∧ Nmt (r.2 + 2) l m
theorem Nm.mono : ∀ {l : List Rg} {j k : Int}, Nm k l → j ≤ k → Nm j l
 | [], _, _, _, _ => trivial
 | _ :: _, _, _, h, hj => ⟨by have := h.1; omega, h.2⟩
theorem Nmt.append : ∀ {l m : List Rg} {k j : Int}, Nmt k l j → Nm j m → Nm k (l ++ m)
 | [], _, _, _, h, hm => hm.mono h
 | _ :: _, _, _, _, h, hm => ⟨h.1, h.2.1, h.2.2.1, Nmt.append h.2.2.2 hm⟩
theorem Nm.snoc : ∀ {l : List Rg} {q : Rg} {k : Int}, Nm k (l ++ [q]) → Nmt k l q.1 ∧ q.1 ≤ q.2 ∧ q.2 ≤ 200
 | [], q, k, h => ⟨h.1, h.2.1, h.2.2.1⟩
 | r :: l, q, k, h => by
  obtain ⟨h1, h2, h3, h4⟩ := h
  have := Nm.snoc h4
  exact ⟨⟨h1, h2, h3, this.1⟩, this.2⟩
theorem Nm.bd : ∀ {l : List Rg} {k : Int}, Nm k l → ∀ r ∈ l, k ≤ r.1 ∧ r.1 ≤ r.2 ∧ r.2 ≤ 200
 | [], _, _, r, hr => by cases hr
 | q :: l, k, h, r, hr => by
  rcases List.mem_cons.1 hr with e | e
  ·rw [e]; exact ⟨h.1, h.2.1, h.2.2.1⟩
  ·have := Nm.bd h.2.2.2 r e
   have := h.1
   have := h.2.1
   omega
theorem Nm.before {l : List Rg} {k n : Int} (h : Nm k l) (hn : n < k) : holds l n = false := by
 unfold holds
 rw [Bool.and_eq_false_iff]
 right
 rw [List.any_eq_false]
 intro r hr
 have := h.bd r hr
 simp
 omega
theorem holds_append (a b : List Rg) (n : Int) : holds (a ++ b) n = (holds a n || holds b n) := by
 unfold holds
 rw [List.any_append]
 cases decide (0 ≤ n ∧ n ≤ 200) <;> simp
def bits (k d : Nat) (l : List Rg) : List Bool := (List.range' k d).map fun (i : Nat) => holds l (i : Int)
theorem bits_cons (k d : Nat) (l : List Rg) : bits k (d + 1) l = holds l (k : Int) :: bits (k + 1) d l := by
 unfold bits; rw [List.range'_succ, List.map_cons]
theorem of_bits (l : List Rg) : of l = bits 0 201 l := by
 unfold of bits; rw [List.range_eq_range']
theorem bits_past {lo hi : Int} {l : List Rg} : ∀ (d k : Nat), hi < (k : Int) → bits k d ((lo, hi) :: l) = bits k d l := by
 intro d
 induction d with
 | zero => intro k _; rfl
 | succ d ih =>
  intro k hk
  rw [bits_cons, bits_cons, ih (k + 1) (by omega), holds_cons]
  have : decide (((lo, hi) : Rg).1 ≤ (k : Int) ∧ (k : Int) ≤ ((lo, hi) : Rg).2) = false := decide_eq_false (by show ¬ (lo ≤ (k : Int) ∧ (k : Int) ≤ hi); omega)
  rw [this, Bool.and_false, Bool.false_or]
theorem nm_formR : ∀ (d k : Nat), k + d = 201 →
  (∀ l, Nm (k : Int) l → formR k none (bits k d l) = l) ∧
  (∀ (lo : Nat) (hi : Int) (l : List Rg), lo < k → (k : Int) ≤ hi + 1 → hi ≤ 200 → Nm (hi + 2) l → formR k (some lo) (bits k d (((lo : Int), hi) :: l)) = ((lo : Int), hi) :: l) := by
 intro d
 induction d with
 | zero =>
  intro k hk
  refine ⟨fun l h => ?_, fun lo hi l h1 h2 h3 h4 => ?_⟩
  ·cases l with
   | nil => rfl
   | cons r l => exact absurd h.1 (by have := h.2.1; have := h.2.2.1; omega)
  ·have : l = [] := by
    cases l with
    | nil => rfl
    | cons r l => exact absurd h4.1 (by have := h4.2.1; have := h4.2.2.1; omega)
   subst this
   show [((lo : Int), (k : Int) - 1)] = _
   rw [show (k : Int) - 1 = hi by omega]
 | succ d ih =>
  intro k hk
  obtain ⟨ih1, ih2⟩ := ih (k + 1) (by omega)
  refine ⟨fun l h => ?_, fun lo hi l h1 h2 h3 h4 => ?_⟩
  ·rw [bits_cons]
   cases l with
   | nil =>
    rw [holds_nil]
    exact ih1 [] trivial
   | cons r l =>
    obtain ⟨g1, g2, g3, g4⟩ := h
    obtain ⟨r1, r2⟩ := r
    simp only at g1 g2 g3 g4
    by_cases e : (k : Int) = r1
    ·subst e
     have hb : holds (((k : Int), r2) :: l) (k : Int) = true := by
      rw [holds_cons, decide_eq_true (p := 0 ≤ (k : Int) ∧ (k : Int) ≤ 200) (by omega)]
      simp [g2]
     rw [hb]
     exact ih2 k r2 l (by omega) (by omega) g3 g4
    ·have hn : Nm ((k + 1 : Nat) : Int) ((r1, r2) :: l) := ⟨by show ((k + 1 : Nat) : Int) ≤ r1; omega, g2, g3, g4⟩
     rw [hn.before (by omega)]
     exact ih1 _ hn
  ·rw [bits_cons]
   by_cases e : (k : Int) ≤ hi
   ·have hb : holds (((lo : Int), hi) :: l) (k : Int) = true := by
     rw [holds_cons, decide_eq_true (p := 0 ≤ (k : Int) ∧ (k : Int) ≤ 200) (by omega), decide_eq_true (p := (((lo : Int), hi) : Rg).1 ≤ (k : Int) ∧ (k : Int) ≤ (((lo : Int), hi) : Rg).2) (by show (lo : Int) ≤ (k : Int) ∧ (k : Int) ≤ hi; omega)]
     rfl
    rw [hb]
    exact ih2 lo hi l (by omega) (by omega) h3 h4
   ·have e2 : hi = (k : Int) - 1 := by omega
    have hb : holds (((lo : Int), hi) :: l) (k : Int) = false := by
     rw [holds_cons, h4.before (by omega), decide_eq_false (p := (((lo : Int), hi) : Rg).1 ≤ (k : Int) ∧ (k : Int) ≤ (((lo : Int), hi) : Rg).2) (by show ¬ ((lo : Int) ≤ (k : Int) ∧ (k : Int) ≤ hi); omega)]
     simp
    rw [hb, bits_past d (k + 1) (by omega)]
    show ((lo : Int), (k : Int) - 1) :: formR (k + 1) none (bits (k + 1) d l) = _
    rw [ih1 l (h4.mono (by omega)), e2]
theorem nm_form {l : List Rg} (h : Nm 0 l) : form (of l) = l := by
 rw [of_bits]
 exact (nm_formR 201 0 rfl).1 l h
theorem norm_is {l m : List Rg} (h : Nm 0 m) (hs : ∀ n, holds m n = holds l n) : m = norm l := by
 rw [← nm_form h, of_same hs]; rfl
theorem two_is {k : Nat} {a b m : List Rg} (h : Nm 0 m) (hs : ∀ n, 0 ≤ n → n ≤ 200 → holds m n = pick k (holds a n) (holds b n)) : m = two k a b := by
 rw [← nm_form h]
 unfold two of
 congr 1
 refine List.map_congr_left fun i hi => ?_
 have := List.mem_range.1 hi
 exact hs _ (by omega) (by omega)
theorem formR_nm : ∀ (b : List Bool) (k : Nat) (st : Option Nat), k + b.length ≤ 201 → Opens k st → Nm (match st with | some lo => (lo : Int) | none => (k : Int)) (formR k st b)
 | [], k, none, _, _ => trivial
 | [], k, some lo, hk, ho => by
  have := ho lo rfl
  simp only [List.length_nil] at hk
  exact ⟨Int.le_refl _, by show (lo : Int) ≤ (k : Int) - 1; omega, by show (k : Int) - 1 ≤ 200; omega, trivial⟩
 | false :: b, k, none, hk, ho => by
  have := formR_nm b (k + 1) none (by simp at hk; omega) (fun lo h => by cases h)
  exact this.mono (by show (k : Int) ≤ ((k + 1 : Nat) : Int); omega)
 | true :: b, k, none, hk, ho => formR_nm b (k + 1) (some k) (by simp at hk; omega) (fun lo h => by injection h with h; omega)
 | true :: b, k, some lo, hk, ho => by
  have := ho lo rfl
  exact formR_nm b (k + 1) (some lo) (by simp at hk; omega) (fun x h => by injection h with h; omega)
 | false :: b, k, some lo, hk, ho => by
  have := ho lo rfl
  have h2 := formR_nm b (k + 1) none (by simp at hk; omega) (fun x h => by cases h)
  simp only [List.length_cons] at hk
  exact ⟨Int.le_refl _, by show (lo : Int) ≤ (k : Int) - 1; omega, by show (k : Int) - 1 ≤ 200; omega, h2.mono (by show (k : Int) - 1 + 2 ≤ ((k + 1 : Nat) : Int); omega)⟩
theorem norm_nm (l : List Rg) : Nm 0 (norm l) := formR_nm (of l) 0 none (by rw [of_len]; omega) (fun lo h => by cases h)
theorem norm_len (l : List Rg) : (norm l).length ≤ 202 := by
 have := formR_len (of l) 0 none
 rw [of_len] at this
 exact this
def clip1 (r : Rg) : List Rg := if max r.1 0 ≤ min r.2 200 then [(max r.1 0, min r.2 200)] else []
def clip (l : List Rg) : List Rg := l.flatMap clip1
theorem clip1_holds (r : Rg) (n : Int) : holds (clip1 r) n = (decide (0 ≤ n ∧ n ≤ 200) && decide (r.1 ≤ n ∧ n ≤ r.2)) := by
 unfold clip1
 split
 ·rw [holds_cons, holds_nil, Bool.or_false]
  by_cases h : 0 ≤ n ∧ n ≤ 200
  ·rw [decide_eq_true h]
   congr 1
   rw [decide_eq_decide]
   simp only
   omega
  ·rw [decide_eq_false h]; rfl
 ·rw [holds_nil]
  by_cases h : 0 ≤ n ∧ n ≤ 200
  ·rw [decide_eq_false (p := r.1 ≤ n ∧ n ≤ r.2) (by omega), Bool.and_false]
  ·rw [decide_eq_false h]; rfl
theorem clip_holds : ∀ (l : List Rg) (n : Int), holds (clip l) n = holds l n
 | [], n => rfl
 | r :: l, n => by
  have := clip_holds l n
  unfold clip at this ⊢
  rw [List.flatMap_cons, holds_append, holds_cons, clip1_holds, this]
theorem clip1_bd (r : Rg) : ∀ x ∈ clip1 r, 0 ≤ x.1 ∧ x.1 ≤ x.2 ∧ x.2 ≤ 200 := by
 intro x hx
 unfold clip1 at hx
 split at hx
 ·rw [List.mem_singleton.1 hx]; simp only; omega
 ·cases hx
theorem clip_bd (l : List Rg) : ∀ x ∈ clip l, 0 ≤ x.1 ∧ x.1 ≤ x.2 ∧ x.2 ≤ 200 := by
 intro x hx
 obtain ⟨r, _, hr⟩ := List.mem_flatMap.1 hx
 exact clip1_bd r x hr
theorem clip1_len (r : Rg) : (clip1 r).length ≤ 1 := by unfold clip1; split <;> simp
theorem clip_len : ∀ (l : List Rg), (clip l).length ≤ l.length
 | [] => Nat.le_refl _
 | r :: l => by
  have h1 := clip_len l
  have h2 := clip1_len r
  unfold clip at h1 ⊢
  rw [List.flatMap_cons, List.length_append, List.length_cons]
  omega
theorem clip_take {l : List Rg} {n : Nat} {r : Rg} (h : l[n]? = some r) : clip (l.take (n + 1)) = clip (l.take n) ++ clip1 r := by
 obtain ⟨hl, he⟩ := List.getElem?_eq_some_iff.1 h
 unfold clip
 rw [List.take_succ_eq_append_getElem hl, he, List.flatMap_append]
 simp
theorem holds_perm {a b : List Rg} (h : a.Perm b) (n : Int) : holds a n = holds b n := by
 unfold holds
 congr 1
 rw [Bool.eq_iff_iff, List.any_eq_true, List.any_eq_true]
 exact ⟨fun ⟨x, hx, e⟩ => ⟨x, h.mem_iff.1 hx, e⟩, fun ⟨x, hx, e⟩ => ⟨x, h.mem_iff.2 hx, e⟩⟩
structure Put (S : List Rg) (n : Nat) (out : List Rg) : Prop where
 nm : Nm 0 out
 has : ∀ N, holds out N = holds (S.take n) N
 low : ∀ q, out.getLast? = some q → ∀ m x, n ≤ m → S[m]? = some x → q.1 ≤ x.1
 len : out.length ≤ n
structure Rising (S : List Rg) : Prop where
 bd : ∀ x ∈ S, 0 ≤ x.1 ∧ x.1 ≤ x.2 ∧ x.2 ≤ 200
 up : ∀ (i j : Nat) (x y : Rg), i < j → S[i]? = some x → S[j]? = some y → x.1 ≤ y.1
theorem Put.start (S : List Rg) : Put S 0 [] := ⟨trivial, fun N => rfl, fun q h => (by cases h), Nat.le_refl _⟩
theorem take_holds {S : List Rg} {n : Nat} {r : Rg} (h : S[n]? = some r) (N : Int) : holds (S.take (n + 1)) N = (holds (S.take n) N || (decide (0 ≤ N ∧ N ≤ 200) && decide (r.1 ≤ N ∧ N ≤ r.2))) := by
 obtain ⟨hl, he⟩ := List.getElem?_eq_some_iff.1 h
 rw [List.take_succ_eq_append_getElem hl, he, holds_append, holds_cons, holds_nil, Bool.or_false]
theorem Put.first {S : List Rg} {n : Nat} {r : Rg} (h : Put S n []) (hS : Rising S) (hr : S[n]? = some r) : Put S (n + 1) [r] := by
 have hb := hS.bd r (List.mem_of_getElem? hr)
 refine ⟨⟨hb.1, hb.2.1, hb.2.2, trivial⟩, fun N => ?_, ?_, by simp⟩
 ·rw [take_holds hr, ← h.has N, holds_cons, Bool.or_comm]
 ·rintro q hq m x hm hx
  simp at hq
  subst hq
  exact hS.up n m r x (by omega) hr hx
theorem Put.more {S : List Rg} {n : Nat} {r q : Rg} {out : List Rg} (h : Put S n (out ++ [q])) (hS : Rising S) (hr : S[n]? = some r) (hq : ¬ r.1 ≤ q.2 + 1) : Put S (n + 1) (out ++ [q] ++ [r]) := by
 have hb := hS.bd r (List.mem_of_getElem? hr)
 obtain ⟨s1, s2, s3⟩ := h.nm.snoc
 refine ⟨?_, fun N => ?_, ?_, by have := h.len; rw [List.length_append] at *; simp at *; omega⟩
 ·rw [List.append_assoc]
  exact s1.append ⟨Int.le_refl _, s2, s3, by show q.2 + 2 ≤ r.1; omega, hb.2.1, hb.2.2, trivial⟩
 ·rw [take_holds hr, ← h.has N, holds_append, holds_cons r [], holds_nil, Bool.or_false]
 ·rintro p hp m x hm hx
  simp at hp
  subst hp
  exact hS.up n m r x (by omega) hr hx
theorem Put.on {S : List Rg} {n : Nat} {r q : Rg} {out : List Rg} (h : Put S n (out ++ [q])) (hS : Rising S) (hr : S[n]? = some r) (hq : r.1 ≤ q.2 + 1) : Put S (n + 1) (out ++ [(q.1, max q.2 r.2)]) := by
 have hb := hS.bd r (List.mem_of_getElem? hr)
 obtain ⟨s1, s2, s3⟩ := h.nm.snoc
 have hlow := h.low q (by simp) n r (Nat.le_refl _) hr
 refine ⟨s1.append ⟨Int.le_refl _, by show q.1 ≤ max q.2 r.2; omega, by show max q.2 r.2 ≤ 200; omega, trivial⟩, fun N => ?_, ?_, by have := h.len; rw [List.length_append] at *; simp at *; omega⟩
 ·rw [take_holds hr, ← h.has N, holds_append, holds_append, holds_cons, holds_cons, holds_nil, Bool.or_false, Bool.or_false, Bool.or_assoc, ← Bool.and_or_distrib_left]
  congr 2
  rw [Bool.eq_iff_iff, Bool.or_eq_true, decide_eq_true_eq, decide_eq_true_eq, decide_eq_true_eq]
  simp only
  omega
 ·rintro p hp m x hm hx
  simp at hp
  subst hp
  exact h.low q (by simp) m x (by omega) hx
theorem Put.done {S l out : List Rg} (h : Put S S.length out) (hS : ∀ n, holds S n = holds l n) : out = norm l :=
 norm_is h.nm (fun n => by rw [h.has, List.take_length, hS])
def cutR : Int → Int → List Rg → List Rg × List Rg
 | c, hi, [] => ([], if c ≤ hi then [(c, hi)] else [])
 | c, hi, s :: b => ((if max c s.1 ≤ min hi s.2 then [(max c s.1, min hi s.2)] else []) ++ (cutR (max c (s.2 + 1)) hi b).1, (if c ≤ min hi (s.1 - 1) then [(c, min hi (s.1 - 1))] else []) ++ (cutR (max c (s.2 + 1)) hi b).2)
theorem cutR_past : ∀ (b : List Rg) (c hi : Int), hi < c → cutR c hi b = ([], [])
 | [], c, hi, h => by unfold cutR; rw [if_neg (by omega)]
 | s :: b, c, hi, h => by unfold cutR; rw [if_neg (by omega), if_neg (by omega), cutR_past b _ hi (by omega)]; rfl
theorem holds_if (p : Prop) [Decidable p] (r : Rg) (n : Int) : holds (if p then [r] else []) n = (decide (0 ≤ n ∧ n ≤ 200) && (decide p && decide (r.1 ≤ n ∧ n ≤ r.2))) := by
 by_cases h : p
 ·rw [if_pos h, holds_cons, holds_nil, Bool.or_false, decide_eq_true h, Bool.true_and]
 ·rw [if_neg h, holds_nil, decide_eq_false h, Bool.false_and, Bool.and_false]
theorem holds_in (b : List Rg) (n : Int) : holds b n = (decide (0 ≤ n ∧ n ≤ 200) && holds b n) := by
 by_cases h : 0 ≤ n ∧ n ≤ 200
 ·rw [decide_eq_true h, Bool.true_and]
 ·rw [holds_out h, Bool.and_false]
theorem cutR_in : ∀ (b : List Rg) (m c hi n : Int), Nm m b → holds (cutR c hi b).1 n = (decide (c ≤ n ∧ n ≤ hi) && holds b n)
 | [], m, c, hi, n, _ => by unfold cutR; rw [holds_nil, Bool.and_false]
 | s :: b, m, c, hi, n, h => by
  have ih := cutR_in b (s.2 + 2) (max c (s.2 + 1)) hi n h.2.2.2
  have hs := h.2.1
  unfold cutR
  rw [holds_append, holds_if, ih, holds_cons]
  by_cases hb : holds b n = true
  ·have hn : ¬ n < s.2 + 2 := fun hlt => by rw [h.2.2.2.before hlt] at hb; cases hb
   rw [hb, Bool.and_true, Bool.or_true, Bool.and_true]
   have hr : decide (0 ≤ n ∧ n ≤ 200) = true := by
    cases hd : decide (0 ≤ n ∧ n ≤ 200)
    ·rw [holds_in, hd] at hb; cases hb
    ·rfl
   rw [hr, Bool.true_and, Bool.eq_iff_iff]
   simp only [Bool.or_eq_true, Bool.and_eq_true, decide_eq_true_eq]
   omega
  ·rw [Bool.not_eq_true] at hb
   rw [hb, Bool.and_false, Bool.or_false, Bool.or_false, Bool.eq_iff_iff]
   simp only [Bool.and_eq_true, decide_eq_true_eq]
   omega
theorem cutR_out : ∀ (b : List Rg) (m c hi n : Int), Nm m b → holds (cutR c hi b).2 n = (decide (0 ≤ n ∧ n ≤ 200) && (decide (c ≤ n ∧ n ≤ hi) && !holds b n))
 | [], m, c, hi, n, _ => by
  unfold cutR
  rw [holds_if, holds_nil, Bool.not_false, Bool.and_true]
  congr 1
  rw [Bool.eq_iff_iff]
  simp only [Bool.and_eq_true, decide_eq_true_eq]
  omega
 | s :: b, m, c, hi, n, h => by
  have ih := cutR_out b (s.2 + 2) (max c (s.2 + 1)) hi n h.2.2.2
  have hs := h.2.1
  unfold cutR
  rw [holds_append, holds_if, ih, holds_cons, ← Bool.and_or_distrib_left]
  cases hr : decide (0 ≤ n ∧ n ≤ 200)
  ·rfl
  ·rw [Bool.true_and, Bool.true_and, Bool.true_and]
   by_cases hb : holds b n = true
   ·have hn : ¬ n < s.2 + 2 := fun hlt => by rw [h.2.2.2.before hlt] at hb; cases hb
    rw [hb, Bool.or_true, Bool.not_true, Bool.and_false, Bool.and_false, Bool.or_false, Bool.eq_false_iff]
    simp only [ne_eq, Bool.and_eq_true, decide_eq_true_eq]
    omega
   ·rw [Bool.not_eq_true] at hb
    rw [hb, Bool.or_false, Bool.not_false, Bool.and_true, Bool.eq_iff_iff]
    simp only [Bool.or_eq_true, Bool.and_eq_true, decide_eq_true_eq, Bool.not_eq_true', decide_eq_false_iff_not]
    omega
theorem cutR_nm1 : ∀ (b : List Rg) (m c hi k : Int), Nm m b → k ≤ m ∨ k ≤ c → k ≤ hi + 2 → hi ≤ 200 → Nmt k (cutR c hi b).1 (hi + 2)
 | [], m, c, hi, k, _, _, hk, _ => hk
 | s :: b, m, c, hi, k, h, h1, h2, h3 => by
  have hs := h.2.1
  have hm := h.1
  show Nmt k ((if max c s.1 ≤ min hi s.2 then [(max c s.1, min hi s.2)] else []) ++ (cutR (max c (s.2 + 1)) hi b).1) (hi + 2)
  split
  ·refine ⟨by show k ≤ max c s.1; omega, by assumption, by show min hi s.2 ≤ 200; omega, ?_⟩
   show Nmt (min hi s.2 + 2) (cutR (max c (s.2 + 1)) hi b).1 (hi + 2)
   by_cases hh : hi < s.2
   ·rw [cutR_past b _ hi (by omega)]
    show min hi s.2 + 2 ≤ hi + 2; omega
   ·exact cutR_nm1 b (s.2 + 2) _ hi _ h.2.2.2 (Or.inl (by omega)) (by omega) h3
  ·exact cutR_nm1 b (s.2 + 2) _ hi k h.2.2.2 (by omega) h2 h3
theorem cutR_nm2 : ∀ (b : List Rg) (m c hi k : Int), Nm m b → k ≤ c → k ≤ hi + 2 → hi ≤ 200 → Nmt k (cutR c hi b).2 (hi + 2)
 | [], m, c, hi, k, _, h1, h2, h3 => by
  unfold cutR
  split
  ·exact ⟨h1, by assumption, h3, Int.le_refl _⟩
  ·exact h2
 | s :: b, m, c, hi, k, h, h1, h2, h3 => by
  have hs := h.2.1
  show Nmt k ((if c ≤ min hi (s.1 - 1) then [(c, min hi (s.1 - 1))] else []) ++ (cutR (max c (s.2 + 1)) hi b).2) (hi + 2)
  split
  ·refine ⟨h1, by assumption, by show min hi (s.1 - 1) ≤ 200; omega, ?_⟩
   show Nmt (min hi (s.1 - 1) + 2) (cutR (max c (s.2 + 1)) hi b).2 (hi + 2)
   by_cases hh : hi < s.1 - 1
   ·rw [cutR_past b _ hi (by omega)]
    show min hi (s.1 - 1) + 2 ≤ hi + 2; omega
   ·exact cutR_nm2 b (s.2 + 2) _ hi _ h.2.2.2 (by omega) (by omega) h3
  ·exact cutR_nm2 b (s.2 + 2) _ hi k h.2.2.2 (by omega) h2 h3
theorem cutR_len : ∀ (b : List Rg) (c hi : Int), (cutR c hi b).1.length ≤ b.length ∧ (cutR c hi b).2.length ≤ b.length + 1
 | [], c, hi => by
  unfold cutR
  refine ⟨Nat.le_refl _, ?_⟩
  simp only
  split <;> simp
 | s :: b, c, hi => by
  have ih := cutR_len b (max c (s.2 + 1)) hi
  unfold cutR
  simp only [List.length_append, List.length_cons]
  constructor <;> split <;> simp <;> omega
def partIn (b a : List Rg) : List Rg := a.flatMap fun r => (cutR r.1 r.2 b).1
def partOut (b a : List Rg) : List Rg := a.flatMap fun r => (cutR r.1 r.2 b).2
theorem part_nm : ∀ (a b : List Rg) (k : Int), Nm 0 b → Nm k a → Nm k (partIn b a) ∧ Nm k (partOut b a)
 | [], b, k, _, _ => ⟨trivial, trivial⟩
 | r :: a, b, k, hb, ha => by
  have ih := part_nm a b (r.2 + 2) hb ha.2.2.2
  have h0 := ha.1
  have h1 := ha.2.1
  unfold partIn partOut at ih ⊢
  rw [List.flatMap_cons, List.flatMap_cons]
  exact ⟨(cutR_nm1 b 0 r.1 r.2 k hb (Or.inr h0) (by omega) ha.2.2.1).append ih.1, (cutR_nm2 b 0 r.1 r.2 k hb h0 (by omega) ha.2.2.1).append ih.2⟩
theorem part_holds (n : Int) (hn : 0 ≤ n ∧ n ≤ 200) : ∀ (a b : List Rg), Nm 0 b → holds (partIn b a) n = (holds a n && holds b n) ∧ holds (partOut b a) n = (holds a n && !holds b n)
 | [], b, _ => by
  unfold partIn partOut
  rw [List.flatMap_nil, List.flatMap_nil, holds_nil]
  exact ⟨rfl, rfl⟩
 | r :: a, b, hb => by
  have ih := part_holds n hn a b hb
  unfold partIn partOut at ih ⊢
  rw [List.flatMap_cons, List.flatMap_cons, holds_append, holds_append, ih.1, ih.2, cutR_in b 0 _ _ n hb, cutR_out b 0 _ _ n hb, holds_cons, decide_eq_true hn]
  cases decide (r.1 ≤ n ∧ n ≤ r.2) <;> cases holds a n <;> cases holds b n <;> exact ⟨rfl, rfl⟩
theorem part_is (a b : List Rg) : partIn (norm b) (norm a) = two 1 a b ∧ partOut (norm b) (norm a) = two 2 a b := by
 have hn := part_nm (norm a) (norm b) 0 (norm_nm b) (norm_nm a)
 refine ⟨two_is hn.1 (fun n h0 h1 => ?_), two_is hn.2 (fun n h0 h1 => ?_)⟩
 ·rw [(part_holds n ⟨h0, h1⟩ _ _ (norm_nm b)).1, norm_holds, norm_holds]; rfl
 ·rw [(part_holds n ⟨h0, h1⟩ _ _ (norm_nm b)).2, norm_holds, norm_holds]; rfl
theorem join_is (a b : List Rg) : norm (a ++ b) = two 0 a b := by
 refine two_is (norm_nm _) (fun n _ _ => ?_)
 rw [norm_holds, holds_append]; rfl
theorem part_len (b : List Rg) : ∀ (a : List Rg), (partIn b a).length ≤ a.length * b.length ∧ (partOut b a).length ≤ a.length * (b.length + 1)
 | [] => by simp [partIn, partOut]
 | r :: a => by
  have ih := part_len b a
  have h := cutR_len b r.1 r.2
  unfold partIn partOut at ih ⊢
  rw [List.flatMap_cons, List.flatMap_cons, List.length_append, List.length_append, List.length_cons, Nat.add_one_mul, Nat.add_one_mul]
  omega
theorem part_take {a b : List Rg} {n : Nat} {r : Rg} (h : a[n]? = some r) : partIn b (a.take (n + 1)) = partIn b (a.take n) ++ (cutR r.1 r.2 b).1 ∧ partOut b (a.take (n + 1)) = partOut b (a.take n) ++ (cutR r.1 r.2 b).2 := by
 obtain ⟨hl, he⟩ := List.getElem?_eq_some_iff.1 h
 unfold partIn partOut
 rw [List.take_succ_eq_append_getElem hl, he, List.flatMap_append, List.flatMap_append]
 simp
end Go.Proofs.YtpmolinmopgbdaaGreat.Sz
namespace Go.Proofs.YtpmolinmopgbdaaGreat
namespace Pth
theorem parentTo_spec (a : Tx) : ∀ n, n ≤ a.length → (parentTo a n = [] ∧ ∀ j, j < n → a[j]? ≠ some 47) ∨ ∃ i, i < n ∧ a[i]? = some 47 ∧ parentTo a n = a.take i ∧ ∀ j, i < j → j < n → a[j]? ≠ some 47
 | 0, _ => Or.inl ⟨rfl, fun j hj => absurd hj (by omega)⟩
 | n + 1, hn => by
  unfold parentTo
  by_cases h : a[n]? = some 47
  ·rw [if_pos h]
   exact Or.inr ⟨n, by omega, h, rfl, fun j h1 h2 => by omega⟩
  ·rw [if_neg h]
   rcases parentTo_spec a n (by omega) with ⟨h1, h2⟩ | ⟨i, h1, h2, h3, h4⟩
   ·refine Or.inl ⟨h1, fun j hj => ?_⟩
    by_cases e : j = n
    ·rw [e]; exact h
    ·exact h2 j (by omega)
   ·refine Or.inr ⟨i, by omega, h2, h3, fun j hj hj2 => ?_⟩
    by_cases e : j = n
    ·rw [e]; exact h
    ·exact h4 j hj (by omega)
theorem parent_covers (q : Tx) : Covers (parent q) q := by
 rcases parentTo_spec q q.length (Nat.le_refl _) with ⟨h1, _⟩ | ⟨i, h1, h2, h3, _⟩
 ·exact Or.inl h1
 ·refine Or.inr (Or.inr ?_)
  have e : parent q = q.take i := h3
  have l : (q.take i).length = i := by rw [List.length_take]; omega
  rw [e, l]
  exact ⟨h1, rfl, h2⟩
theorem parent_short {q : Tx} (h : q ≠ []) : (parent q).length < q.length := by
 have hl : 0 < q.length := List.length_pos_iff.2 h
 rcases parentTo_spec q q.length (Nat.le_refl _) with ⟨h1, _⟩ | ⟨i, h1, h2, h3, _⟩
 ·have e : parent q = [] := h1
  rw [e]; exact hl
 ·have e : parent q = q.take i := h3
  rw [e, List.length_take]; omega
theorem not_covers_parent {q : Tx} (h : q ≠ []) : ¬ Covers q (parent q) := fun k => by have := covers_len k; have := parent_short h; omega
theorem covers_parent {k q : Tx} (hq : q ≠ []) (hk : k ≠ q) : Covers k q ↔ Covers k (parent q) := by
 constructor
 ·rintro (h | h | ⟨l, t, s⟩)
  ·exact Or.inl h
  ·exact absurd h hk
  ·rcases parentTo_spec q q.length (Nat.le_refl _) with ⟨_, h1⟩ | ⟨i, h1, h2, h3, h4⟩
   ·exact absurd s (h1 _ l)
   ·have e : parent q = q.take i := h3
    have hi : k.length ≤ i := Nat.le_of_not_lt (fun hlt => h4 _ hlt l s)
    rw [e]
    by_cases hki : k.length = i
    ·rw [← hki, t]; exact covers_refl _
    ·refine Or.inr (Or.inr ⟨by rw [List.length_take]; omega, by rw [List.take_take, Nat.min_eq_left hi]; exact t, by rw [List.getElem?_take, if_pos (by omega)]; exact s⟩)
 ·intro h
  exact covers_trans h (parent_covers q)
theorem lt_append : ∀ (k r : Tx), r ≠ [] → k < k ++ r
 | [], [], h => absurd rfl h
 | [], x :: r, _ => List.nil_lt_cons _ _
 | x :: k, r, h => List.cons_lt_cons_iff.2 (Or.inr ⟨rfl, lt_append k r h⟩)
theorem covers_lt {k q : Tx} (h : Covers k q) (hk : k ≠ q) : k < q := by
 rcases h with h | h | ⟨l, t, s⟩
 ·subst h
  cases q with
  | nil => exact absurd rfl hk
  | cons x q => exact List.nil_lt_cons _ _
 ·exact absurd h hk
 ·have := lt_append k (q.drop k.length) (fun e => by have := congrArg List.length e; simp at this; omega)
  have e : k ++ q.drop k.length = q := by
   have := List.take_append_drop k.length q
   rw [t] at this
   exact this
  rwa [e] at this
end Pth
namespace Flt
theorem norm_of_same {a b : List Sz.Rg} (h : ∀ n, Sz.holds a n = Sz.holds b n) : Sz.norm a = Sz.norm b := by unfold Sz.norm; rw [Sz.of_same h]
theorem norm_empty : Sz.norm [] = [] := by decide +kernel
theorem two_same {k : Nat} {a b c d : List Sz.Rg} (h1 : ∀ n, Sz.holds a n = Sz.holds b n) (h2 : ∀ n, Sz.holds c n = Sz.holds d n) : Sz.two k a c = Sz.two k b d := by
 unfold Sz.two
 congr 1
 refine List.map_congr_left (fun i _ => ?_)
 rw [h1, h2]
def lev (P : List Cl) (q : Tx) : List Sz.Rg := Sz.norm (sizes P q)
theorem lev_len (P : List Cl) (q : Tx) : (lev P q).length ≤ 202 := Sz.norm_len _
theorem lev_bd (P : List Cl) (q : Tx) : ∀ r ∈ lev P q, 0 ≤ r.1 ∧ r.1 ≤ r.2 ∧ r.2 ≤ 200 := (Sz.norm_nm _).bd
theorem lev_holds (P : List Cl) (q : Tx) (n : Int) : Sz.holds (lev P q) n = Sz.holds (sizes P q) n := Sz.norm_holds _ _
theorem lev_nil (q : Tx) : lev [] q = [] := norm_empty
theorem sizes_more (P : List Cl) (c : Cl) (q : Tx) : sizes (P ++ [c]) q = sizes P q ++ if Pth.Covers c.pre q then [rg c] else [] := by
 unfold sizes
 rw [List.filter_append, List.map_append]
 congr 1
 by_cases h : Pth.Covers c.pre q <;> simp [h]
theorem lev_same {P : List Cl} {c : Cl} {q : Tx} (h : ¬ Pth.Covers c.pre q) : lev (P ++ [c]) q = lev P q := by
 unfold lev
 rw [sizes_more, if_neg h, List.append_nil]
theorem lev_put (P : List Cl) (c : Cl) : lev (P ++ [c]) c.pre = Sz.two 0 (lev P c.pre) [rg c] := by
 unfold lev
 rw [sizes_more, if_pos (Pth.covers_refl _), Sz.join_is]
 exact two_same (fun n => (Sz.norm_holds _ n).symm) (fun _ => rfl)
theorem lev_skip {P : List Cl} {c : Cl} (h : ∃ r ∈ lev P c.pre, r.1 ≤ c.lo ∧ c.hi ≤ r.2) : lev (P ++ [c]) c.pre = lev P c.pre := by
 obtain ⟨r, hr, h1, h2⟩ := h
 unfold lev
 rw [sizes_more, if_pos (Pth.covers_refl _)]
 refine norm_of_same (fun n => ?_)
 rw [Sz.holds_append]
 cases hx : Sz.holds [rg c] n
 ·simp
 ·obtain ⟨hn, x, hx1, hx2⟩ := holds_mem.1 hx
  rw [List.mem_singleton] at hx1
  subst hx1
  have : Sz.holds (lev P c.pre) n = true := holds_mem.2 ⟨hn, r, hr, by simp only [rg] at hx2; omega⟩
  rw [lev_holds] at this
  rw [this]; rfl
def Fits (P : List Cl) (dom : Tx → Prop) : Prop := (∀ q, dom q → ∃ c ∈ P, c.pre = q) ∧ ∀ q, ¬ dom q → (q = [] → lev P [] = []) ∧ (q ≠ [] → lev P q = lev P (Pth.parent q))
theorem Fits.iff {P : List Cl} {dom dom' : Tx → Prop} (h : Fits P dom) (he : ∀ q, dom' q ↔ dom q) : Fits P dom' := ⟨fun q hq => h.1 q ((he q).1 hq), fun q hq => h.2 q (fun k => hq ((he q).2 k))⟩
theorem fits_start : Fits [] (fun _ => False) := ⟨fun q h => h.elim, fun q _ => ⟨fun _ => lev_nil _, fun _ => by rw [lev_nil, lev_nil]⟩⟩
theorem fits_none {P : List Cl} {c : Cl} {q : Tx} (hd : (q = [] → lev P [] = []) ∧ (q ≠ [] → lev P q = lev P (Pth.parent q))) (hq : q ≠ c.pre) : (q = [] → lev (P ++ [c]) [] = []) ∧ (q ≠ [] → lev (P ++ [c]) q = lev (P ++ [c]) (Pth.parent q)) := by
 constructor
 ·intro e
  subst e
  rw [lev_same (fun h => hq (Pth.covers_anti (Pth.covers_nil _) h))]
  exact hd.1 rfl
 ·intro hne
  have hc := Pth.covers_parent hne (k := c.pre) (fun e => hq e.symm)
  by_cases h : Pth.Covers c.pre q
  ·have hp := hc.1 h
   unfold lev
   rw [sizes_more, sizes_more, if_pos h, if_pos hp]
   refine norm_of_same (fun n => ?_)
   rw [Sz.holds_append, Sz.holds_append, ← lev_holds P q, ← lev_holds P (Pth.parent q), hd.2 hne]
  ·rw [lev_same h, lev_same (fun k => h (hc.2 k))]
   exact hd.2 hne
theorem lev_known {P : List Cl} {c : Cl} {dom : Tx → Prop} (h : Fits P dom) (up : ∀ d ∈ P, ¬ c.pre < d.pre) {q : Tx} (hq : dom q) (hne : q ≠ c.pre) : lev (P ++ [c]) q = lev P q := by
 refine lev_same (fun hc => ?_)
 obtain ⟨d, hd, rfl⟩ := h.1 q hq
 exact up d hd (Pth.covers_lt hc (fun e => hne e.symm))
theorem fits_put {P : List Cl} {c : Cl} {dom : Tx → Prop} (h : Fits P dom) : Fits (P ++ [c]) (fun q => q = c.pre ∨ dom q) := by
 refine ⟨fun q hq => ?_, fun q hq => fits_none (h.2 q (fun k => hq (Or.inr k))) (fun e => hq (Or.inl e))⟩
 rcases hq with rfl | hq
 ·exact ⟨c, by simp, rfl⟩
 ·obtain ⟨d, hd, e⟩ := h.1 q hq
  exact ⟨d, List.mem_append.2 (Or.inl hd), e⟩
theorem fits_skip {P : List Cl} {c : Cl} {dom : Tx → Prop} (h : Fits P dom) (hc : ∃ r ∈ lev P c.pre, r.1 ≤ c.lo ∧ c.hi ≤ r.2) : Fits (P ++ [c]) dom := by
 refine ⟨fun q hq => ?_, fun q hq => ?_⟩
 ·obtain ⟨d, hd, e⟩ := h.1 q hq
  exact ⟨d, List.mem_append.2 (Or.inl hd), e⟩
 ·by_cases hqc : q = c.pre
  ·have hd := h.2 q hq
   constructor
   ·intro e
    have := lev_skip hc
    rw [← hqc, e] at this
    rw [this]; exact hd.1 e
   ·intro hne
    have h1 := lev_skip hc
    rw [← hqc] at h1
    rw [h1, lev_same (fun k => Pth.not_covers_parent hne (by rw [← hqc] at k; exact k))]
    exact hd.2 hne
  ·exact fits_none (h.2 q hq) hqc
theorem lev_perm {S f : List Cl} (h : S.Perm f) (q : Tx) : lev S q = lev f q := norm_of_same (fun n => Sz.holds_perm ((h.filter _).map _) n)
theorem piece_top (f : List Cl) : piece f [] = Sz.two 2 (lev f []) [] := by
 unfold piece
 refine two_same (fun n => (lev_holds f [] n).symm) (fun n => ?_)
 have : above f [] = [] := by
  unfold above
  rw [List.filter_eq_nil_iff]
  intro c _
  simp only [decide_eq_true_eq, not_and]
  intro h1 h2
  exact h1 (Pth.covers_anti h2 (Pth.covers_nil _))
 rw [this]
 rfl
theorem piece_under (f : List Cl) {p : Tx} (hp : p ≠ []) : piece f p = Sz.two 2 (lev f p) (lev f (Pth.parent p)) := by
 unfold piece
 refine two_same (fun n => (lev_holds f p n).symm) (fun n => ?_)
 rw [lev_holds, Bool.eq_iff_iff, sizes_holds, sizes_holds]
 refine and_congr_right (fun _ => ?_)
 constructor
 ·rintro ⟨c, hc, h1, h2⟩
  obtain ⟨hc1, hc2⟩ := List.mem_filter.1 hc
  have hc2 : c.pre ≠ p ∧ Pth.Covers c.pre p := by simpa using hc2
  exact ⟨c, hc1, (Pth.covers_parent hp hc2.1).1 h1, h2⟩
 ·rintro ⟨c, hc, h1, h2⟩
  have hne : c.pre ≠ p := fun e => Pth.not_covers_parent hp (by rw [e] at h1; exact h1)
  have hcp := (Pth.covers_parent hp hne).2 h1
  exact ⟨c, List.mem_filter.2 ⟨hc, by simp [hne, hcp]⟩, hcp, h2⟩
theorem compact_up {l : List Tx} (h : l.Pairwise (· ≤ ·)) : Up (Lib.compact l) := by
 have hle : ∀ i j, i ≤ j → j < l.length → l.toArray[i]! ≤ l.toArray[j]! := by
  intro i j hij hj
  rw [getElem!_pos l.toArray i (by simpa using Nat.lt_of_le_of_lt hij hj), getElem!_pos l.toArray j (by simpa using hj)]
  rcases Nat.eq_or_lt_of_le hij with e | e
  ·subst e; exact List.le_refl _
  ·exact List.pairwise_iff_getElem.1 h i j _ _ e
 unfold Up Lib.compact Lib.compactUpTo
 rw [List.pairwise_map]
 refine ((List.pairwise_lt_range).filter _).imp_of_mem ?_
 intro i j hi hj hij
 obtain ⟨hj1, hj2⟩ := List.mem_filter.1 hj
 have hjl := List.mem_range.1 hj1
 have hne : l.toArray[j]! ≠ l.toArray[j - 1]! := by
  rcases of_decide_eq_true hj2 with k | k
  ·omega
  ·exact k
 have h1 := hle i (j - 1) (by omega) (by omega)
 have h2 := hle (j - 1) j (by omega) hjl
 have h3 : l.toArray[j - 1]! < l.toArray[j]! := by
  rcases List.le_iff_lt_or_eq.1 h2 with k | k
  ·exact k
  ·exact absurd k.symm hne
 rcases List.le_iff_lt_or_eq.1 h1 with k | k
 ·exact List.lt_trans k h3
 ·rw [k]; exact h3
theorem compact_mem (l : List Tx) (x : Tx) : x ∈ Lib.compact l ↔ x ∈ l := by
 unfold Lib.compact Lib.compactUpTo
 rw [List.mem_map]
 constructor
 ·rintro ⟨j, hj, rfl⟩
  have hjl := List.mem_range.1 (List.mem_filter.1 hj).1
  rw [getElem!_pos l.toArray j (by simpa using hjl)]
  simp
 ·intro hx
  obtain ⟨j0, hj0, e0⟩ := List.getElem_of_mem hx
  -- the first place where it stands
  have : ∀ k, k < l.length → l.toArray[k]! = x → ∃ j, j < l.length ∧ l.toArray[j]! = x ∧ Lib.keeps l.toArray j = true := by
   intro k
   induction k with
   | zero => intro hk e; exact ⟨0, hk, e, by simp [Lib.keeps]⟩
   | succ k ih =>
    intro hk e
    by_cases hp : l.toArray[k]! = x
    ·exact ih (by omega) hp
    ·exact ⟨k + 1, hk, e, Lib.keeps_pos (by rw [e, Nat.add_sub_cancel]; exact fun h => hp h.symm)⟩
  obtain ⟨j, h1, h2, h3⟩ := this j0 hj0 (by rw [getElem!_pos l.toArray j0 (by simpa using hj0)]; simpa using e0)
  exact ⟨j, List.mem_filter.2 ⟨List.mem_range.2 h1, h3⟩, h2⟩
theorem prefixes_sorted (f : List Cl) : Lib.compact ((f.map (·.pre)).mergeSort fun x y => decide (x ≤ y)) = prefixes f := by
 have hs : ((f.map (·.pre)).mergeSort fun x y => decide (x ≤ y)).Pairwise (· ≤ ·) := by
  have := List.pairwise_mergeSort (le := fun x y : Tx => decide (x ≤ y)) (fun a b c h1 h2 => by simp only [decide_eq_true_eq] at *; exact List.le_trans h1 h2) (fun a b => by simp only [Bool.or_eq_true, decide_eq_true_eq]; exact List.le_total a b) (f.map (·.pre))
  exact this.imp (fun {a b} h => by simpa using h)
 refine up_same (compact_up hs) (prefixes_up f) (fun x => ?_)
 rw [compact_mem, (List.mergeSort_perm _ _).mem_iff, prefixes_mem, List.mem_map]
end Flt
end Go.Proofs.YtpmolinmopgbdaaGreat
namespace Go.Proofs.YtpmolinmopgbdaaGreat
open Go.RowKit
structure Kept (F : Nat → Prop) (w w' : World) : Prop where
 os : w'.os = w.os
 tape : w'.tape = w.tape
 output : w'.output = w.output
 size : w.heap.size ≤ w'.heap.size
 block : ∀ k, k < w.heap.size → ¬ F k → w'.heap[k]? = w.heap[k]?
def Grow (F : Nat → Prop) (w w' : World) (k : Nat) : Prop := F k ∨ (w.heap.size ≤ k ∧ k < w'.heap.size)
section
variable {F G : Nat → Prop} {a b c w w' : World}
theorem Kept.refl (F : Nat → Prop) (w : World) : Kept F w w := ⟨rfl, rfl, rfl, Nat.le_refl _, fun _ _ _ => rfl⟩
theorem Kept.trans (h : Kept F a b) (k : Kept G b c) (hG : ∀ i, i < a.heap.size → G i → F i) : Kept F a c :=
 ⟨k.os.trans h.os, k.tape.trans h.tape, k.output.trans h.output, Nat.le_trans h.size k.size, fun i hi hn => (k.block i (Nat.lt_of_lt_of_le hi h.size) (fun hg => hn (hG i hi hg))).trans (h.block i hi hn)⟩
theorem Kept.mono (h : Kept F a b) (hF : ∀ i, F i → G i) : Kept G a b := ⟨h.os, h.tape, h.output, h.size, fun i hi hn => h.block i hi (fun hf => hn (hF i hf))⟩
theorem Kept.ofBelow (h : Below a.heap.size a b) (F : Nat → Prop) : Kept F a b := ⟨h.os, h.tape, h.output, h.size, fun i hi _ => h.block i hi⟩
theorem Kept.ofGrown {r : Option Nat} (h : a.grownBy b r) (hr : ∀ i, r = some i → F i) : Kept F a b := ⟨h.os, h.tape, h.output, h.size, fun i hi hn => h.block i hi (fun e => hn (hr i e.symm))⟩
theorem Kept.grown {i : Nat} (h : Kept (fun k => k = i) a b) : a.grownBy b (some i) := ⟨h.os, h.tape, h.output, h.size, fun k hk hn => h.block k hk (fun e => hn (by rw [e]))⟩
theorem Kept.below (h : Kept F a b) {B : Nat} (hB : B ≤ a.heap.size) (hF : ∀ i, F i → B ≤ i) : Below B a b := ⟨h.os, h.tape, h.output, h.size, fun i hi => h.block i (by omega) (fun hf => by have := hF i hf; omega)⟩
theorem Kept.drew (h : Kept F a b) : Kept F a b.drew := ⟨h.os, h.tape, h.output, h.size, h.block⟩
theorem Kept.alloc (h : Kept F a b) (o : Obj) : Kept F a (b.alloc o) :=
 h.trans (G := F) ⟨rfl, rfl, rfl, by simp, fun i hi _ => Below.heap_alloc b o i hi⟩ (fun _ _ h => h)
theorem Kept.stored (h : Kept F a b) {p : Addr} (hp : F p.block ∨ a.heap.size ≤ p.block) (u : Value) : Kept F a (b.setCell p u) :=
 ⟨h.os, h.tape, h.output, by simpa [World.setCell] using h.size, fun i hi hn => by
  rcases hp with hp | hp
  ·exact (Below.heap_setCell b p u i (fun e => hn (by rw [e]; exact hp))).trans (h.block i hi hn)
  ·exact (Below.heap_setCell b p u i (by omega)).trans (h.block i hi hn)⟩
theorem Grow.old {k : Nat} (h : F k) : Grow F a b k := Or.inl h
theorem Grow.lt {k : Nat} (h : Grow F a b k) (hF : ∀ k, F k → k < a.heap.size) (hs : a.heap.size ≤ b.heap.size) : k < b.heap.size := by
 rcases h with h | h
 ·exact Nat.lt_of_lt_of_le (hF k h) hs
 ·exact h.2
theorem Grow.trans {k : Nat} (h : Grow (Grow F a b) b c k) (hab : a.heap.size ≤ b.heap.size) (hbc : b.heap.size ≤ c.heap.size) : Grow F a c k := by
 rcases h with (h | h) | h
 ·exact Or.inl h
 ·exact Or.inr ⟨h.1, by omega⟩
 ·exact Or.inr ⟨by omega, h.2⟩
theorem Grow.within {k : Nat} (h : Grow F a b k) (hbc : b.heap.size ≤ c.heap.size) : Grow F a c k := by
 rcases h with h | h
 ·exact Or.inl h
 ·exact Or.inr ⟨h.1, by omega⟩
theorem Kept.same (h : Kept F w w') {k : Nat} (hk : k < w.heap.size) (hn : ¬ F k) : w'.heap[k]? = w.heap[k]? := h.block k hk hn
theorem Kept.cell (h : Kept F w w') {p : Addr} (hk : p.block < w.heap.size) (hn : ¬ F p.block) : w'.cell? p = w.cell? p := World.cell?_of_block (w := w) (h.block p.block hk hn)
theorem Row.kept {t : TypeId} {i : Nat} {cs : Array Value} (hr : Row w i t cs) (h : Kept F w w') (hn : ¬ F i) : Row w' i t cs := (h.block i hr.inHeap hn).trans hr
end
def Cells (w : World) (F : Nat → Prop) (v : Value) (us : List Value) : Prop :=
 ∃ A cap, v = .slice A us.length cap ∧ us.length ≤ cap ∧ (0 < us.length → ∃ b o, A = some ⟨b, o, none⟩ ∧ F b ∧ b < w.heap.size ∧ ∀ i u, us[i]? = some u → w.cell? ⟨b, o + i, none⟩ = some u)
section
variable {F G : Nat → Prop} {w w' : World} {v : Value} {us : List Value}
theorem Cells.none (w : World) (F : Nat → Prop) : Cells w F (.slice none 0 0) [] := ⟨Option.none, 0, rfl, Nat.le_refl _, fun h => absurd h (by simp)⟩
theorem Cells.kept (h : Cells w F v us) (k : Kept G w w') (hd : ∀ i, F i → ¬ G i) : Cells w' F v us := by
 obtain ⟨A, cap, h1, h2, h3⟩ := h
 refine ⟨A, cap, h1, h2, fun hp => ?_⟩
 obtain ⟨b, o, e, hb, hl, hc⟩ := h3 hp
 exact ⟨b, o, e, hb, Nat.lt_of_lt_of_le hl k.size, fun i u hu => (k.cell (p := ⟨b, o + i, Option.none⟩) hl (hd b hb)).trans (hc i u hu)⟩
theorem Cells.mono (h : Cells w F v us) (hF : ∀ i, F i → G i) : Cells w G v us := by
 obtain ⟨A, cap, h1, h2, h3⟩ := h
 refine ⟨A, cap, h1, h2, fun hp => ?_⟩
 obtain ⟨b, o, e, hb, r⟩ := h3 hp
 exact ⟨b, o, e, hF b hb, r⟩
theorem Cells.ofOwn {base t n : Nat} (h : w.ownsRow base t 1 v n us) (hF : ∀ b, v.ownBlock = some b → base ≤ b → b < w.heap.size → F b) : Cells w F v us := by
 have hn : us.length = n := by rw [h.1, Nat.mul_one]
 subst hn
 rcases h.2 with ⟨hv, h0⟩ | ⟨g, cap, cur, hv, hb, hg, hc, hm, hs, ht⟩
 ·rw [hv]
  have : us = [] := List.eq_nil_of_length_eq_zero h0
  rw [this]
  exact Cells.none _ _
 ·refine ⟨some ⟨g, 0, Option.none⟩, cap, hv, hc, fun _ => ⟨g, 0, rfl, hF g (by rw [hv]; rfl) hb (lt_of_block hg), lt_of_block hg, fun i u hu => ?_⟩⟩
  rw [cell_of_row w g _ cur t (0, 0) hg, Nat.zero_add]
  rw [← ht, List.getElem?_take] at hu
  split at hu
  ·rw [Array.getElem?_toList] at hu; exact hu
  ·cases hu
end
end Go.Proofs.YtpmolinmopgbdaaGreat
