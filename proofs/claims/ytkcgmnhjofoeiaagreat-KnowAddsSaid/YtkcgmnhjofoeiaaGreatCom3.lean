import Derived.Test.YtkcgmnhjofoeiaaGreatCom1
import Derived.Test.YtkcgmnhjofoeiaaGreatCom2
import Derived.Lib.SlicesCompact
import Derived.Deep.AppendLies
import Derived.Laws.AppendOwn
import Derived.Lib.Hide
import Derived.OwnWalk
import Derived.Tactics
import Derived.Test.YtkcgmnhjofoeiaaGreatRows
import Derived.WalkKit
import Derived.ProofKit
import Derived.OpenShut
import Derived.ShutString
import Derived.SizedLaws
import Derived.Carry
import Derived.Lib.Strings
import Derived.Deep.QuietTactic
import Derived.BigQuiet
import Derived.Deep.RegionWith
import Derived.WalkSpells
set_option maxRecDepth 100000
set_option linter.all false
namespace Go.Proofs.YtkcgmnhjofoeiaaGreat
namespace Pth
theorem parentTo_spec (a : Tx) : ∀ n, n ≤ a.length → (parentTo a n = [] ∧ ∀ j, j < n → a[j]? ≠ some 47) ∨ ∃ i, i < n ∧ a[i]? = some 47 ∧ parentTo a n = a.take i ∧ ∀ j, i < j → j < n → a[j]? ≠ some 47
 | 0, _ => Or.inl ⟨rfl, fun j hj => absurd hj (by omega)⟩
 | n + 1, hn => by
  unfold parentTo
  by_cases h : a[n]? = some 47
  ·rw [if_pos h]
   exact Or.inr ⟨n, by omega, h, rfl, fun j h1 h2 => by omega⟩
  ·rw [if_neg h]
   rcases parentTo_spec a n (by omega) with ⟨h1, h2⟩ | ⟨i, h1, h2, h3, h4⟩
   ·refine Or.inl ⟨h1, fun j hj => ?_⟩
    by_cases e : j = n
    ·rw [e]; exact h
    ·exact h2 j (by omega)
   ·refine Or.inr ⟨i, by omega, h2, h3, fun j hj hj2 => ?_⟩
    by_cases e : j = n
    ·rw [e]; exact h
    ·exact h4 j hj (by omega)
theorem parent_covers (q : Tx) : Covers (parent q) q := by
 rcases parentTo_spec q q.length (Nat.le_refl _) with ⟨h1, _⟩ | ⟨i, h1, h2, h3, _⟩
 ·exact Or.inl h1
 ·refine Or.inr (Or.inr ?_)
  have e : parent q = q.take i := h3
  have l : (q.take i).length = i := by rw [List.length_take]; omega
  rw [e, l]
  exact ⟨h1, rfl, h2⟩
theorem parent_short {q : Tx} (h : q ≠ []) : (parent q).length < q.length := by
 have hl : 0 < q.length := List.length_pos_iff.2 h
 rcases parentTo_spec q q.length (Nat.le_refl _) with ⟨h1, _⟩ | ⟨i, h1, h2, h3, _⟩
 ·have e : parent q = [] := h1
  rw [e]; exact hl
 ·have e : parent q = q.take i := h3
  rw [e, List.length_take]; omega
theorem not_covers_parent {q : Tx} (h : q ≠ []) : ¬ Covers q (parent q) := fun k => by have := covers_len k; have := parent_short h; omega
theorem covers_parent {k q : Tx} (hq : q ≠ []) (hk : k ≠ q) : Covers k q ↔ Covers k (parent q) := by
 constructor
 ·rintro (h | h | ⟨l, t, s⟩)
  ·exact Or.inl h
  ·exact absurd h hk
  ·rcases parentTo_spec q q.length (Nat.le_refl _) with ⟨_, h1⟩ | ⟨i, h1, h2, h3, h4⟩
   ·exact absurd s (h1 _ l)
   ·have e : parent q = q.take i := h3
    have hi : k.length ≤ i := Nat.le_of_not_lt (fun hlt => h4 _ hlt l s)
    rw [e]
    by_cases hki : k.length = i
    ·rw [← hki, t]; exact covers_refl _
    ·refine Or.inr (Or.inr ⟨by rw [List.length_take]; omega, by rw [List.take_take, Nat.min_eq_left hi]; exact t, by rw [List.getElem?_take, if_pos (by omega)]; exact s⟩)
 ·intro h
  exact covers_trans h (parent_covers q)
theorem lt_append : ∀ (k r : Tx), r ≠ [] → k < k ++ r
 | [], [], h => absurd rfl h
 | [], x :: r, _ => List.nil_lt_cons _ _
 | x :: k, r, h => List.cons_lt_cons_iff.2 (Or.inr ⟨rfl, lt_append k r h⟩)
theorem covers_lt {k q : Tx} (h : Covers k q) (hk : k ≠ q) : k < q := by
 rcases h with h | h | ⟨l, t, s⟩
 ·subst h
  cases q with
  | nil => exact absurd rfl hk
  | cons x q => exact List.nil_lt_cons _ _
 ·exact absurd h hk
 ·have := lt_append k (q.drop k.length) (fun e => by have := congrArg List.length e; simp at this; omega)
  have e : k ++ q.drop k.length = q := by
   have := List.take_append_drop k.length q
   rw [t] at this
   exact this
  rwa [e] at this
end Pth
namespace Flt
theorem norm_of_same {a b : List Sz.Rg} (h : ∀ n, Sz.holds a n = Sz.holds b n) : Sz.norm a = Sz.norm b := by unfold Sz.norm; rw [Sz.of_same h]
theorem norm_empty : Sz.norm [] = [] := by decide +kernel
theorem two_same {k : Nat} {a b c d : List Sz.Rg} (h1 : ∀ n, Sz.holds a n = Sz.holds b n) (h2 : ∀ n, Sz.holds c n = Sz.holds d n) : Sz.two k a c = Sz.two k b d := by
 unfold Sz.two
 congr 1
 refine List.map_congr_left (fun i _ => ?_)
 rw [h1, h2]
def lev (P : List Cl) (q : Tx) : List Sz.Rg := Sz.norm (sizes P q)
theorem lev_len (P : List Cl) (q : Tx) : (lev P q).length ≤ 202 := Sz.norm_len _
theorem lev_bd (P : List Cl) (q : Tx) : ∀ r ∈ lev P q, 0 ≤ r.1 ∧ r.1 ≤ r.2 ∧ r.2 ≤ 200 := (Sz.norm_nm _).bd
theorem lev_holds (P : List Cl) (q : Tx) (n : Int) : Sz.holds (lev P q) n = Sz.holds (sizes P q) n := Sz.norm_holds _ _
theorem lev_nil (q : Tx) : lev [] q = [] := norm_empty
theorem sizes_more (P : List Cl) (c : Cl) (q : Tx) : sizes (P ++ [c]) q = sizes P q ++ if Pth.Covers c.pre q then [rg c] else [] := by
 unfold sizes
 rw [List.filter_append, List.map_append]
 congr 1
 by_cases h : Pth.Covers c.pre q <;> simp [h]
theorem lev_same {P : List Cl} {c : Cl} {q : Tx} (h : ¬ Pth.Covers c.pre q) : lev (P ++ [c]) q = lev P q := by
 unfold lev
 rw [sizes_more, if_neg h, List.append_nil]
theorem lev_put (P : List Cl) (c : Cl) : lev (P ++ [c]) c.pre = Sz.two 0 (lev P c.pre) [rg c] := by
 unfold lev
 rw [sizes_more, if_pos (Pth.covers_refl _), Sz.join_is]
 exact two_same (fun n => (Sz.norm_holds _ n).symm) (fun _ => rfl)
theorem lev_skip {P : List Cl} {c : Cl} (h : ∃ r ∈ lev P c.pre, r.1 ≤ c.lo ∧ c.hi ≤ r.2) : lev (P ++ [c]) c.pre = lev P c.pre := by
 obtain ⟨r, hr, h1, h2⟩ := h
 unfold lev
 rw [sizes_more, if_pos (Pth.covers_refl _)]
 refine norm_of_same (fun n => ?_)
 rw [Sz.holds_append]
 cases hx : Sz.holds [rg c] n
 ·simp
 ·obtain ⟨hn, x, hx1, hx2⟩ := holds_mem.1 hx
  rw [List.mem_singleton] at hx1
  subst hx1
  have : Sz.holds (lev P c.pre) n = true := holds_mem.2 ⟨hn, r, hr, by simp only [rg] at hx2; omega⟩
  rw [lev_holds] at this
  rw [this]; rfl
def Fits (P : List Cl) (dom : Tx → Prop) : Prop := (∀ q, dom q → ∃ c ∈ P, c.pre = q) ∧ ∀ q, ¬ dom q → (q = [] → lev P [] = []) ∧ (q ≠ [] → lev P q = lev P (Pth.parent q))
theorem Fits.iff {P : List Cl} {dom dom' : Tx → Prop} (h : Fits P dom) (he : ∀ q, dom' q ↔ dom q) : Fits P dom' := ⟨fun q hq => h.1 q ((he q).1 hq), fun q hq => h.2 q (fun k => hq ((he q).2 k))⟩
theorem fits_start : Fits [] (fun _ => False) := ⟨fun q h => h.elim, fun q _ => ⟨fun _ => lev_nil _, fun _ => by rw [lev_nil, lev_nil]⟩⟩
theorem fits_none {P : List Cl} {c : Cl} {q : Tx} (hd : (q = [] → lev P [] = []) ∧ (q ≠ [] → lev P q = lev P (Pth.parent q))) (hq : q ≠ c.pre) : (q = [] → lev (P ++ [c]) [] = []) ∧ (q ≠ [] → lev (P ++ [c]) q = lev (P ++ [c]) (Pth.parent q)) := by
 constructor
 ·intro e
  subst e
  rw [lev_same (fun h => hq (Pth.covers_anti (Pth.covers_nil _) h))]
  exact hd.1 rfl
 ·intro hne
  have hc := Pth.covers_parent hne (k := c.pre) (fun e => hq e.symm)
  by_cases h : Pth.Covers c.pre q
  ·have hp := hc.1 h
   unfold lev
   rw [sizes_more, sizes_more, if_pos h, if_pos hp]
   refine norm_of_same (fun n => ?_)
   rw [Sz.holds_append, Sz.holds_append, ← lev_holds P q, ← lev_holds P (Pth.parent q), hd.2 hne]
  ·rw [lev_same h, lev_same (fun k => h (hc.2 k))]
   exact hd.2 hne
theorem lev_known {P : List Cl} {c : Cl} {dom : Tx → Prop} (h : Fits P dom) (up : ∀ d ∈ P, ¬ c.pre < d.pre) {q : Tx} (hq : dom q) (hne : q ≠ c.pre) : lev (P ++ [c]) q = lev P q := by
 refine lev_same (fun hc => ?_)
 obtain ⟨d, hd, rfl⟩ := h.1 q hq
 exact up d hd (Pth.covers_lt hc (fun e => hne e.symm))
theorem fits_put {P : List Cl} {c : Cl} {dom : Tx → Prop} (h : Fits P dom) : Fits (P ++ [c]) (fun q => q = c.pre ∨ dom q) := by
 refine ⟨fun q hq => ?_, fun q hq => fits_none (h.2 q (fun k => hq (Or.inr k))) (fun e => hq (Or.inl e))⟩
 rcases hq with rfl | hq
 ·exact ⟨c, by simp, rfl⟩
 ·obtain ⟨d, hd, e⟩ := h.1 q hq
  exact ⟨d, List.mem_append.2 (Or.inl hd), e⟩
theorem fits_skip {P : List Cl} {c : Cl} {dom : Tx → Prop} (h : Fits P dom) (hc : ∃ r ∈ lev P c.pre, r.1 ≤ c.lo ∧ c.hi ≤ r.2) : Fits (P ++ [c]) dom := by
 refine ⟨fun q hq => ?_, fun q hq => ?_⟩
 ·obtain ⟨d, hd, e⟩ := h.1 q hq
  exact ⟨d, List.mem_append.2 (Or.inl hd), e⟩
 ·by_cases hqc : q = c.pre
  ·have hd := h.2 q hq
   constructor
   ·intro e
    have := lev_skip hc
    rw [← hqc, e] at this
    rw [this]; exact hd.1 e
   ·intro hne
    have h1 := lev_skip hc
    rw [← hqc] at h1
    rw [h1, lev_same (fun k => Pth.not_covers_parent hne (by rw [← hqc] at k; exact k))]
    exact hd.2 hne
  ·exact fits_none (h.2 q hq) hqc
theorem lev_perm {S f : List Cl} (h : S.Perm f) (q : Tx) : lev S q = lev f q := norm_of_same (fun n => Sz.holds_perm ((h.filter _).map _) n)
theorem piece_top (f : List Cl) : piece f [] = Sz.two 2 (lev f []) [] := by
 unfold piece
 refine two_same (fun n => (lev_holds f [] n).symm) (fun n => ?_)
 have : above f [] = [] := by
  unfold above
  rw [List.filter_eq_nil_iff]
  intro c _
  simp only [decide_eq_true_eq, not_and]
  intro h1 h2
  exact h1 (Pth.covers_anti h2 (Pth.covers_nil _))
 rw [this]
 rfl
theorem piece_under (f : List Cl) {p : Tx} (hp : p ≠ []) : piece f p = Sz.two 2 (lev f p) (lev f (Pth.parent p)) := by
 unfold piece
 refine two_same (fun n => (lev_holds f p n).symm) (fun n => ?_)
 rw [lev_holds, Bool.eq_iff_iff, sizes_holds, sizes_holds]
 refine and_congr_right (fun _ => ?_)
 constructor
 ·rintro ⟨c, hc, h1, h2⟩
  obtain ⟨hc1, hc2⟩ := List.mem_filter.1 hc
  have hc2 : c.pre ≠ p ∧ Pth.Covers c.pre p := by simpa using hc2
  exact ⟨c, hc1, (Pth.covers_parent hp hc2.1).1 h1, h2⟩
 ·rintro ⟨c, hc, h1, h2⟩
  have hne : c.pre ≠ p := fun e => Pth.not_covers_parent hp (by rw [e] at h1; exact h1)
  have hcp := (Pth.covers_parent hp hne).2 h1
  exact ⟨c, List.mem_filter.2 ⟨hc, by simp [hne, hcp]⟩, hcp, h2⟩
theorem compact_up {l : List Tx} (h : l.Pairwise (· ≤ ·)) : Up (Lib.compact l) := by
 have hle : ∀ i j, i ≤ j → j < l.length → l.toArray[i]! ≤ l.toArray[j]! := by
  intro i j hij hj
  rw [getElem!_pos l.toArray i (by simpa using Nat.lt_of_le_of_lt hij hj), getElem!_pos l.toArray j (by simpa using hj)]
  rcases Nat.eq_or_lt_of_le hij with e | e
  ·subst e; exact List.le_refl _
  ·exact List.pairwise_iff_getElem.1 h i j _ _ e
 unfold Up Lib.compact Lib.compactUpTo
 rw [List.pairwise_map]
 refine ((List.pairwise_lt_range).filter _).imp_of_mem ?_
 intro i j hi hj hij
 obtain ⟨hj1, hj2⟩ := List.mem_filter.1 hj
 have hjl := List.mem_range.1 hj1
 have hne : l.toArray[j]! ≠ l.toArray[j - 1]! := by
  rcases of_decide_eq_true hj2 with k | k
  ·omega
  ·exact k
 have h1 := hle i (j - 1) (by omega) (by omega)
 have h2 := hle (j - 1) j (by omega) hjl
 have h3 : l.toArray[j - 1]! < l.toArray[j]! := by
  rcases List.le_iff_lt_or_eq.1 h2 with k | k
  ·exact k
  ·exact absurd k.symm hne
 rcases List.le_iff_lt_or_eq.1 h1 with k | k
 ·exact List.lt_trans k h3
 ·rw [k]; exact h3
theorem compact_mem (l : List Tx) (x : Tx) : x ∈ Lib.compact l ↔ x ∈ l := by
 unfold Lib.compact Lib.compactUpTo
 rw [List.mem_map]
 constructor
 ·rintro ⟨j, hj, rfl⟩
  have hjl := List.mem_range.1 (List.mem_filter.1 hj).1
  rw [getElem!_pos l.toArray j (by simpa using hjl)]
  simp
 ·intro hx
  obtain ⟨j0, hj0, e0⟩ := List.getElem_of_mem hx
  -- the first place where it stands
  have : ∀ k, k < l.length → l.toArray[k]! = x → ∃ j, j < l.length ∧ l.toArray[j]! = x ∧ Lib.keeps l.toArray j = true := by
   intro k
   induction k with
   | zero => intro hk e; exact ⟨0, hk, e, by simp [Lib.keeps]⟩
   | succ k ih =>
    intro hk e
    by_cases hp : l.toArray[k]! = x
    ·exact ih (by omega) hp
    ·exact ⟨k + 1, hk, e, Lib.keeps_pos (by rw [e, Nat.add_sub_cancel]; exact fun h => hp h.symm)⟩
  obtain ⟨j, h1, h2, h3⟩ := this j0 hj0 (by rw [getElem!_pos l.toArray j0 (by simpa using hj0)]; simpa using e0)
  exact ⟨j, List.mem_filter.2 ⟨List.mem_range.2 h1, h3⟩, h2⟩
theorem prefixes_sorted (f : List Cl) : Lib.compact ((f.map (·.pre)).mergeSort fun x y => decide (x ≤ y)) = prefixes f := by
 have hs : ((f.map (·.pre)).mergeSort fun x y => decide (x ≤ y)).Pairwise (· ≤ ·) := by
  have := List.pairwise_mergeSort (le := fun x y : Tx => decide (x ≤ y)) (fun a b c h1 h2 => by simp only [decide_eq_true_eq] at *; exact List.le_trans h1 h2) (fun a b => by simp only [Bool.or_eq_true, decide_eq_true_eq]; exact List.le_total a b) (f.map (·.pre))
  exact this.imp (fun {a b} h => by simpa using h)
 refine up_same (compact_up hs) (prefixes_up f) (fun x => ?_)
 rw [compact_mem, (List.mergeSort_perm _ _).mem_iff, prefixes_mem, List.mem_map]
end Flt
open Go.RowKit
structure Kept (F : Nat → Prop) (w w' : World) : Prop where
 os : w'.os = w.os
 tape : w'.tape = w.tape
 output : w'.output = w.output
 size : w.heap.size ≤ w'.heap.size
 block : ∀ k, k < w.heap.size → ¬ F k → w'.heap[k]? = w.heap[k]?
def Grow (F : Nat → Prop) (w w' : World) (k : Nat) : Prop := F k ∨ (w.heap.size ≤ k ∧ k < w'.heap.size)
section
variable {F G : Nat → Prop} {a b c w w' : World}
theorem Kept.refl (F : Nat → Prop) (w : World) : Kept F w w := ⟨rfl, rfl, rfl, Nat.le_refl _, fun _ _ _ => rfl⟩
theorem Kept.trans (h : Kept F a b) (k : Kept G b c) (hG : ∀ i, i < a.heap.size → G i → F i) : Kept F a c :=
 ⟨k.os.trans h.os, k.tape.trans h.tape, k.output.trans h.output, Nat.le_trans h.size k.size, fun i hi hn => (k.block i (Nat.lt_of_lt_of_le hi h.size) (fun hg => hn (hG i hi hg))).trans (h.block i hi hn)⟩
theorem Kept.mono (h : Kept F a b) (hF : ∀ i, F i → G i) : Kept G a b := ⟨h.os, h.tape, h.output, h.size, fun i hi hn => h.block i hi (fun hf => hn (hF i hf))⟩
theorem Kept.ofBelow (h : Below a.heap.size a b) (F : Nat → Prop) : Kept F a b := ⟨h.os, h.tape, h.output, h.size, fun i hi _ => h.block i hi⟩
theorem Kept.ofGrown {r : Option Nat} (h : a.grownBy b r) (hr : ∀ i, r = some i → F i) : Kept F a b := ⟨h.os, h.tape, h.output, h.size, fun i hi hn => h.block i hi (fun e => hn (hr i e.symm))⟩
theorem Kept.grown {i : Nat} (h : Kept (fun k => k = i) a b) : a.grownBy b (some i) := ⟨h.os, h.tape, h.output, h.size, fun k hk hn => h.block k hk (fun e => hn (by rw [e]))⟩
theorem Kept.below (h : Kept F a b) {B : Nat} (hB : B ≤ a.heap.size) (hF : ∀ i, F i → B ≤ i) : Below B a b := ⟨h.os, h.tape, h.output, h.size, fun i hi => h.block i (by omega) (fun hf => by have := hF i hf; omega)⟩
theorem Kept.drew (h : Kept F a b) : Kept F a b.drew := ⟨h.os, h.tape, h.output, h.size, h.block⟩
theorem Kept.alloc (h : Kept F a b) (o : Obj) : Kept F a (b.alloc o) :=
 h.trans (G := F) ⟨rfl, rfl, rfl, by simp, fun i hi _ => Below.heap_alloc b o i hi⟩ (fun _ _ h => h)
theorem Kept.stored (h : Kept F a b) {p : Addr} (hp : F p.block ∨ a.heap.size ≤ p.block) (u : Value) : Kept F a (b.setCell p u) :=
 ⟨h.os, h.tape, h.output, by simpa [World.setCell] using h.size, fun i hi hn => by
  rcases hp with hp | hp
  ·exact (Below.heap_setCell b p u i (fun e => hn (by rw [e]; exact hp))).trans (h.block i hi hn)
  ·exact (Below.heap_setCell b p u i (by omega)).trans (h.block i hi hn)⟩
theorem Grow.old {k : Nat} (h : F k) : Grow F a b k := Or.inl h
theorem Grow.lt {k : Nat} (h : Grow F a b k) (hF : ∀ k, F k → k < a.heap.size) (hs : a.heap.size ≤ b.heap.size) : k < b.heap.size := by
 rcases h with h | h
 ·exact Nat.lt_of_lt_of_le (hF k h) hs
 ·exact h.2
theorem Grow.trans {k : Nat} (h : Grow (Grow F a b) b c k) (hab : a.heap.size ≤ b.heap.size) (hbc : b.heap.size ≤ c.heap.size) : Grow F a c k := by
 rcases h with (h | h) | h
 ·exact Or.inl h
 ·exact Or.inr ⟨h.1, by omega⟩
 ·exact Or.inr ⟨by omega, h.2⟩
theorem Grow.within {k : Nat} (h : Grow F a b k) (hbc : b.heap.size ≤ c.heap.size) : Grow F a c k := by
 rcases h with h | h
 ·exact Or.inl h
 ·exact Or.inr ⟨h.1, by omega⟩
theorem Kept.same (h : Kept F w w') {k : Nat} (hk : k < w.heap.size) (hn : ¬ F k) : w'.heap[k]? = w.heap[k]? := h.block k hk hn
theorem Kept.cell (h : Kept F w w') {p : Addr} (hk : p.block < w.heap.size) (hn : ¬ F p.block) : w'.cell? p = w.cell? p := World.cell?_of_block (w := w) (h.block p.block hk hn)
theorem Row.kept {t : TypeId} {i : Nat} {cs : Array Value} (hr : Row w i t cs) (h : Kept F w w') (hn : ¬ F i) : Row w' i t cs := (h.block i hr.inHeap hn).trans hr
end
def Cells (w : World) (F : Nat → Prop) (v : Value) (us : List Value) : Prop :=
 ∃ A cap, v = .slice A us.length cap ∧ us.length ≤ cap ∧ (0 < us.length → ∃ b o, A = some ⟨b, o, none⟩ ∧ F b ∧ b < w.heap.size ∧ ∀ i u, us[i]? = some u → w.cell? ⟨b, o + i, none⟩ = some u)
section
variable {F G : Nat → Prop} {w w' : World} {v : Value} {us : List Value}
theorem Cells.none (w : World) (F : Nat → Prop) : Cells w F (.slice none 0 0) [] := ⟨Option.none, 0, rfl, Nat.le_refl _, fun h => absurd h (by simp)⟩
theorem Cells.kept (h : Cells w F v us) (k : Kept G w w') (hd : ∀ i, F i → ¬ G i) : Cells w' F v us := by
 obtain ⟨A, cap, h1, h2, h3⟩ := h
 refine ⟨A, cap, h1, h2, fun hp => ?_⟩
 obtain ⟨b, o, e, hb, hl, hc⟩ := h3 hp
 exact ⟨b, o, e, hb, Nat.lt_of_lt_of_le hl k.size, fun i u hu => (k.cell (p := ⟨b, o + i, Option.none⟩) hl (hd b hb)).trans (hc i u hu)⟩
theorem Cells.mono (h : Cells w F v us) (hF : ∀ i, F i → G i) : Cells w G v us := by
 obtain ⟨A, cap, h1, h2, h3⟩ := h
 refine ⟨A, cap, h1, h2, fun hp => ?_⟩
 obtain ⟨b, o, e, hb, r⟩ := h3 hp
 exact ⟨b, o, e, hF b hb, r⟩
theorem Cells.ofOwn {base t n : Nat} (h : w.ownsRow base t 1 v n us) (hF : ∀ b, v.ownBlock = some b → base ≤ b → b < w.heap.size → F b) : Cells w F v us := by
 have hn : us.length = n := by rw [h.1, Nat.mul_one]
 subst hn
 rcases h.2 with ⟨hv, h0⟩ | ⟨g, cap, cur, hv, hb, hg, hc, hm, hs, ht⟩
 ·rw [hv]
  have : us = [] := List.eq_nil_of_length_eq_zero h0
  rw [this]
  exact Cells.none _ _
 ·refine ⟨some ⟨g, 0, Option.none⟩, cap, hv, hc, fun _ => ⟨g, 0, rfl, hF g (by rw [hv]; rfl) hb (lt_of_block hg), lt_of_block hg, fun i u hu => ?_⟩⟩
  rw [cell_of_row w g _ cur t (0, 0) hg, Nat.zero_add]
  rw [← ht, List.getElem?_take] at hu
  split at hu
  ·rw [Array.getElem?_toList] at hu; exact hu
  ·cases hu
end
open Go.RowKit
def Rws {α : Type} (k : Nat) (f : α → List Value) (w : World) (F : Nat → Prop) (v : Value) (l : List α) : Prop :=
 ∃ A cap, v = .slice A l.length cap ∧ l.length ≤ cap ∧ (0 < l.length → ∃ b o, A = some ⟨b, o, none⟩ ∧ F b ∧ b < w.heap.size ∧ ∀ i x, l[i]? = some x → ∀ j u, (f x)[j]? = some u → w.cell? ⟨b, o + i * k + j, none⟩ = some u)
section
variable {α : Type} {k : Nat} {f : α → List Value} {w w' : World} {F G : Nat → Prop} {v : Value} {l : List α}
theorem Rws.none (w : World) (F : Nat → Prop) (c : Nat) : Rws k f w F (.slice none 0 c) [] := ⟨Option.none, c, rfl, Nat.zero_le _, fun h => absurd h (by simp)⟩
theorem Rws.empty (w : World) (F : Nat → Prop) (A : Option Addr) (c : Nat) : Rws k f w F (.slice A 0 c) [] := ⟨A, c, rfl, Nat.zero_le _, fun h => absurd h (by simp)⟩
theorem Rws.kept (h : Rws k f w F v l) (hk : Kept G w w') (hd : ∀ i, F i → ¬ G i) : Rws k f w' F v l := by
 obtain ⟨A, cap, h1, h2, h3⟩ := h
 refine ⟨A, cap, h1, h2, fun hp => ?_⟩
 obtain ⟨b, o, e, hb, hl, hc⟩ := h3 hp
 exact ⟨b, o, e, hb, Nat.lt_of_lt_of_le hl hk.size, fun i x hx j u hu => (hk.cell (p := ⟨b, _, Option.none⟩) hl (hd b hb)).trans (hc i x hx j u hu)⟩
theorem Rws.below (h : Rws k f w F v l) (hk : Below w.heap.size w w') : Rws k f w' F v l := h.kept (Kept.ofBelow hk (fun _ => False)) (fun _ _ h => h)
theorem Rws.mono (h : Rws k f w F v l) (hF : ∀ i, F i → G i) : Rws k f w G v l := by
 obtain ⟨A, cap, h1, h2, h3⟩ := h
 refine ⟨A, cap, h1, h2, fun hp => ?_⟩
 obtain ⟨b, o, e, hb, r⟩ := h3 hp
 exact ⟨b, o, e, hF b hb, r⟩
theorem Rws.lt (h : Rws k f w F v l) : Rws k f w (fun i => F i ∧ i < w.heap.size) v l := by
 obtain ⟨A, cap, h1, h2, h3⟩ := h
 refine ⟨A, cap, h1, h2, fun hp => ?_⟩
 obtain ⟨b, o, e, hb, r⟩ := h3 hp
 exact ⟨b, o, e, ⟨hb, r.1⟩, r⟩
theorem rows_at : ∀ (l : List α), (∀ x ∈ l, (f x).length = k) → ∀ (i : Nat) (x : α), l[i]? = some x → ∀ (j : Nat) (u : Value), (f x)[j]? = some u → (l.flatMap f)[i * k + j]? = some u
 | [], _, i, x, hx, _, _, _ => by cases hx
 | y :: l, hk, 0, x, hx, j, u, hu => by
  simp at hx
  subst hx
  rw [List.flatMap_cons, Nat.zero_mul, Nat.zero_add, List.getElem?_append_left (by obtain ⟨h, _⟩ := List.getElem?_eq_some_iff.1 hu; exact h)]
  exact hu
 | y :: l, hk, i + 1, x, hx, j, u, hu => by
  have hy := hk y (by simp)
  rw [List.flatMap_cons, List.getElem?_append_right (by rw [hy, Nat.add_one_mul]; omega), hy]
  have e : (i + 1) * k + j - k = i * k + j := by rw [Nat.add_one_mul]; omega
  rw [e]
  exact rows_at l (fun z hz => hk z (List.mem_cons_of_mem _ hz)) i x (by simpa using hx) j u hu
theorem rows_of : ∀ (l : List α), (∀ x ∈ l, (f x).length = k) → ∀ (m : Nat) (u : Value), (l.flatMap f)[m]? = some u → ∃ i x j, l[i]? = some x ∧ (f x)[j]? = some u ∧ m = i * k + j
 | [], _, m, u, h => by simp at h
 | y :: l, hk, m, u, h => by
  have hy := hk y (by simp)
  rw [List.flatMap_cons] at h
  by_cases hm : m < k
  ·rw [List.getElem?_append_left (by omega)] at h
   exact ⟨0, y, m, rfl, h, by omega⟩
  ·rw [List.getElem?_append_right (by omega), hy] at h
   obtain ⟨i, x, j, h1, h2, h3⟩ := rows_of l (fun z hz => hk z (List.mem_cons_of_mem _ hz)) _ u h
   exact ⟨i + 1, x, j, by simpa using h1, h2, by rw [Nat.add_one_mul]; omega⟩
theorem rows_len : ∀ (l : List α), (∀ x ∈ l, (f x).length = k) → (l.flatMap f).length = l.length * k
 | [], _ => by simp
 | y :: l, hk => by
  rw [List.flatMap_cons, List.length_append, rows_len l (fun z hz => hk z (List.mem_cons_of_mem _ hz)), hk y (by simp), List.length_cons, Nat.add_one_mul]
  omega
theorem Rws.ofOwn {base t n : Nat} (h : w.ownsRow base t k v n (l.flatMap f)) (hl : l.length = n) (hk : ∀ x ∈ l, (f x).length = k) (hF : ∀ b, v.ownBlock = some b → base ≤ b → b < w.heap.size → F b) : Rws k f w F v l := by
 subst hl
 rcases h.2 with ⟨hv, h0⟩ | ⟨g, cap, cur, hv, hb, hg, hc, hm, hs, ht⟩
 ·rw [hv]
  have : l = [] := List.eq_nil_of_length_eq_zero h0
  rw [this]
  exact Rws.none _ _ _
 ·refine ⟨some ⟨g, 0, Option.none⟩, cap, hv, hc, fun _ => ⟨g, 0, rfl, hF g (by rw [hv]; rfl) hb (lt_of_block hg), lt_of_block hg, fun i x hx j u hu => ?_⟩⟩
  have hr := rows_at l hk i x hx j u hu
  rw [cell_of_row w g _ cur t (0, 0) hg, Nat.zero_add]
  rw [← ht, List.getElem?_take] at hr
  split at hr
  ·rw [Array.getElem?_toList] at hr; exact hr
  ·cases hr
theorem Rws.take (h : Rws k f w F v l) {A : Option Addr} {cap : Nat} (hv : v = .slice A l.length cap) (i : Nat) (hi : i ≤ l.length) (c : Nat) (hc : i ≤ c) : Rws k f w F (.slice A i c) (l.take i) := by
 obtain ⟨B, cap', h1, h2, h3⟩ := h
 rw [h1] at hv
 injection hv with e1 e2 e3
 subst e1
 have hl : (l.take i).length = i := by rw [List.length_take]; omega
 refine ⟨B, c, by rw [hl], by rw [hl]; exact hc, fun hp => ?_⟩
 rw [hl] at hp
 obtain ⟨b, o, e, hb, hlt, hcl⟩ := h3 (by omega)
 exact ⟨b, o, e, hb, hlt, fun m x hx => hcl m x (by rw [List.getElem?_take] at hx; split at hx; exact hx; cases hx)⟩
theorem Rws.drop (h : Rws k f w F v l) {b o cap : Nat} (hv : v = .slice (some ⟨b, o, Option.none⟩) l.length cap) (i : Nat) (hi : i ≤ l.length) (c : Nat) (hc : l.length - i ≤ c) : Rws k f w F (.slice (some ⟨b, o + i * k, Option.none⟩) (l.length - i) c) (l.drop i) := by
 obtain ⟨B, cap', h1, h2, h3⟩ := h
 rw [h1] at hv
 injection hv with e1 e2 e3
 subst e1
 have hl : (l.drop i).length = l.length - i := List.length_drop
 refine ⟨_, c, by rw [hl], by rw [hl]; exact hc, fun hp => ?_⟩
 rw [hl] at hp
 obtain ⟨b', o', e, hb, hlt, hcl⟩ := h3 (by omega)
 injection e with e
 injection e with e1 e2
 subst e1 e2
 refine ⟨b, o + i * k, rfl, hb, hlt, fun m x hx j u hu => ?_⟩
 rw [List.getElem?_drop] at hx
 have := hcl (i + m) x hx j u hu
 rw [show o + (i + m) * k + j = o + i * k + m * k + j by rw [Nat.add_mul]; omega] at this
 exact this
end
section
variable {P : Program} {α : Type} {k : Nat} {f : α → List Value}
theorem join_nothing {w : World} (base : Nat) (t ty e : TypeId) (i : TypeInfo) (size c : Nat) (ht : P.underlying t = some (.slice e)) (hi : P.info? e = some i) (v : Value) (n : Nat) (xs : List Value) (hown : w.ownsRow base e size v n xs) :
  (Builtin.append_ #[t, t] ty #[v, .slice none 0 c]).run P w = .ok v w := by
 rcases hown.2 with ⟨rfl, rfl⟩ | ⟨g, cap, cur, rfl, _, _, hnc, _⟩
 ·simp [Builtin.append_, run_underlying ht, sizeOf, typeInfo, hi, Builtin.lenOf, Builtin.firstCells]
 ·simp [Builtin.append_, run_underlying ht, sizeOf, typeInfo, hi, Builtin.lenOf, Builtin.firstCells, hnc, storeCells]
theorem join_rows {w : World} (base : Nat) (t ty e : TypeId) (i : TypeInfo) (z : Value) (bytes : Nat) (ht : P.underlying t = some (.slice e)) (hi : P.info? e = some i) (hz : i.zero = some z) (hsize : i.size = k) (hby : i.bytes = bytes) (hzs : z.cells.size = k) (hsz : 0 < k)
  {v xv : Value} {n : Nat} {xs : List Value} {F : Nat → Prop} {l : List α} (hown : w.ownsRow base e k v n xs) (hx : Rws k f w F xv l) (hk : ∀ x ∈ l, (f x).length = k) (h1 : ∀ x ∈ l, ∀ u ∈ f x, u.oneCell' = true)
  (h63 : n + l.length ≤ maxLen) (hbytes : (n + l.length) * bytes ≤ 140737488355328) (hbase : base ≤ w.heap.size) :
  ∃ v' w', (Builtin.append_ #[t, t] ty #[v, xv]).run P w = .ok v' w' ∧ w'.ownsRow base e k v' (n + l.length) (xs ++ l.flatMap f) ∧ w.grownBy w' v.ownBlock := by
 obtain ⟨A, c, rfl, hc, hat⟩ := hx
 have hone : ∀ u ∈ l.flatMap f, u.oneCell' = true := by
  intro u hu
  obtain ⟨x, hx, hu⟩ := List.mem_flatMap.1 hu
  exact h1 x hx u hu
 have hgo : ∀ ad : Addr, A = some ad → (∀ j u, (l.flatMap f)[j]? = some u → w.cell? (ad.add j) = some u) → ∃ v' w', (Builtin.append_ #[t, t] ty #[v, .slice A l.length c]).run P w = .ok v' w' ∧ w'.ownsRow base e k v' (n + l.length) (xs ++ l.flatMap f) ∧ w.grownBy w' v.ownBlock := by
  rintro ad rfl hnews
  obtain ⟨v', w', r1, r2, r3, -⟩ := run_append_own w base t ty e i z k bytes ht hi hz hsize hby hzs hsz v n xs hown ad l.length c (l.flatMap f) (rows_len l hk) hnews hone h63 hbytes hbase
  exact ⟨v', w', r1, r2, r3⟩
 by_cases h0 : 0 < l.length
 ·obtain ⟨b, o, rfl, -, hbl, hcell⟩ := hat h0
  refine hgo _ rfl (fun j u hu => ?_)
  obtain ⟨m, x, r, e1, e2, rfl⟩ := rows_of l hk j u hu
  rw [Go.WideShapes.add_plain, ← Nat.add_assoc]
  exact hcell m x e1 r u e2
 ·have hl : l = [] := List.eq_nil_of_length_eq_zero (by omega)
  subst hl
  cases A with
  | none => exact ⟨v, w, join_nothing base t ty e i k c ht hi v n xs hown, by simpa using hown, rfl, rfl, rfl, Nat.le_refl _, fun _ _ _ => rfl⟩
  | some ad => exact hgo ad rfl (fun j u hu => by simp at hu)
end
open Go.ChangeShapes Go.WideShapes Go.ChangeAt Go.RowKit
theorem own : ownKnob Tryz.prog.godebug = none := by kernel_rfl
theorem laidOut : laidOutB Tryz.prog = true := by kernel_rfl
section
variable {H : Type} {enc : TypeId × Value → H}
theorem args_stay {W W' : World} (hb : Below W.heap.size W W') : ∀ (ts : List TypeId) (vs : List Value) (ds : List (DataW H)) (ps : List MemPlace),
  (∀ t ∈ ts, Tryz.prog.readableRec t = true ∧ t < Tryz.prog.types.size) → (∀ p ∈ ps, p.block < W.heap.size) →
  DataW.TrodAll enc Tryz.prog W 0 (fun _ => true) true ts vs ds ps → DataW.TrodAll enc Tryz.prog W' 0 (fun b => decide (b < W.heap.size)) true ts vs ds ps
 | [], vs, ds, ps, _, _, h => by
  obtain ⟨rfl, rfl, rfl⟩ := trodAll_nil h
  exact trodAll_mk0
 | t :: ts, vs, ds, ps, ht, hp, h => by
  obtain ⟨v, vs', d, ds', p, q, rfl, rfl, rfl, h1, h2⟩ := trodAll_cons h
  obtain ⟨r1, r2⟩ := ht t (by simp)
  exact trodAll_cons_mk (Below.trod laidOut r1 r2 h1 hb (fun x hx => hp x (by simp [hx]))) (args_stay hb ts vs' ds' q (fun u hu => ht u (by simp [hu])) (fun x hx => hp x (by simp [hx])) h2)
theorem law_done {f : Func} {s : ChangeSpec} {W W' : World} {args : Array Value} {ds gs : List (DataW H)} {before : List MemPlace} (hres : f.resultTypes = #[4]) (hv : s.vars = [])
  (hW : DataW.Whole enc Tryz.prog f.params.toList s.vars false W args.toList ds gs before) (hfn : s.fn H (ds ++ gs) = { results := [.lit (.bool true)], args := ds })
  (hr : ∀ t ∈ f.params.toList, Tryz.prog.readableRec t = true ∧ t < Tryz.prog.types.size) (hb : Below W.heap.size W W') :
  s.post enc Tryz.prog f false true false false W args (.bool true) W' := by
 have hlt : ∀ p ∈ before, p.block < W.heap.size := fun p hp => hW.lt p hp
 have hW0 := hW
 obtain ⟨p, q, hA, hV, hpq, _, _⟩ := hW
 rw [hv] at hV
 obtain ⟨rfl, rfl⟩ := trodVars_none hV
 rw [List.append_nil] at hpq
 subst hpq
 refine ⟨ds, [], before, [], before, [], hW0, ?_, ?_, ?_, hb.frame _, fun h => by cases h⟩
 ·rw [hfn, hres]
  exact trodAll_mk1 (shut_bool Tryz.underlying4 true)
 ·rw [hfn]
  exact args_stay hb _ _ _ _ hr hlt hA
 ·rw [hfn, hv]
  rfl
end
open Go.RowKit
theorem bytes_ext {a b : ByteArray} (h : a.data.toList = b.data.toList) : a = b := ByteArray.ext (Array.toList_inj.1 h)
open Go.RowKit
def mk (l : List UInt8) : ByteArray := ⟨l.toArray⟩
theorem mk_data (l : List UInt8) : (mk l).data.toList = l := rfl
theorem mk_len (l : List UInt8) : (mk l).size = l.length := by rw [Lib.size_eq]; rfl
theorem mk_of (s : ByteArray) : mk s.data.toList = s := bytes_ext rfl
def texts (l : List (List UInt8)) : List Value := l.map fun t => Value.string (mk t)
theorem texts_len (l : List (List UInt8)) : (texts l).length = l.length := List.length_map _
theorem texts_at {l : List (List UInt8)} {i : Nat} {t : List UInt8} (h : l[i]? = some t) : (texts l)[i]? = some (.string (mk t)) := by
 unfold texts
 rw [List.getElem?_map, h]; rfl
def NewIn (w w' : World) (k : Nat) : Prop := w.heap.size ≤ k ∧ k < w'.heap.size
open Go.RowKit
def rgV (r : Sz.Rg) : List Value := [.int .i64 r.1, .int .i64 r.2]
abbrev Rgs (w : World) (F : Nat → Prop) (v : Value) (l : List Sz.Rg) : Prop := Rws 2 rgV w F v l
def Bd (r : Sz.Rg) : Prop := -9223372036854775808 ≤ r.1 ∧ r.1 ≤ 9223372036854775807 ∧ -9223372036854775808 ≤ r.2 ∧ r.2 ≤ 9223372036854775807
theorem rg_len (r : Sz.Rg) : (rgV r).length = 2 := rfl
theorem rg_one (r : Sz.Rg) : ∀ u ∈ rgV r, u.oneCell' = true := by
 intro u hu
 unfold rgV at hu
 simp only [List.mem_cons, List.not_mem_nil, or_false] at hu
 rcases hu with rfl | rfl <;> rfl
structure SizesOk : Prop where
 norm : ∀ {w : World} {F : Nat → Prop} {v : Value} {l : List Sz.Rg}, Rgs w F v l → l.length ≤ 100000 → (∀ r ∈ l, Bd r) → Calls Tryz.prog 128 #[v] w fun e w' => ∃ v', e = .returned v' ∧ Rgs w' (NewIn w w') v' (Sz.norm l) ∧ Below w.heap.size w w'
 join : ∀ {w : World} {F G : Nat → Prop} {u v : Value} {a b : List Sz.Rg}, Rgs w F u a → Rgs w G v b → a.length ≤ 100000 → b.length ≤ 100000 → (∀ r ∈ a, Bd r) → (∀ r ∈ b, Bd r) → Calls Tryz.prog 121 #[u, v] w fun e w' => ∃ v', e = .returned v' ∧ Rgs w' (NewIn w w') v' (Sz.two 0 a b) ∧ Below w.heap.size w w'
 meet : ∀ {w : World} {F G : Nat → Prop} {u v : Value} {a b : List Sz.Rg}, Rgs w F u a → Rgs w G v b → a.length ≤ 100000 → b.length ≤ 100000 → (∀ r ∈ a, Bd r) → (∀ r ∈ b, Bd r) → Calls Tryz.prog 82 #[u, v] w fun e w' => ∃ v', e = .returned v' ∧ Rgs w' (NewIn w w') v' (Sz.two 1 a b) ∧ Below w.heap.size w w'
 minus : ∀ {w : World} {F G : Nat → Prop} {u v : Value} {a b : List Sz.Rg}, Rgs w F u a → Rgs w G v b → a.length ≤ 100000 → b.length ≤ 100000 → (∀ r ∈ a, Bd r) → (∀ r ∈ b, Bd r) → Calls Tryz.prog 92 #[u, v] w fun e w' => ∃ v', e = .returned v' ∧ Rgs w' (NewIn w w') v' (Sz.two 2 a b) ∧ Below w.heap.size w w'
theorem Rgs.at {w : World} {F : Nat → Prop} {b o : Nat} {n cap : Nat} {l : List Sz.Rg} (h : Rgs w F (.slice (some ⟨b, o, none⟩) n cap) l) {i : Nat} {x : Sz.Rg} (hx : l[i]? = some x) :
  w.cell? ⟨b, o + i * 2, none⟩ = some (.int .i64 x.1) ∧ w.cell? ⟨b, o + i * 2 + 1, none⟩ = some (.int .i64 x.2) := by
 obtain ⟨A, c, e, -, hat⟩ := h
 injection e with e1 e2 e3
 obtain ⟨b', o', e, -, -, hc⟩ := hat (by obtain ⟨hl, _⟩ := List.getElem?_eq_some_iff.1 hx; omega)
 rw [e] at e1
 injection e1 with e1
 injection e1 with e1 e2
 subst e1 e2
 exact ⟨hc i x hx 0 _ rfl, hc i x hx 1 _ rfl⟩
theorem Rgs.slice {w : World} {F : Nat → Prop} {v : Value} {l : List Sz.Rg} (h : Rgs w F v l) : ∃ A cap, v = .slice A l.length cap ∧ l.length ≤ cap := by
 obtain ⟨A, c, e, hc, hat⟩ := h
 exact ⟨A, c, e, hc⟩
theorem Rgs.shape {w : World} {F : Nat → Prop} {v : Value} {l : List Sz.Rg} (h : Rgs w F v l) (h0 : 0 < l.length) : ∃ b o cap, v = .slice (some ⟨b, o, Option.none⟩) l.length cap ∧ l.length ≤ cap ∧ F b ∧ b < w.heap.size := by
 obtain ⟨A, c, e, hc, hat⟩ := h
 obtain ⟨b, o, rfl, hb, hl, -⟩ := hat h0
 exact ⟨b, o, c, e, hc, hb, hl⟩
theorem norm_bd (l : List Sz.Rg) : (∀ r ∈ Sz.norm l, Bd r) ∧ (Sz.norm l).length ≤ 202 := by
 refine ⟨fun r hr => ?_, ?_⟩
 ·have := Sz.formR_bd (Sz.of l) 0 none (by rw [Sz.of_len]; omega) (fun lo h => by cases h) r hr
  unfold Bd; omega
 ·have := Sz.formR_len (Sz.of l) 0 none
  rw [Sz.of_len] at this
  exact this
theorem two_bd (k : Nat) (a b : List Sz.Rg) : (∀ r ∈ Sz.two k a b, Bd r) ∧ (Sz.two k a b).length ≤ 202 := by
 refine ⟨fun r hr => ?_, ?_⟩
 ·have := Sz.formR_bd _ 0 none (by simp) (fun lo h => by cases h) r hr
  unfold Bd; omega
 ·have := Sz.formR_len ((List.range 201).map fun (i : Nat) => Sz.pick k (Sz.holds a (i : Int)) (Sz.holds b (i : Int))) 0 none
  rw [List.length_map, List.length_range] at this
  exact this
open Go.RowKit
section
variable {α : Type} {t k : Nat} {f : α → List Value} {w wr w1 w2 : World} {out : List α} {v v' : Value}
theorem row_below {base t size n : Nat} {v : Value} {xs : List Value} (h : w.ownsRow base t size v n xs) (k : Below w.heap.size w w1) : w1.ownsRow base t size v n xs :=
 h.kept (Kept.ofBelow k (fun i => i = w.heap.size)).grown (Or.inr (fun e => by have := (h.lt _ e).2; omega))
def RowsOwn (t k : Nat) (f : α → List Value) (w : World) (out : List α) (v : Value) (wr : World) : Prop := wr.ownsRow w.heap.size t k v out.length (out.flatMap f) ∧ Below w.heap.size w wr
theorem RowsOwn.start (t k : Nat) (f : α → List Value) (w : World) : RowsOwn t k f w [] (.slice none 0 0) w := ⟨World.ownsRow_nil _ _ _ _, Below.refl _ _⟩
theorem RowsOwn.first (h : Below w.heap.size w wr) : RowsOwn t k f w [] (.slice none 0 0) wr := ⟨World.ownsRow_nil _ _ _ _, h⟩
theorem RowsOwn.below (h : RowsOwn t k f w out v w1) (hb : Below w1.heap.size w1 w2) : RowsOwn t k f w out v w2 := ⟨row_below h.1 hb, h.2.trans (hb.mono h.2.size)⟩
theorem row_lower {a b t size n : Nat} {v : Value} {xs : List Value} (h : w.ownsRow b t size v n xs) (hab : a ≤ b) : w.ownsRow a t size v n xs := by
 refine ⟨h.1, ?_⟩
 rcases h.2 with h2 | ⟨g, cap, cur, hv, hb, r⟩
 ·exact Or.inl h2
 ·exact Or.inr ⟨g, cap, cur, hv, Nat.le_trans hab hb, r⟩
theorem RowsOwn.since (h : RowsOwn t k f w1 out v w2) (hb : Below w.heap.size w w1) : RowsOwn t k f w out v w2 := ⟨row_lower h.1 hb.size, hb.trans (h.2.mono hb.size)⟩
theorem RowsOwn.more {x : α} {o : Obj} (h : RowsOwn t k f w out v wr) (hown : w2.ownsRow w.heap.size t k v' (out.length + 1) (out.flatMap f ++ f x)) (hg : (wr.alloc o).grownBy w2 v.ownBlock) : RowsOwn t k f w (out ++ [x]) v' w2 := by
 obtain ⟨h1, h2⟩ := h
 refine ⟨?_, (h2.alloc h2.size o).grown hg (by have := h2.size; simp; omega) (fun k hk => (h1.lt k hk).1)⟩
 rw [List.length_append, List.flatMap_append]
 simpa using hown
theorem RowsOwn.rows (h : RowsOwn t k f w out v wr) (hk : ∀ x ∈ out, (f x).length = k) : Rws k f wr (NewIn w wr) v out := Rws.ofOwn h.1 rfl hk (fun _ _ h1 h2 => ⟨h1, h2⟩)
theorem Rws.block {F : Nat → Prop} {v : Value} {l : List α} (h : Rws k f w F v l) (h0 : 0 < l.length) : ∃ b o cap, v = .slice (some ⟨b, o, Option.none⟩) l.length cap ∧ l.length ≤ cap ∧ F b ∧ b < w.heap.size := by
 obtain ⟨A, c, e, hc, hat⟩ := h
 obtain ⟨b, o, rfl, hb, hl, -⟩ := hat h0
 exact ⟨b, o, c, e, hc, hb, hl⟩
theorem Rws.parts {F : Nat → Prop} {v : Value} {l : List α} (h : Rws k f w F v l) : ∃ A cap, v = .slice A l.length cap ∧ l.length ≤ cap := by
 obtain ⟨A, c, e, hc, hat⟩ := h
 exact ⟨A, c, e, hc⟩
end
section
variable {α : Type} {t k : Nat} {f : α → List Value} {w wr w2 : World} {l m : List α} {v v' : Value} {o : Obj}
theorem RowsOwn.front (hg : (wr.alloc o).grownBy w2 (Value.slice (some ⟨wr.heap.size, 0, none⟩) 0 0).ownBlock) (hown : w2.ownsRow wr.heap.size t k v (0 + l.length) ([] ++ l.flatMap f)) : RowsOwn t k f wr l v w2 := by
 refine ⟨by simpa using hown, ((Below.refl wr.heap.size wr).alloc (Nat.le_refl _) o).grown hg (by simp) (fun k hk => ?_)⟩
 have : wr.heap.size = k := by simpa [Value.ownBlock] using hk
 omega
theorem RowsOwn.rest (h : RowsOwn t k f w l v wr) (hg : wr.grownBy w2 v.ownBlock) (hown : w2.ownsRow w.heap.size t k v' (l.length + m.length) (l.flatMap f ++ m.flatMap f)) : RowsOwn t k f w (l ++ m) v' w2 :=
 ⟨by rw [List.length_append, List.flatMap_append]; exact hown, h.2.grown hg h.2.size (fun k hk => (h.1.lt k hk).1)⟩
end
end Go.Proofs.YtkcgmnhjofoeiaaGreat
