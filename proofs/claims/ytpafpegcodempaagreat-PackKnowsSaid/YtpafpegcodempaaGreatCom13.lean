import Derived.Test.YtpafpegcodempaaGreatCom6
import Derived.Test.YtpafpegcodempaaGreatCom9
import Derived.Test.YtpafpegcodempaaGreatCom12
import Derived.Test.YtpafpegcodempaaGreatCom3
import Derived.Test.YtpafpegcodempaaGreatCom4
import Derived.Test.YtpafpegcodempaaGreatCom11
import Derived.Test.YtpafpegcodempaaGreatCom7
import Derived.Test.YtpafpegcodempaaGreatCom8
import Derived.Lib.SlicesCompact
set_option maxRecDepth 100000
set_option linter.all false
namespace Go.Proofs.YtpafpegcodempaaGreat
namespace Pth
theorem parentTo_spec (a : Tx) : ∀ n, n ≤ a.length → (parentTo a n = [] ∧ ∀ j, j < n → a[j]? ≠ some 47) ∨ ∃ i, i < n ∧ a[i]? = some 47 ∧ parentTo a n = a.take i ∧ ∀ j, i < j → j < n → a[j]? ≠ some 47
 | 0, _ => Or.inl ⟨rfl, fun j hj => absurd hj (by omega)⟩
 | n + 1, hn => by
  unfold parentTo
  by_cases h : a[n]? = some 47
  ·rw [if_pos h]
   exact Or.inr ⟨n, by omega, h, rfl, fun j h1 h2 => by omega⟩
  ·rw [if_neg h]
   rcases parentTo_spec a n (by omega) with ⟨h1, h2⟩ | ⟨i, h1, h2, h3, h4⟩
   ·refine Or.inl ⟨h1, fun j hj => ?_⟩
    by_cases e : j = n
    ·rw [e]; exact h
    ·exact h2 j (by omega)
   ·refine Or.inr ⟨i, by omega, h2, h3, fun j hj hj2 => ?_⟩
    by_cases e : j = n
    ·rw [e]; exact h
    ·exact h4 j hj (by omega)
theorem parent_covers (q : Tx) : Covers (parent q) q := by
 rcases parentTo_spec q q.length (Nat.le_refl _) with ⟨h1, _⟩ | ⟨i, h1, h2, h3, _⟩
 ·exact Or.inl h1
 ·refine Or.inr (Or.inr ?_)
  have e : parent q = q.take i := h3
  have l : (q.take i).length = i := by rw [List.length_take]; omega
  rw [e, l]
  exact ⟨h1, rfl, h2⟩
theorem parent_short {q : Tx} (h : q ≠ []) : (parent q).length < q.length := by
 have hl : 0 < q.length := List.length_pos_iff.2 h
 rcases parentTo_spec q q.length (Nat.le_refl _) with ⟨h1, _⟩ | ⟨i, h1, h2, h3, _⟩
 ·have e : parent q = [] := h1
  rw [e]; exact hl
 ·have e : parent q = q.take i := h3
  rw [e, List.length_take]; omega
theorem not_covers_parent {q : Tx} (h : q ≠ []) : ¬ Covers q (parent q) := fun k => by have := covers_len k; have := parent_short h; omega
theorem covers_parent {k q : Tx} (hq : q ≠ []) (hk : k ≠ q) : Covers k q ↔ Covers k (parent q) := by
 constructor
 ·rintro (h | h | ⟨l, t, s⟩)
  ·exact Or.inl h
  ·exact absurd h hk
  ·rcases parentTo_spec q q.length (Nat.le_refl _) with ⟨_, h1⟩ | ⟨i, h1, h2, h3, h4⟩
   ·exact absurd s (h1 _ l)
   ·have e : parent q = q.take i := h3
    have hi : k.length ≤ i := Nat.le_of_not_lt (fun hlt => h4 _ hlt l s)
    rw [e]
    by_cases hki : k.length = i
    ·rw [← hki, t]; exact covers_refl _
    ·refine Or.inr (Or.inr ⟨by rw [List.length_take]; omega, by rw [List.take_take, Nat.min_eq_left hi]; exact t, by rw [List.getElem?_take, if_pos (by omega)]; exact s⟩)
 ·intro h
  exact covers_trans h (parent_covers q)
theorem lt_append : ∀ (k r : Tx), r ≠ [] → k < k ++ r
 | [], [], h => absurd rfl h
 | [], x :: r, _ => List.nil_lt_cons _ _
 | x :: k, r, h => List.cons_lt_cons_iff.2 (Or.inr ⟨rfl, lt_append k r h⟩)
theorem covers_lt {k q : Tx} (h : Covers k q) (hk : k ≠ q) : k < q := by
 rcases h with h | h | ⟨l, t, s⟩
 ·subst h
  cases q with
  | nil => exact absurd rfl hk
  | cons x q => exact List.nil_lt_cons _ _
 ·exact absurd h hk
 ·have := lt_append k (q.drop k.length) (fun e => by have := congrArg List.length e; simp at this; omega)
  have e : k ++ q.drop k.length = q := by
   have := List.take_append_drop k.length q
   rw [t] at this
   exact this
  rwa [e] at this
end Pth
namespace Flt
theorem norm_of_same {a b : List Sz.Rg} (h : ∀ n, Sz.holds a n = Sz.holds b n) : Sz.norm a = Sz.norm b := by unfold Sz.norm; rw [Sz.of_same h]
theorem norm_empty : Sz.norm [] = [] := by decide +kernel
theorem two_same {k : Nat} {a b c d : List Sz.Rg} (h1 : ∀ n, Sz.holds a n = Sz.holds b n) (h2 : ∀ n, Sz.holds c n = Sz.holds d n) : Sz.two k a c = Sz.two k b d := by
 unfold Sz.two
 congr 1
 refine List.map_congr_left (fun i _ => ?_)
 rw [h1, h2]
def lev (P : List Cl) (q : Tx) : List Sz.Rg := Sz.norm (sizes P q)
theorem lev_len (P : List Cl) (q : Tx) : (lev P q).length ≤ 202 := Sz.norm_len _
theorem lev_bd (P : List Cl) (q : Tx) : ∀ r ∈ lev P q, 0 ≤ r.1 ∧ r.1 ≤ r.2 ∧ r.2 ≤ 200 := (Sz.norm_nm _).bd
theorem lev_holds (P : List Cl) (q : Tx) (n : Int) : Sz.holds (lev P q) n = Sz.holds (sizes P q) n := Sz.norm_holds _ _
theorem lev_nil (q : Tx) : lev [] q = [] := norm_empty
theorem sizes_more (P : List Cl) (c : Cl) (q : Tx) : sizes (P ++ [c]) q = sizes P q ++ if Pth.Covers c.pre q then [rg c] else [] := by
 unfold sizes
 rw [List.filter_append, List.map_append]
 congr 1
 by_cases h : Pth.Covers c.pre q <;> simp [h]
theorem lev_same {P : List Cl} {c : Cl} {q : Tx} (h : ¬ Pth.Covers c.pre q) : lev (P ++ [c]) q = lev P q := by
 unfold lev
 rw [sizes_more, if_neg h, List.append_nil]
theorem lev_put (P : List Cl) (c : Cl) : lev (P ++ [c]) c.pre = Sz.two 0 (lev P c.pre) [rg c] := by
 unfold lev
 rw [sizes_more, if_pos (Pth.covers_refl _), Sz.join_is]
 exact two_same (fun n => (Sz.norm_holds _ n).symm) (fun _ => rfl)
theorem lev_skip {P : List Cl} {c : Cl} (h : ∃ r ∈ lev P c.pre, r.1 ≤ c.lo ∧ c.hi ≤ r.2) : lev (P ++ [c]) c.pre = lev P c.pre := by
 obtain ⟨r, hr, h1, h2⟩ := h
 unfold lev
 rw [sizes_more, if_pos (Pth.covers_refl _)]
 refine norm_of_same (fun n => ?_)
 rw [Sz.holds_append]
 cases hx : Sz.holds [rg c] n
 ·simp
 ·obtain ⟨hn, x, hx1, hx2⟩ := holds_mem.1 hx
  rw [List.mem_singleton] at hx1
  subst hx1
  have : Sz.holds (lev P c.pre) n = true := holds_mem.2 ⟨hn, r, hr, by simp only [rg] at hx2; omega⟩
  rw [lev_holds] at this
  rw [this]; rfl
def Fits (P : List Cl) (dom : Tx → Prop) : Prop := (∀ q, dom q → ∃ c ∈ P, c.pre = q) ∧ ∀ q, ¬ dom q → (q = [] → lev P [] = []) ∧ (q ≠ [] → lev P q = lev P (Pth.parent q))
theorem Fits.iff {P : List Cl} {dom dom' : Tx → Prop} (h : Fits P dom) (he : ∀ q, dom' q ↔ dom q) : Fits P dom' := ⟨fun q hq => h.1 q ((he q).1 hq), fun q hq => h.2 q (fun k => hq ((he q).2 k))⟩
theorem fits_start : Fits [] (fun _ => False) := ⟨fun q h => h.elim, fun q _ => ⟨fun _ => lev_nil _, fun _ => by rw [lev_nil, lev_nil]⟩⟩
theorem fits_none {P : List Cl} {c : Cl} {q : Tx} (hd : (q = [] → lev P [] = []) ∧ (q ≠ [] → lev P q = lev P (Pth.parent q))) (hq : q ≠ c.pre) : (q = [] → lev (P ++ [c]) [] = []) ∧ (q ≠ [] → lev (P ++ [c]) q = lev (P ++ [c]) (Pth.parent q)) := by
 constructor
 ·intro e
  subst e
  rw [lev_same (fun h => hq (Pth.covers_anti (Pth.covers_nil _) h))]
  exact hd.1 rfl
 ·intro hne
  have hc := Pth.covers_parent hne (k := c.pre) (fun e => hq e.symm)
  by_cases h : Pth.Covers c.pre q
  ·have hp := hc.1 h
   unfold lev
   rw [sizes_more, sizes_more, if_pos h, if_pos hp]
   refine norm_of_same (fun n => ?_)
   rw [Sz.holds_append, Sz.holds_append, ← lev_holds P q, ← lev_holds P (Pth.parent q), hd.2 hne]
  ·rw [lev_same h, lev_same (fun k => h (hc.2 k))]
   exact hd.2 hne
theorem lev_known {P : List Cl} {c : Cl} {dom : Tx → Prop} (h : Fits P dom) (up : ∀ d ∈ P, ¬ c.pre < d.pre) {q : Tx} (hq : dom q) (hne : q ≠ c.pre) : lev (P ++ [c]) q = lev P q := by
 refine lev_same (fun hc => ?_)
 obtain ⟨d, hd, rfl⟩ := h.1 q hq
 exact up d hd (Pth.covers_lt hc (fun e => hne e.symm))
theorem fits_put {P : List Cl} {c : Cl} {dom : Tx → Prop} (h : Fits P dom) : Fits (P ++ [c]) (fun q => q = c.pre ∨ dom q) := by
 refine ⟨fun q hq => ?_, fun q hq => fits_none (h.2 q (fun k => hq (Or.inr k))) (fun e => hq (Or.inl e))⟩
 rcases hq with rfl | hq
 ·exact ⟨c, by simp, rfl⟩
 ·obtain ⟨d, hd, e⟩ := h.1 q hq
  exact ⟨d, List.mem_append.2 (Or.inl hd), e⟩
theorem fits_skip {P : List Cl} {c : Cl} {dom : Tx → Prop} (h : Fits P dom) (hc : ∃ r ∈ lev P c.pre, r.1 ≤ c.lo ∧ c.hi ≤ r.2) : Fits (P ++ [c]) dom := by
 refine ⟨fun q hq => ?_, fun q hq => ?_⟩
 ·obtain ⟨d, hd, e⟩ := h.1 q hq
  exact ⟨d, List.mem_append.2 (Or.inl hd), e⟩
 ·by_cases hqc : q = c.pre
  ·have hd := h.2 q hq
   constructor
   ·intro e
    have := lev_skip hc
    rw [← hqc, e] at this
    rw [this]; exact hd.1 e
   ·intro hne
    have h1 := lev_skip hc
    rw [← hqc] at h1
    rw [h1, lev_same (fun k => Pth.not_covers_parent hne (by rw [← hqc] at k; exact k))]
    exact hd.2 hne
  ·exact fits_none (h.2 q hq) hqc
theorem lev_perm {S f : List Cl} (h : S.Perm f) (q : Tx) : lev S q = lev f q := norm_of_same (fun n => Sz.holds_perm ((h.filter _).map _) n)
theorem piece_top (f : List Cl) : piece f [] = Sz.two 2 (lev f []) [] := by
 unfold piece
 refine two_same (fun n => (lev_holds f [] n).symm) (fun n => ?_)
 have : above f [] = [] := by
  unfold above
  rw [List.filter_eq_nil_iff]
  intro c _
  simp only [decide_eq_true_eq, not_and]
  intro h1 h2
  exact h1 (Pth.covers_anti h2 (Pth.covers_nil _))
 rw [this]
 rfl
theorem piece_under (f : List Cl) {p : Tx} (hp : p ≠ []) : piece f p = Sz.two 2 (lev f p) (lev f (Pth.parent p)) := by
 unfold piece
 refine two_same (fun n => (lev_holds f p n).symm) (fun n => ?_)
 rw [lev_holds, Bool.eq_iff_iff, sizes_holds, sizes_holds]
 refine and_congr_right (fun _ => ?_)
 constructor
 ·rintro ⟨c, hc, h1, h2⟩
  obtain ⟨hc1, hc2⟩ := List.mem_filter.1 hc
  have hc2 : c.pre ≠ p ∧ Pth.Covers c.pre p := by simpa using hc2
  exact ⟨c, hc1, (Pth.covers_parent hp hc2.1).1 h1, h2⟩
 ·rintro ⟨c, hc, h1, h2⟩
  have hne : c.pre ≠ p := fun e => Pth.not_covers_parent hp (by rw [e] at h1; exact h1)
  have hcp := (Pth.covers_parent hp hne).2 h1
  exact ⟨c, List.mem_filter.2 ⟨hc, by simp [hne, hcp]⟩, hcp, h2⟩
theorem compact_up {l : List Tx} (h : l.Pairwise (· ≤ ·)) : Up (Lib.compact l) := by
 have hle : ∀ i j, i ≤ j → j < l.length → l.toArray[i]! ≤ l.toArray[j]! := by
  intro i j hij hj
  rw [getElem!_pos l.toArray i (by simpa using Nat.lt_of_le_of_lt hij hj), getElem!_pos l.toArray j (by simpa using hj)]
  rcases Nat.eq_or_lt_of_le hij with e | e
  ·subst e; exact List.le_refl _
  ·exact List.pairwise_iff_getElem.1 h i j _ _ e
 unfold Up Lib.compact Lib.compactUpTo
 rw [List.pairwise_map]
 refine ((List.pairwise_lt_range).filter _).imp_of_mem ?_
 intro i j hi hj hij
 obtain ⟨hj1, hj2⟩ := List.mem_filter.1 hj
 have hjl := List.mem_range.1 hj1
 have hne : l.toArray[j]! ≠ l.toArray[j - 1]! := by
  rcases of_decide_eq_true hj2 with k | k
  ·omega
  ·exact k
 have h1 := hle i (j - 1) (by omega) (by omega)
 have h2 := hle (j - 1) j (by omega) hjl
 have h3 : l.toArray[j - 1]! < l.toArray[j]! := by
  rcases List.le_iff_lt_or_eq.1 h2 with k | k
  ·exact k
  ·exact absurd k.symm hne
 rcases List.le_iff_lt_or_eq.1 h1 with k | k
 ·exact List.lt_trans k h3
 ·rw [k]; exact h3
theorem compact_mem (l : List Tx) (x : Tx) : x ∈ Lib.compact l ↔ x ∈ l := by
 unfold Lib.compact Lib.compactUpTo
 rw [List.mem_map]
 constructor
 ·rintro ⟨j, hj, rfl⟩
  have hjl := List.mem_range.1 (List.mem_filter.1 hj).1
  rw [getElem!_pos l.toArray j (by simpa using hjl)]
  simp
 ·intro hx
  obtain ⟨j0, hj0, e0⟩ := List.getElem_of_mem hx
  -- the first place where it stands
  have : ∀ k, k < l.length → l.toArray[k]! = x → ∃ j, j < l.length ∧ l.toArray[j]! = x ∧ Lib.keeps l.toArray j = true := by
   intro k
   induction k with
   | zero => intro hk e; exact ⟨0, hk, e, by simp [Lib.keeps]⟩
   | succ k ih =>
    intro hk e
    by_cases hp : l.toArray[k]! = x
    ·exact ih (by omega) hp
    ·exact ⟨k + 1, hk, e, Lib.keeps_pos (by rw [e, Nat.add_sub_cancel]; exact fun h => hp h.symm)⟩
  obtain ⟨j, h1, h2, h3⟩ := this j0 hj0 (by rw [getElem!_pos l.toArray j0 (by simpa using hj0)]; simpa using e0)
  exact ⟨j, List.mem_filter.2 ⟨List.mem_range.2 h1, h3⟩, h2⟩
theorem prefixes_sorted (f : List Cl) : Lib.compact ((f.map (·.pre)).mergeSort fun x y => decide (x ≤ y)) = prefixes f := by
 have hs : ((f.map (·.pre)).mergeSort fun x y => decide (x ≤ y)).Pairwise (· ≤ ·) := by
  have := List.pairwise_mergeSort (le := fun x y : Tx => decide (x ≤ y)) (fun a b c h1 h2 => by simp only [decide_eq_true_eq] at *; exact List.le_trans h1 h2) (fun a b => by simp only [Bool.or_eq_true, decide_eq_true_eq]; exact List.le_total a b) (f.map (·.pre))
  exact this.imp (fun {a b} h => by simpa using h)
 refine up_same (compact_up hs) (prefixes_up f) (fun x => ?_)
 rw [compact_mem, (List.mergeSort_perm _ _).mem_iff, prefixes_mem, List.mem_map]
end Flt
end Go.Proofs.YtpafpegcodempaaGreat
namespace Go.Proofs.YtpafpegcodempaaGreat.Cov
open Flt (Tx Cl sizes prefixes norm)
def own (L : List Cl) (p : Tx) : List Sz.Rg := (L.filter fun c => decide (c.pre = p)).map Flt.rg
theorem own_holds (L : List Cl) (p : Tx) (n : Int) : Sz.holds (own L p) n = true ↔ (0 ≤ n ∧ n ≤ 200) ∧ ∃ c ∈ L, c.pre = p ∧ c.lo ≤ n ∧ n ≤ c.hi := by
 rw [Flt.holds_mem]
 refine and_congr_right (fun _ => ?_)
 unfold own
 constructor
 ·rintro ⟨r, hr, h⟩
  obtain ⟨c, hc, rfl⟩ := List.mem_map.1 hr
  obtain ⟨h1, h2⟩ := List.mem_filter.1 hc
  exact ⟨c, h1, of_decide_eq_true h2, h⟩
 ·rintro ⟨c, hc, h1, h2⟩
  exact ⟨Flt.rg c, List.mem_map.2 ⟨c, List.mem_filter.2 ⟨hc, decide_eq_true h1⟩, rfl⟩, h2⟩
def leaf (k : Nat) (g : List Cl) (c : Cl) : List Cl := Flt.clauses c.pre (Sz.two k [Flt.rg c] (sizes g c.pre))
def parts (k : Nat) (f g : List Cl) : List Cl := (norm f).flatMap (leaf k g)
theorem sizes_app (a b : List Cl) (p : Tx) (n : Int) : Sz.holds (sizes (a ++ b) p) n = (Sz.holds (sizes a p) n || Sz.holds (sizes b p) n) := by
 unfold sizes
 rw [List.filter_append, List.map_append, Sz.holds_append]
theorem join_is (f g : List Cl) : norm (f ++ g) = two 0 f g := by
 have h2 : two 0 f g = norm (two 0 f g) := by unfold two; rw [Flt.norm_norm]
 rw [h2]
 refine Flt.norm_same (fun p n => ?_)
 rw [join_sizes, sizes_app]
end Go.Proofs.YtpafpegcodempaaGreat.Cov
namespace Go.Proofs.YtpafpegcodempaaGreat
open Go.RowKit
def Cov.Ok (f : List Flt.Cl) : Prop := f.length ≤ 100000 ∧ (∀ c ∈ f, Flt.Right c) ∧ ∀ c ∈ f, Flt.Bd c
namespace Cov
open Flt (Tx Cl sizes prefixes norm)
theorem pre_small {c : Cl} (h : Flt.Right c) : c.pre.length ≤ 40 := by
 rcases h.1 with e | e
 ·rw [e]; exact Nat.zero_le _
 ·exact e.2.1
theorem right_bd {c : Cl} (h : Flt.Right c) : Flt.Bd c := ⟨by have := pre_small h; omega, Flt.right_bd h⟩
theorem Ok.of {f : List Cl} (h : f.length ≤ 100000) (hr : ∀ c ∈ f, Flt.Right c) : Ok f := ⟨h, hr, fun c hc => right_bd (hr c hc)⟩
end Cov
end Go.Proofs.YtpafpegcodempaaGreat
namespace Go.Proofs.YtpafpegcodempaaGreat.Know
open Flt (Tx Cl)
open Ver (V)
def ordV : List Int → List Int → Int
 | a :: l, b :: m => if b < a then -1 else if a < b then 1 else ordV l m
 | _, _ => 0
def cmpN (a b : V) : Int := if Ver.Before a b then -1 else if Ver.Before b a then 1 else 0
def ordN : List V → List V → Int
 | [], [] => 0
 | [], _ :: _ => -1
 | _ :: _, [] => 1
 | a :: l, b :: m => if cmpN a b = 0 then ordN l m else cmpN a b
def order (x y : Fr) : Int := if ordV x.v y.v = 0 then ordN x.no y.no else ordV x.v y.v
def Keyd (x y : Fr) : Prop := x.v = y.v ∧ x.no = y.no
instance (x y : Fr) : Decidable (Keyd x y) := inferInstanceAs (Decidable (_ ∧ _))
def step (j : List Fr) (z : Fr) : List Fr :=
 match j.getLast? with
 | some y => if Keyd y z then j.dropLast ++ [⟨y.f ++ z.f, y.v, y.no⟩] else j ++ [z]
 | none => j ++ [z]
theorem step_none (z : Fr) : step [] z = [z] := rfl
theorem step_same (j : List Fr) (y z : Fr) (h : Keyd y z) : step (j ++ [y]) z = j ++ [⟨y.f ++ z.f, y.v, y.no⟩] := by
 unfold step
 rw [List.getLast?_concat]
 show (if Keyd y z then _ else _) = _
 rw [if_pos h, List.dropLast_concat]
theorem step_new (j : List Fr) (y z : Fr) (h : ¬ Keyd y z) : step (j ++ [y]) z = j ++ [y] ++ [z] := by
 unfold step
 rw [List.getLast?_concat]
 show (if Keyd y z then _ else _) = _
 rw [if_neg h]
def flat (T : List Fr) (v : List Int) (no : List V) : List Cl := (T.filter fun z => decide (z.v = v ∧ z.no = no)).flatMap (·.f)
def ofKey (T : List Fr) (z : Fr) : Fr := ⟨flat T z.v z.no, z.v, z.no⟩
structure Joins (T j : List Fr) : Prop where
 up : j.Pairwise FLt
 mem : ∀ x, x ∈ j ↔ ∃ z ∈ T, x = ofKey T z
 last : ∀ j0 y, j = j0 ++ [y] → ∃ t ∈ T, Keyd t y
def zeros : List Int := List.replicate 65 0
def Top (l : List Fr) (i : Nat) (x : Fr) : Prop := x.f ≠ [] ∧ x.v ≠ zeros ∧ ∀ k y, l[k]? = some y → k ≠ i → ¬ Incl y x
theorem top_iff (l : List Fr) (i : Nat) (x : Fr) : (x.f ≠ [] ∧ x.v ≠ zeros ∧ ∀ k, k < l.length → k ≠ i → ∀ y ∈ l[k]?, ¬ Incl y x) ↔ Top l i x := by
 unfold Top
 refine and_congr_right (fun _ => and_congr_right (fun _ => ⟨fun h k y hk hne => h k (List.getElem?_eq_some_iff.1 hk).1 hne y hk, fun h k _ hne y hk => h k y hk hne⟩))
instance (l : List Fr) (i : Nat) (x : Fr) : Decidable (Top l i x) := decidable_of_iff _ (top_iff l i x)
def vecOf (l : List It) (item : V) : List Int := l.foldl (fun v i => if i.item = item then Vec.join v i.v else v) zeros
theorem vecOf_more (l : List It) (i : It) (item : V) : vecOf (l ++ [i]) item = if i.item = item then Vec.join (vecOf l item) i.v else vecOf l item := by
 unfold vecOf
 rw [List.foldl_append]
 rfl
end Go.Proofs.YtpafpegcodempaaGreat.Know
namespace Go.Proofs.YtpafpegcodempaaGreat
open Go.RowKit
structure RFr where
 fv : Value
 nv : Value
 x : Know.Fr
def rfV (r : RFr) : List Value := r.fv :: (vecL r.x.v ++ [r.nv])
def itV (i : Know.It) : List Value := verV i.item ++ vecL i.v
abbrev frA (r : RFr) : Value := .agg (rfV r).toArray
abbrev itA (i : Know.It) : Value := .agg (itV i).toArray
structure RFr.In (w : World) (F : Nat → Prop) (r : RFr) : Prop where
 f : Cls w F r.fv r.x.f
 no : Vrs w F r.nv r.x.no
 len : r.x.v.length = 65
def Frs (w : World) (F : Nat → Prop) (v : Value) (l : List Know.Fr) : Prop := ∃ rs : List RFr, rs.map (·.x) = l ∧ Rws 67 rfV w F v rs ∧ ∀ r ∈ rs, r.In w F
def Its (w : World) (F : Nat → Prop) (v : Value) (l : List Know.It) : Prop := Rws 67 itV w F v l ∧ ∀ i ∈ l, i.v.length = 65
def Kns (w : World) (F : Nat → Prop) (v : Value) (k : Know.K) : Prop := ∃ a b, v = .agg #[a, b] ∧ Frs w F a k.frags ∧ Its w F b k.items
def AnyB (_ : Nat) : Prop := True
section
variable {w w' : World} {F G : Nat → Prop} {v : Value}
theorem rf_len {r : RFr} (h : r.x.v.length = 65) : (rfV r).length = 67 := by
 unfold rfV
 rw [List.length_cons, List.length_append, vecL_len, h]; rfl
theorem it_len {i : Know.It} (h : i.v.length = 65) : (itV i).length = 67 := by
 unfold itV
 rw [List.length_append, vecL_len, h]; rfl
theorem vec_one (v : List Int) : ∀ u ∈ vecL v, u.oneCell' = true := by
 intro u hu
 obtain ⟨n, _, rfl⟩ := List.mem_map.1 hu
 rfl
theorem Rws.one {α : Type} {k : Nat} {f : α → List Value} {l : List α} (h : Rws k f w F v l) : v.oneCell' = true := by
 obtain ⟨A, cap, rfl, -⟩ := h
 rfl
theorem RFr.In.one {r : RFr} (h : r.In w F) : ∀ u ∈ rfV r, u.oneCell' = true := by
 intro u hu
 rcases List.mem_cons.1 hu with rfl | hu
 ·exact h.f.one
 ·rcases List.mem_append.1 hu with hu | hu
  ·exact vec_one _ u hu
  ·rw [List.mem_singleton.1 hu]; exact h.no.one
theorem it_one (i : Know.It) : ∀ u ∈ itV i, u.oneCell' = true := by
 intro u hu
 rcases List.mem_append.1 hu with hu | hu
 ·exact ver_one _ u hu
 ·exact vec_one _ u hu
theorem RFr.In.kept {r : RFr} (h : r.In w F) (k : Kept G w w') (hd : ∀ i, F i → ¬ G i) : r.In w' F := ⟨h.f.kept k hd, h.no.kept k hd, h.len⟩
theorem RFr.In.below {r : RFr} (h : r.In w F) (k : Below w.heap.size w w') : r.In w' F := ⟨Rws.below h.f k, Rws.below h.no k, h.len⟩
theorem RFr.In.mono {r : RFr} (h : r.In w F) (k : ∀ i, F i → G i) : r.In w G := ⟨h.f.mono k, h.no.mono k, h.len⟩
theorem RFr.In.any {r : RFr} (h : r.In w F) : r.In w AnyB := h.mono (fun _ _ => trivial)
theorem RFr.In.lt {r : RFr} (h : r.In w F) : r.In w (fun i => F i ∧ i < w.heap.size) := ⟨h.f.lt, h.no.lt, h.len⟩
variable {l : List Know.Fr} {m : List Know.It} {k : Know.K}
theorem Frs.kept (h : Frs w F v l) (hk : Kept G w w') (hd : ∀ i, F i → ¬ G i) : Frs w' F v l := by
 obtain ⟨rs, h1, h2, h3⟩ := h
 exact ⟨rs, h1, h2.kept hk hd, fun r hr => (h3 r hr).kept hk hd⟩
theorem Frs.below (h : Frs w F v l) (hk : Below w.heap.size w w') : Frs w' F v l := by
 obtain ⟨rs, h1, h2, h3⟩ := h
 exact ⟨rs, h1, Rws.below h2 hk, fun r hr => (h3 r hr).below hk⟩
theorem Frs.mono (h : Frs w F v l) (hF : ∀ i, F i → G i) : Frs w G v l := by
 obtain ⟨rs, h1, h2, h3⟩ := h
 exact ⟨rs, h1, h2.mono hF, fun r hr => (h3 r hr).mono hF⟩
theorem Frs.any (h : Frs w F v l) : Frs w AnyB v l := h.mono (fun _ _ => trivial)
theorem Frs.parts (h : Frs w F v l) : ∃ A cap, v = .slice A l.length cap ∧ l.length ≤ cap := by
 obtain ⟨rs, rfl, h2, h3⟩ := h
 obtain ⟨A, cap, e, hc⟩ := h2.parts
 rw [List.length_map]
 exact ⟨A, cap, e, hc⟩
theorem Frs.len (h : Frs w F v l) : ∀ x ∈ l, x.v.length = 65 := by
 obtain ⟨rs, rfl, h2, h3⟩ := h
 intro x hx
 obtain ⟨r, hr, rfl⟩ := List.mem_map.1 hx
 exact (h3 r hr).len
theorem Frs.empty (w : World) (F : Nat → Prop) (A : Option Addr) (c : Nat) : Frs w F (.slice A 0 c) [] := ⟨[], rfl, Rws.empty _ _ _ _, fun _ h => (by cases h)⟩
theorem Its.kept (h : Its w F v m) (hk : Kept G w w') (hd : ∀ i, F i → ¬ G i) : Its w' F v m := ⟨h.1.kept hk hd, h.2⟩
theorem Its.below (h : Its w F v m) (hk : Below w.heap.size w w') : Its w' F v m := ⟨Rws.below h.1 hk, h.2⟩
theorem Its.mono (h : Its w F v m) (hF : ∀ i, F i → G i) : Its w G v m := ⟨h.1.mono hF, h.2⟩
theorem Its.any (h : Its w F v m) : Its w AnyB v m := h.mono (fun _ _ => trivial)
theorem Its.empty (w : World) (F : Nat → Prop) (A : Option Addr) (c : Nat) : Its w F (.slice A 0 c) [] := ⟨Rws.empty _ _ _ _, fun _ h => (by cases h)⟩
theorem Kns.below (h : Kns w F v k) (hk : Below w.heap.size w w') : Kns w' F v k := by
 obtain ⟨a, b, e, h1, h2⟩ := h
 exact ⟨a, b, e, h1.below hk, h2.below hk⟩
theorem Kns.any (h : Kns w F v k) : Kns w AnyB v k := by
 obtain ⟨a, b, e, h1, h2⟩ := h
 exact ⟨a, b, e, h1.any, h2.any⟩
end
namespace Know
open Flt (Cl)
def many (l : List Fr) : Nat := (l.map fun x => x.f.length).sum
def wt (l : List Fr) : Nat := (l.map fun x => (Flt.prefixes x.f).length).sum
structure Ok (k : K) : Prop where
 fr : k.frags.length ≤ 1000
 it : k.items.length ≤ 1000
 cl : many k.frags ≤ 100000
 wt : wt k.frags ≤ 490
 sane : SaneK k
 len : ∀ x ∈ k.frags, x.v.length = 65
 no : ∀ x ∈ k.frags, x.no.length ≤ 1000
 lenI : ∀ i ∈ k.items, i.v.length = 65
 bd : ∀ i ∈ k.items, ∀ n ∈ i.v, Ver.I64 n
 bdI : ∀ i ∈ k.items, Ver.Bd i.item
theorem flat_len {α β : Type} (g : α → List β) : ∀ l : List α, (l.flatMap g).length = (l.map fun x => (g x).length).sum
 | [] => rfl
 | x :: l => by rw [List.flatMap_cons, List.length_append, List.map_cons, List.sum_cons, flat_len g l]
end Know
open Go.RowKit
def frZ : RFr := ⟨.slice none 0 0, .slice none 0 0, ⟨[], Vec.zeros, []⟩⟩
def itZ : Know.It := ⟨⟨0, 0⟩, Vec.zeros⟩
theorem frInfo : (Tryz.prog.info? 91).map (fun i => (i.zero, i.size, i.bytes)) = some (some (frA frZ), 67, 568) := by kernel_rfl
theorem itInfo : (Tryz.prog.info? 127).map (fun i => (i.zero, i.size, i.bytes)) = some (some (itA itZ), 67, 536) := by kernel_rfl
theorem frZero (w : World) : (zeroValue 91).run Tryz.prog w = .ok (frA frZ) w := by
 obtain ⟨i0, hi0, hz0, -, -⟩ := ver_parts frInfo
 simp [zeroValue, typeInfo, hi0, hz0]
theorem itZero (w : World) : (zeroValue 127).run Tryz.prog w = .ok (itA itZ) w := by
 obtain ⟨i0, hi0, hz0, -, -⟩ := ver_parts itInfo
 simp [zeroValue, typeInfo, hi0, hz0]
theorem frSize {r : RFr} (h : r.x.v.length = 65) : (Tryz.prog.info? 91).map (·.size) = some (rfV r).length := by
 obtain ⟨i0, hi0, -, hz1, -⟩ := ver_parts frInfo
 rw [rf_len h, hi0, Option.map_some, hz1]
theorem itSize {i : Know.It} (h : i.v.length = 65) : (Tryz.prog.info? 127).map (·.size) = some (itV i).length := by
 obtain ⟨i0, hi0, -, hz1, -⟩ := ver_parts itInfo
 rw [it_len h, hi0, Option.map_some, hz1]
theorem vecSizeL {v : List Int} (h : v.length = 65) : (Tryz.prog.info? 32).map (·.size) = some (vecL v).length := by
 have := vecSize h
 rwa [vecR_size h, ← h, ← vecL_len] at this
theorem frZ_size : (rfV frZ).toArray.size = 67 := by rw [List.size_toArray, rf_len Vec.zeros_len]
theorem itZ_size : (itV itZ).toArray.size = 67 := by rw [List.size_toArray, it_len Vec.zeros_len]
section
variable {w w' : World} {b o : Nat} {r : RFr} {i : Know.It} {F G : Nat → Prop} {v : Value}
theorem lies_vec {n : Nat} {l : List Value} {x : List Int} (hx : x.length = 65) (h : w.rangeAt b o l) (hl : ∀ j u, (vecL x)[j]? = some u → l[n + j]? = some u) : Lies 32 w b (o + n) (vecL x) :=
 ⟨fun j u hu => by rw [Nat.add_assoc]; exact h _ _ (hl j u hu), ⟨_, Tryz.underlying32, rfl⟩, vecSizeL hx⟩
theorem rf_vec (r : RFr) (j : Nat) (u : Value) (h : (vecL r.x.v)[j]? = some u) : (rfV r)[1 + j]? = some u := by
 unfold rfV
 rw [Nat.add_comm, List.getElem?_cons_succ, List.getElem?_append_left (by obtain ⟨h, _⟩ := List.getElem?_eq_some_iff.1 h; exact h)]
 exact h
theorem it_vec (i : Know.It) (j : Nat) (u : Value) (h : (vecL i.v)[j]? = some u) : (itV i)[2 + j]? = some u := by
 unfold itV
 rw [List.getElem?_append_right (by show 2 ≤ 2 + j; omega), show 2 + j - (verV i.item).length = j by show 2 + j - 2 = j; omega]
 exact h
theorem rf_no {r : RFr} (h : r.x.v.length = 65) : (rfV r)[66]? = some r.nv := by
 unfold rfV
 rw [List.getElem?_cons_succ, List.getElem?_append_right (by rw [vecL_len, h]; exact Nat.le_refl _), vecL_len, h]
 rfl
structure FrAt (w : World) (b o : Nat) (r : RFr) : Prop where
 all : Lies 91 w b o (rfV r)
 f : w.cell? ⟨b, o, none⟩ = some r.fv
 no : w.cell? ⟨b, o + 66, none⟩ = some r.nv
 v : Lies 32 w b (o + 1) (vecL r.x.v)
structure ItAt (w : World) (b o : Nat) (i : Know.It) : Prop where
 all : Lies 127 w b o (itV i)
 by_ : w.cell? ⟨b, o, none⟩ = some (.int .i64 i.item.by_)
 n : w.cell? ⟨b, o + 1, none⟩ = some (.int .i64 i.item.n)
 v : Lies 32 w b (o + 2) (vecL i.v)
theorem FrAt.of (hr : r.x.v.length = 65) (h : w.rangeAt b o (rfV r)) : FrAt w b o r :=
 ⟨⟨h, ⟨_, Tryz.underlying91, rfl⟩, frSize hr⟩, h 0 _ rfl, h 66 _ (rf_no hr), lies_vec hr h (rf_vec r)⟩
theorem ItAt.of (hi : i.v.length = 65) (h : w.rangeAt b o (itV i)) : ItAt w b o i :=
 ⟨⟨h, ⟨_, Tryz.underlying127, rfl⟩, itSize hi⟩, h 0 _ rfl, h 1 _ rfl, lies_vec hi h (it_vec i)⟩
theorem FrAt.row (hr : r.x.v.length = 65) {t : TypeId} (h : Row w b t (rfV r).toArray) : FrAt w b 0 r := FrAt.of hr (range_row h)
theorem ItAt.row (hi : i.v.length = 65) {t : TypeId} (h : Row w b t (itV i).toArray) : ItAt w b 0 i := ItAt.of hi (range_row h)
theorem FrAt.below {B : Nat} (h : FrAt w b o r) (hb : Below B w w') (hB : b < B) : FrAt w' b o r :=
 ⟨h.all.below hb hB, (hb.cell (p := ⟨b, o, none⟩) hB).trans h.f, (hb.cell (p := ⟨b, o + 66, none⟩) hB).trans h.no, h.v.below hb hB⟩
theorem ItAt.below {B : Nat} (h : ItAt w b o i) (hb : Below B w w') (hB : b < B) : ItAt w' b o i :=
 ⟨h.all.below hb hB, (hb.cell (p := ⟨b, o, none⟩) hB).trans h.by_, (hb.cell (p := ⟨b, o + 1, none⟩) hB).trans h.n, h.v.below hb hB⟩
theorem FrAt.v0 (h : FrAt w b 0 r) : Lies 32 w b 1 (vecL r.x.v) := by have := h.v; rwa [Nat.zero_add] at this
theorem FrAt.no0 (h : FrAt w b 0 r) : w.cell? ⟨b, 66, none⟩ = some r.nv := by have := h.no; rwa [Nat.zero_add] at this
theorem ItAt.v0 (h : ItAt w b 0 i) : Lies 32 w b 2 (vecL i.v) := by have := h.v; rwa [Nat.zero_add] at this
theorem ItAt.n0 (h : ItAt w b 0 i) : w.cell? ⟨b, 1, none⟩ = some (.int .i64 i.item.n) := by have := h.n; rwa [Nat.zero_add] at this
theorem FrAt.made (w : World) (hr : r.x.v.length = 65) (t : TypeId) : FrAt (w.alloc (.cells (rfV r).toArray t)) w.heap.size 0 r := FrAt.row hr (Row.made w t _)
theorem ItAt.made (w : World) (hi : i.v.length = 65) (t : TypeId) : ItAt (w.alloc (.cells (itV i).toArray t)) w.heap.size 0 i := ItAt.row hi (Row.made w t _)
theorem FrAt.elem {n c : Nat} {rs : List RFr} (h : Rws 67 rfV w F (.slice (some ⟨b, o, none⟩) n c) rs) {j : Nat} (hx : rs[j]? = some r) (hr : r.x.v.length = 65) : FrAt w b (o + j * 67) r := FrAt.of hr (range_rws h hx)
theorem ItAt.elem {n c : Nat} {l : List Know.It} (h : Rws 67 itV w F (.slice (some ⟨b, o, none⟩) n c) l) {j : Nat} (hx : l[j]? = some i) (hr : i.v.length = 65) : ItAt w b (o + j * 67) i := ItAt.of hr (range_rws h hx)
end
def Off (v : Value) (b : Nat) : Prop := v.ownBlock ≠ some b
structure FOwn (w : World) (rs : List RFr) (v : Value) (W : World) : Prop where
 own : RowsOwn 91 67 rfV w rs v W
 ins : ∀ r ∈ rs, r.In W (Off v)
section
variable {w W W' : World} {rs : List RFr} {v v' : Value}
theorem FOwn.of {F : Nat → Prop} (h : RowsOwn 91 67 rfV w rs v W) (hi : ∀ r ∈ rs, r.In w F) : FOwn w rs v W :=
 ⟨h, fun r hr => ((hi r hr).lt.below h.2).mono (fun i hi e => by have := (h.1.lt i e).1; omega)⟩
theorem FOwn.lens (h : FOwn w rs v W) : ∀ r ∈ rs, (rfV r).length = 67 := fun r hr => rf_len (h.ins r hr).len
theorem FOwn.rws (h : FOwn w rs v W) : Rws 67 rfV W (NewIn w W) v rs := h.own.rows h.lens
theorem FOwn.start (w : World) : FOwn w [] (.slice none 0 0) w := ⟨RowsOwn.start _ _ _ _, fun _ h => (by cases h)⟩
theorem FOwn.first {w W : World} (h : Below w.heap.size w W) : FOwn w [] (.slice none 0 0) W := ⟨RowsOwn.first h, fun _ h => (by cases h)⟩
theorem FOwn.below (h : FOwn w rs v W) (hb : Below W.heap.size W W') : FOwn w rs v W' := ⟨h.own.below hb, fun r hr => (h.ins r hr).below hb⟩
theorem FOwn.since {w0 : World} (h : FOwn w rs v W) (hb : Below w0.heap.size w0 w) : FOwn w0 rs v W := ⟨h.own.since hb, h.ins⟩
theorem FOwn.size (h : FOwn w rs v W) : Below w.heap.size w W := h.own.2
theorem RFr.In.grown {r : RFr} (h : r.In W (Off v)) (hg : W.grownBy W' v.ownBlock) (hn : Near W v v') : r.In W' (Off v') := by
 have h1 : r.In W' (fun i => Off v i ∧ i < W.heap.size) := h.lt.kept (G := fun i => v.ownBlock = some i) ⟨hg.os, hg.tape, hg.output, hg.size, fun k hk hne => hg.block k hk (fun e => hne e.symm)⟩ (fun i hi => hi.1)
 refine h1.mono (fun i hi e => ?_)
 rcases hn with hn | hn
 ·rw [hn] at e; exact hi.1 e
 ·have := hn i e; omega
theorem FOwn.more {r : RFr} {o : Obj} (h : FOwn w rs v W) (hr : r.In W (Off v)) (hown : W'.ownsRow w.heap.size 91 67 v' (rs.length + 1) (rs.flatMap rfV ++ rfV r)) (hg : (W.alloc o).grownBy W' v.ownBlock) (hn : Near (W.alloc o) v v') : FOwn w (rs ++ [r]) v' W' := by
 have hb : Below W.heap.size W (W.alloc o) := (Below.refl _ _).alloc (Nat.le_refl _) o
 refine ⟨h.own.more hown hg, fun x hx => ?_⟩
 rcases List.mem_append.1 hx with hx | hx
 ·exact ((h.ins x hx).below hb).grown hg hn
 ·rw [List.mem_singleton.1 hx]; exact (hr.below hb).grown hg hn
theorem FOwn.put {g n cap i j : Nat} {r r' : RFr} {us : List Value} (h : FOwn w rs (.slice (some ⟨g, 0, none⟩) n cap) W) (hn : rs.length = n) (hx : rs[i]? = some r) (hj : j + us.length ≤ 67) (hy : setAt (rfV r) j us = rfV r') (hr : r'.In W (Off (.slice (some ⟨g, 0, none⟩) n cap))) : FOwn w (rs.set i r') (.slice (some ⟨g, 0, none⟩) n cap) (W.setCells g (i * 67 + j) us) := by
 obtain ⟨h1, h2⟩ := h.own.putCells hn h.lens hx j us hj hy
 refine ⟨h1, fun x hx => ?_⟩
 rcases List.mem_or_eq_of_mem_set hx with hx | rfl
 ·exact (h.ins x hx).grown h2 (Near.refl _ _)
 ·exact hr.grown h2 (Near.refl _ _)
theorem FOwn.there {g n cap i : Nat} {r : RFr} (h : FOwn w rs (.slice (some ⟨g, 0, none⟩) n cap) W) (hn : rs.length = n) (hx : rs[i]? = some r) (j m : Nat) (hj : j + m ≤ 67) : W.there g (i * 67 + j) m := by
 subst hn
 intro k hk
 have hr := h.ins r (List.mem_of_getElem? hx)
 have hlt : j + k < (rfV r).length := by rw [rf_len hr.len]; omega
 have := range_rws h.rws hx (j + k) _ (List.getElem?_eq_getElem hlt)
 rw [Nat.zero_add, ← Nat.add_assoc] at this
 exact ⟨by rw [this]; rfl, h.own.1.frozenAt _⟩
theorem FOwn.at {g n cap i : Nat} {r : RFr} (h : FOwn w rs (.slice (some ⟨g, 0, none⟩) n cap) W) (hx : rs[i]? = some r) : FrAt W g (i * 67) r := by
 have := FrAt.elem h.rws hx (h.ins r (List.mem_of_getElem? hx)).len
 rwa [Nat.zero_add] at this
end
end Go.Proofs.YtpafpegcodempaaGreat
