import Derived.Test.YtkcgmnhjofoeiaaGreatCom6
import Derived.Test.YtkcgmnhjofoeiaaGreatCom5
set_option maxRecDepth 100000
set_option linter.all false
namespace Go.Proofs.YtkcgmnhjofoeiaaGreat.Know
open Flt (Tx Cl)
open Ver (V)
def ordV : List Int → List Int → Int
 | a :: l, b :: m => if b < a then -1 else if a < b then 1 else ordV l m
 | _, _ => 0
def cmpN (a b : V) : Int := if Ver.Before a b then -1 else if Ver.Before b a then 1 else 0
def ordN : List V → List V → Int
 | [], [] => 0
 | [], _ :: _ => -1
 | _ :: _, [] => 1
 | a :: l, b :: m => if cmpN a b = 0 then ordN l m else cmpN a b
def order (x y : Fr) : Int := if ordV x.v y.v = 0 then ordN x.no y.no else ordV x.v y.v
def Keyd (x y : Fr) : Prop := x.v = y.v ∧ x.no = y.no
instance (x y : Fr) : Decidable (Keyd x y) := inferInstanceAs (Decidable (_ ∧ _))
theorem vlt_cons {a b : Int} {l m : List Int} : vlt (a :: l) (b :: m) ↔ b < a ∨ (a = b ∧ vlt l m) := Iff.rfl
theorem nlt_cons {a b : V} {l m : List V} : nlt (a :: l) (b :: m) ↔ Ver.Before a b ∨ (a = b ∧ nlt l m) := Iff.rfl
theorem vlt_trans : ∀ {a b c : List Int}, vlt a b → vlt b c → vlt a c
 | [], _, _, h, _ => h.elim
 | _ :: _, [], _, h, _ => h.elim
 | _ :: _, _ :: _, [], _, k => k.elim
 | a :: l, b :: m, c :: n, h, k => by
  rw [vlt_cons] at h k ⊢
  rcases h with h | ⟨rfl, h⟩ <;> rcases k with k | ⟨rfl, k⟩
  ·exact Or.inl (by omega)
  ·exact Or.inl h
  ·exact Or.inl k
  ·exact Or.inr ⟨rfl, vlt_trans h k⟩
theorem vlt_or : ∀ {a b : List Int}, a.length = b.length → a ≠ b → vlt a b ∨ vlt b a
 | [], [], _, h => absurd rfl h
 | [], _ :: _, h, _ => by cases h
 | _ :: _, [], h, _ => by cases h
 | a :: l, b :: m, hl, h => by
  rw [vlt_cons, vlt_cons]
  rcases Int.lt_trichotomy a b with k | k | k
  ·exact Or.inr (Or.inl k)
  ·subst k
   rcases vlt_or (a := l) (b := m) (by simpa using hl) (fun e => h (by rw [e])) with q | q
   ·exact Or.inl (Or.inr ⟨rfl, q⟩)
   ·exact Or.inr (Or.inr ⟨rfl, q⟩)
  ·exact Or.inl (Or.inl k)
theorem nlt_trans : ∀ {a b c : List V}, nlt a b → nlt b c → nlt a c
 | [], [], _, h, _ => h.elim
 | _ :: _, [], _, h, _ => h.elim
 | [], _ :: _, [], _, k => k.elim
 | _ :: _, _ :: _, [], _, k => k.elim
 | [], _ :: _, _ :: _, _, _ => trivial
 | a :: l, b :: m, c :: n, h, k => by
  rw [nlt_cons] at h k ⊢
  rcases h with h | ⟨rfl, h⟩ <;> rcases k with k | ⟨rfl, k⟩
  ·exact Or.inl (Ver.before_trans h k)
  ·exact Or.inl h
  ·exact Or.inl k
  ·exact Or.inr ⟨rfl, nlt_trans h k⟩
theorem nlt_or : ∀ {a b : List V}, a ≠ b → nlt a b ∨ nlt b a
 | [], [], h => absurd rfl h
 | [], _ :: _, _ => Or.inl trivial
 | _ :: _, [], _ => Or.inr trivial
 | a :: l, b :: m, h => by
  rw [nlt_cons, nlt_cons]
  by_cases e : a = b
  ·subst e
   rcases nlt_or (a := l) (b := m) (fun e => h (by rw [e])) with q | q
   ·exact Or.inl (Or.inr ⟨rfl, q⟩)
   ·exact Or.inr (Or.inr ⟨rfl, q⟩)
  ·rcases Ver.before_or e with k | k
   ·exact Or.inl (Or.inl k)
   ·exact Or.inr (Or.inl k)
theorem flt_trans {x y z : Fr} (h : FLt x y) (k : FLt y z) : FLt x z := by
 rcases h with h | ⟨e, h⟩ <;> rcases k with k | ⟨e2, k⟩
 ·exact Or.inl (vlt_trans h k)
 ·exact Or.inl (by rw [← e2]; exact h)
 ·exact Or.inl (by rw [e]; exact k)
 ·exact Or.inr ⟨e.trans e2, nlt_trans h k⟩
theorem flt_irrefl (x : Fr) : ¬ FLt x x := fun h => flt_asymm h h
theorem flt_or {x y : Fr} (hl : x.v.length = y.v.length) (h : ¬ Keyd x y) : FLt x y ∨ FLt y x := by
 by_cases hv : x.v = y.v
 ·rcases nlt_or (fun e => h ⟨hv, e⟩) with k | k
  ·exact Or.inl (Or.inr ⟨hv, k⟩)
  ·exact Or.inr (Or.inr ⟨hv.symm, k⟩)
 ·rcases vlt_or hl hv with k | k
  ·exact Or.inl (Or.inl k)
  ·exact Or.inr (Or.inl k)
theorem flt_key {x y x' y' : Fr} (h : Keyd x x') (k : Keyd y y') : FLt x y ↔ FLt x' y' := by
 unfold FLt
 rw [h.1, h.2, k.1, k.2]
theorem ordV_spec : ∀ {a b : List Int}, a.length = b.length → (ordV a b < 0 ↔ vlt a b) ∧ (ordV a b = 0 ↔ a = b) ∧ (0 < ordV a b ↔ vlt b a)
 | [], [], _ => by
  refine ⟨⟨fun h => ?_, fun h => h.elim⟩, ⟨fun _ => rfl, fun _ => rfl⟩, ⟨fun h => ?_, fun h => h.elim⟩⟩
  ·exact absurd h (by decide)
  ·exact absurd h (by decide)
 | [], _ :: _, h => by cases h
 | _ :: _, [], h => by cases h
 | a :: l, b :: m, hl => by
  obtain ⟨h1, h2, h3⟩ := ordV_spec (a := l) (b := m) (by simpa using hl)
  rw [vlt_cons, vlt_cons, List.cons.injEq]
  unfold ordV
  by_cases c1 : b < a
  ·rw [if_pos c1]
   exact ⟨⟨fun _ => Or.inl c1, fun _ => by omega⟩, ⟨fun h => by omega, fun h => by omega⟩, ⟨fun h => by omega, fun h => by omega⟩⟩
  ·rw [if_neg c1]
   by_cases c2 : a < b
   ·rw [if_pos c2]
    exact ⟨⟨fun h => by omega, fun h => by omega⟩, ⟨fun h => by omega, fun h => by omega⟩, ⟨fun _ => Or.inl c2, fun _ => by omega⟩⟩
   ·rw [if_neg c2]
    have e : a = b := by omega
    subst e
    simp [h1, h2, h3]
theorem cmpN_spec (a b : V) : (cmpN a b < 0 ↔ Ver.Before a b) ∧ (cmpN a b = 0 ↔ a = b) ∧ (0 < cmpN a b ↔ Ver.Before b a) := by
 unfold cmpN
 by_cases c1 : Ver.Before a b
 ·rw [if_pos c1]
  exact ⟨⟨fun _ => c1, fun _ => by omega⟩, ⟨fun h => by omega, fun h => by rw [h] at c1; exact absurd c1 (Ver.before_irrefl _)⟩, ⟨fun h => by omega, fun h => absurd h (Ver.before_asymm c1)⟩⟩
 ·rw [if_neg c1]
  by_cases c2 : Ver.Before b a
  ·rw [if_pos c2]
   exact ⟨⟨fun h => by omega, fun h => absurd h c1⟩, ⟨fun h => by omega, fun h => by rw [h] at c2; exact absurd c2 (Ver.before_irrefl _)⟩, ⟨fun _ => c2, fun _ => by omega⟩⟩
  ·rw [if_neg c2]
   refine ⟨⟨fun h => by omega, fun h => absurd h c1⟩, ⟨fun _ => Classical.byContradiction (fun e => ?_), fun _ => rfl⟩, ⟨fun h => by omega, fun h => absurd h c2⟩⟩
   rcases Ver.before_or e with k | k
   ·exact c1 k
   ·exact c2 k
theorem ordN_spec : ∀ (a b : List V), (ordN a b < 0 ↔ nlt a b) ∧ (ordN a b = 0 ↔ a = b) ∧ (0 < ordN a b ↔ nlt b a)
 | [], [] => by
  refine ⟨⟨fun h => ?_, fun h => h.elim⟩, ⟨fun _ => rfl, fun _ => rfl⟩, ⟨fun h => ?_, fun h => h.elim⟩⟩
  ·exact absurd h (by decide)
  ·exact absurd h (by decide)
 | [], b :: m => by
  have e : ordN [] (b :: m) = -1 := rfl
  rw [e]
  exact ⟨⟨fun _ => trivial, fun _ => by decide⟩, ⟨fun h => absurd h (by decide), fun h => by cases h⟩, ⟨fun h => absurd h (by decide), fun h => h.elim⟩⟩
 | a :: l, [] => by
  have e : ordN (a :: l) [] = 1 := rfl
  rw [e]
  exact ⟨⟨fun h => absurd h (by decide), fun h => h.elim⟩, ⟨fun h => absurd h (by decide), fun h => by cases h⟩, ⟨fun _ => trivial, fun _ => by decide⟩⟩
 | a :: l, b :: m => by
  obtain ⟨h1, h2, h3⟩ := ordN_spec l m
  obtain ⟨k1, k2, k3⟩ := cmpN_spec a b
  rw [nlt_cons, nlt_cons, List.cons.injEq]
  unfold ordN
  by_cases c : cmpN a b = 0
  ·rw [if_pos c]
   have e := k2.1 c
   subst e
   simp [h1, h2, h3, Ver.before_irrefl]
  ·rw [if_neg c]
   have e : a ≠ b := fun e => c (k2.2 e)
   refine ⟨⟨fun h => Or.inl (k1.1 h), fun h => k1.2 (h.resolve_right (fun q => e q.1))⟩, ⟨fun h => absurd h c, fun h => absurd h.1 e⟩, ⟨fun h => Or.inl (k3.1 h), fun h => k3.2 (h.resolve_right (fun q => e q.1.symm))⟩⟩
theorem order_spec {x y : Fr} (hl : x.v.length = y.v.length) : (order x y < 0 ↔ FLt x y) ∧ (order x y = 0 ↔ Keyd x y) ∧ (0 < order x y ↔ FLt y x) := by
 obtain ⟨h1, h2, h3⟩ := ordV_spec hl
 obtain ⟨k1, k2, k3⟩ := ordN_spec x.no y.no
 unfold order FLt Keyd
 by_cases c : ordV x.v y.v = 0
 ·rw [if_pos c]
  have e := h2.1 c
  rw [e]
  simp [k1, k2, k3, vlt_irrefl]
 ·rw [if_neg c]
  have e : x.v ≠ y.v := fun e => c (h2.2 e)
  refine ⟨⟨fun h => Or.inl (h1.1 h), fun h => h1.2 (h.resolve_right (fun q => e q.1))⟩, ⟨fun h => absurd h c, fun h => absurd h.1 e⟩, ⟨fun h => Or.inl (h3.1 h), fun h => h3.2 (h.resolve_right (fun q => e q.1.symm))⟩⟩
def tidy (x : Fr) : Fr := ⟨x.f, Vec.clean x.v, Ver.sort x.no⟩
def normF (x : Fr) : Fr := ⟨Flt.norm x.f, x.v, x.no⟩
def step (j : List Fr) (z : Fr) : List Fr :=
 match j.getLast? with
 | some y => if Keyd y z then j.dropLast ++ [⟨y.f ++ z.f, y.v, y.no⟩] else j ++ [z]
 | none => j ++ [z]
def joinAll (S : List Fr) : List Fr := S.foldl step []
theorem step_none (z : Fr) : step [] z = [z] := rfl
theorem step_same (j : List Fr) (y z : Fr) (h : Keyd y z) : step (j ++ [y]) z = j ++ [⟨y.f ++ z.f, y.v, y.no⟩] := by
 unfold step
 rw [List.getLast?_concat]
 show (if Keyd y z then _ else _) = _
 rw [if_pos h, List.dropLast_concat]
theorem step_new (j : List Fr) (y z : Fr) (h : ¬ Keyd y z) : step (j ++ [y]) z = j ++ [y] ++ [z] := by
 unfold step
 rw [List.getLast?_concat]
 show (if Keyd y z then _ else _) = _
 rw [if_neg h]
theorem join_take (S : List Fr) (n : Nat) (z : Fr) (h : S[n]? = some z) : joinAll (S.take (n + 1)) = step (joinAll (S.take n)) z := by
 obtain ⟨hl, e⟩ := List.getElem?_eq_some_iff.1 h
 unfold joinAll
 rw [List.take_succ_eq_append_getElem hl, e, List.foldl_append]
 rfl
def flat (T : List Fr) (v : List Int) (no : List V) : List Cl := (T.filter fun z => decide (z.v = v ∧ z.no = no)).flatMap (·.f)
theorem flat_more (T : List Fr) (z : Fr) (v : List Int) (no : List V) : flat (T ++ [z]) v no = flat T v no ++ if z.v = v ∧ z.no = no then z.f else [] := by
 unfold flat
 rw [List.filter_append, List.flatMap_append]
 congr 1
 by_cases h : z.v = v ∧ z.no = no
 ·rw [if_pos h]; simp [h]
 ·rw [if_neg h]
  have : ([z].filter fun z => decide (z.v = v ∧ z.no = no)) = [] := by
   rw [List.filter_cons, if_neg (by simpa using h)]; rfl
  rw [this]; rfl
theorem flat_none {T : List Fr} {v : List Int} {no : List V} (h : ∀ z ∈ T, ¬ (z.v = v ∧ z.no = no)) : flat T v no = [] := by
 unfold flat
 rw [List.filter_eq_nil_iff.2 (fun z hz => by simpa using h z hz)]; rfl
def ofKey (T : List Fr) (z : Fr) : Fr := ⟨flat T z.v z.no, z.v, z.no⟩
structure Joins (T j : List Fr) : Prop where
 up : j.Pairwise FLt
 mem : ∀ x, x ∈ j ↔ ∃ z ∈ T, x = ofKey T z
 last : ∀ j0 y, j = j0 ++ [y] → ∃ t ∈ T, Keyd t y
theorem joins_step {T j : List Fr} {z : Fr} (h : Joins T j) (hz : ∀ x ∈ T, ¬ FLt z x) (hl : ∀ x ∈ T, x.v.length = z.v.length) : Joins (T ++ [z]) (step j z) := by
 rcases List.eq_nil_or_concat j with rfl | ⟨j0, y, rfl⟩
 ·have hT : T = [] := by
   cases T with
   | nil => rfl
   | cons a T => have := (h.mem _).2 ⟨a, List.mem_cons_self .., rfl⟩; cases this
  subst hT
  rw [step_none]
  refine ⟨List.pairwise_singleton .., fun x => ?_, fun j0 y e => ?_⟩
  ·have e : ofKey [z] z = z := by
    unfold ofKey flat
    simp
   show x ∈ [z] ↔ ∃ w ∈ [z], x = ofKey [z] w
   constructor
   ·intro hx
    rw [List.mem_singleton.1 hx]
    exact ⟨z, List.mem_singleton.2 rfl, e.symm⟩
   ·rintro ⟨w, hw, hx⟩
    rw [List.mem_singleton.1 hw, e] at hx
    exact List.mem_singleton.2 hx
  ·have : j0 ++ [y] = [] ++ [z] := e.symm
   have e2 := (List.append_inj' this rfl).2
   injection e2 with e2
   exact ⟨z, List.mem_singleton.2 rfl, by rw [e2]; exact ⟨rfl, rfl⟩⟩
 ·rw [List.concat_eq_append] at h ⊢
  obtain ⟨t, ht, hty⟩ := h.last j0 y rfl
  have hup := List.pairwise_append.1 h.up
  have hj0 : ∀ x ∈ j0, FLt x y := fun x hx => hup.2.2 x hx y (List.mem_singleton.2 rfl)
  have hne0 : ∀ x ∈ j0, ¬ Keyd x y := fun x hx k => flt_irrefl y ((flt_key k ⟨rfl, rfl⟩).1 (hj0 x hx))
  obtain ⟨yz, hyz, hye⟩ := (h.mem y).1 (List.mem_append.2 (Or.inr (List.mem_singleton.2 rfl)))
  by_cases hk : Keyd y z
  ·rw [step_same _ _ _ hk]
   have hnew : (⟨y.f ++ z.f, y.v, y.no⟩ : Fr) = ofKey (T ++ [z]) z := by
    have hf : y.f = flat T yz.v yz.no := congrArg Fr.f hye
    have hv : y.v = yz.v := by rw [hye]; rfl
    have hn : y.no = yz.no := by rw [hye]; rfl
    unfold ofKey
    rw [flat_more, if_pos ⟨rfl, rfl⟩, hf, ← hv, ← hn, hk.1, hk.2]
   have hold : ∀ x ∈ j0, ∀ w, w ∈ T → x = ofKey T w → x = ofKey (T ++ [z]) w := by
    intro x hx w hw e
    rw [e]
    unfold ofKey
    rw [flat_more, if_neg, List.append_nil]
    rintro ⟨h1, h2⟩
    refine hne0 x hx ⟨?_, ?_⟩
    ·rw [hk.1, h1, e]; rfl
    ·rw [hk.2, h2, e]; rfl
   refine ⟨?_, fun x => ?_, fun a b e => ?_⟩
   ·refine List.pairwise_append.2 ⟨hup.1, List.pairwise_singleton .., fun x hx b hb => ?_⟩
    rw [List.mem_singleton.1 hb]
    exact (flt_key ⟨rfl, rfl⟩ ⟨rfl, rfl⟩).1 (hj0 x hx)
   ·constructor
    ·intro hx
     rcases List.mem_append.1 hx with hx | hx
     ·obtain ⟨w, hw, e⟩ := (h.mem x).1 (List.mem_append.2 (Or.inl hx))
      exact ⟨w, List.mem_append.2 (Or.inl hw), hold x hx w hw e⟩
     ·rw [List.mem_singleton.1 hx]
      exact ⟨z, List.mem_append.2 (Or.inr (List.mem_singleton.2 rfl)), hnew⟩
    ·rintro ⟨w, hw, e⟩
     by_cases hwz : Keyd w z
     ·refine List.mem_append.2 (Or.inr (List.mem_singleton.2 ?_))
      rw [e, hnew]
      unfold ofKey
      rw [hwz.1, hwz.2]
     ·have hwT : w ∈ T := by
       rcases List.mem_append.1 hw with hw | hw
       ·exact hw
       ·exact absurd (by rw [List.mem_singleton.1 hw]; exact ⟨rfl, rfl⟩) hwz
      have e2 : x = ofKey T w := by
       rw [e]
       unfold ofKey
       rw [flat_more, if_neg (fun q => hwz ⟨q.1.symm, q.2.symm⟩), List.append_nil]
      rcases List.mem_append.1 ((h.mem x).2 ⟨w, hwT, e2⟩) with hx | hx
      ·exact List.mem_append.2 (Or.inl hx)
      ·refine absurd ?_ hwz
       have hxy := List.mem_singleton.1 hx
       rw [e2] at hxy
       refine ⟨?_, ?_⟩
       ·rw [← hk.1, ← hxy]; rfl
       ·rw [← hk.2, ← hxy]; rfl
   ·have e2 := (List.append_inj' e rfl).2
    injection e2 with e2
    exact ⟨z, List.mem_append.2 (Or.inr (List.mem_singleton.2 rfl)), by rw [← e2]; exact ⟨hk.1.symm, hk.2.symm⟩⟩
  ·rw [step_new _ _ _ hk]
   have hlast : ¬ FLt z y := fun q => hz t ht ((flt_key ⟨rfl, rfl⟩ ⟨hty.1.symm, hty.2.symm⟩).1 q)
   have hnz : ∀ x ∈ j0 ++ [y], ¬ Keyd x z := by
    intro x hx q
    rcases List.mem_append.1 hx with hx | hx
    ·exact hlast ((flt_key q ⟨rfl, rfl⟩).1 (hj0 x hx))
    ·rw [List.mem_singleton.1 hx] at q
     exact hk q
   have hTz : ∀ w ∈ T, ¬ (w.v = z.v ∧ w.no = z.no) := fun w hw q => hnz _ ((h.mem _).2 ⟨w, hw, rfl⟩) ⟨q.1, q.2⟩
   have hsame : ∀ w ∈ T, ofKey (T ++ [z]) w = ofKey T w := by
    intro w hw
    unfold ofKey
    rw [flat_more, if_neg (fun q => hTz w hw ⟨q.1.symm, q.2.symm⟩), List.append_nil]
   have hnew : ofKey (T ++ [z]) z = z := by
    unfold ofKey
    rw [flat_more, if_pos ⟨rfl, rfl⟩, flat_none hTz, List.nil_append]
   refine ⟨?_, fun x => ?_, fun a b e => ?_⟩
   ·refine List.pairwise_append.2 ⟨h.up, List.pairwise_singleton .., fun x hx b hb => ?_⟩
    rw [List.mem_singleton.1 hb]
    obtain ⟨w, hw, e⟩ := (h.mem x).1 hx
    have hlw : x.v.length = z.v.length := by rw [e]; exact hl w hw
    rcases flt_or hlw (hnz x hx) with q | q
    ·exact q
    ·exact absurd ((flt_key ⟨rfl, rfl⟩ ⟨by rw [e]; rfl, by rw [e]; rfl⟩).1 q) (hz w hw)
   ·constructor
    ·intro hx
     rcases List.mem_append.1 hx with hx | hx
     ·obtain ⟨w, hw, e⟩ := (h.mem x).1 hx
      exact ⟨w, List.mem_append.2 (Or.inl hw), by rw [hsame w hw]; exact e⟩
     ·rw [List.mem_singleton.1 hx]
      exact ⟨z, List.mem_append.2 (Or.inr (List.mem_singleton.2 rfl)), hnew.symm⟩
    ·rintro ⟨w, hw, e⟩
     rcases List.mem_append.1 hw with hw | hw
     ·exact List.mem_append.2 (Or.inl ((h.mem x).2 ⟨w, hw, by rw [e, hsame w hw]⟩))
     ·rw [List.mem_singleton.1 hw, hnew] at e
      exact List.mem_append.2 (Or.inr (List.mem_singleton.2 e))
   ·have e2 := (List.append_inj' e rfl).2
    injection e2 with e2
    exact ⟨z, List.mem_append.2 (Or.inr (List.mem_singleton.2 rfl)), by rw [← e2]; exact ⟨rfl, rfl⟩⟩
def Sorted (S : List Fr) : Prop := S.Pairwise fun x y => ¬ FLt y x
theorem joins_all {S : List Fr} (hs : Sorted S) (hl : ∀ x ∈ S, x.v.length = 65) : Joins S (joinAll S) := by
 have : ∀ n, n ≤ S.length → Joins (S.take n) (joinAll (S.take n)) := by
  intro n
  induction n with
  | zero =>
   intro _
   rw [List.take_zero]
   exact ⟨List.Pairwise.nil, fun x => ⟨fun h => (by cases h), fun ⟨z, hz, _⟩ => (by cases hz)⟩, fun j0 y e => (by cases j0 <;> cases e)⟩
  | succ n ih =>
   intro hn
   have hz : S[n]? = some S[n] := List.getElem?_eq_getElem (by omega)
   rw [join_take S n _ hz, List.take_succ_eq_append_getElem (by omega)]
   refine joins_step (ih (by omega)) (fun x hx => ?_) (fun x hx => ?_)
   ·obtain ⟨i, hi⟩ := List.getElem?_of_mem hx
    have hin : i < n := by
     have := (List.getElem?_eq_some_iff.1 hi).1
     rw [List.length_take] at this; omega
    rw [List.getElem?_take, if_pos hin] at hi
    obtain ⟨h1, e⟩ := List.getElem?_eq_some_iff.1 hi
    rw [← e]
    exact List.pairwise_iff_getElem.1 hs i n h1 (by omega) hin
   ·rw [hl x (List.mem_of_mem_take hx), hl _ (List.getElem_mem ..)]
 have h := this S.length (Nat.le_refl _)
 rwa [List.take_length] at h
def zeros : List Int := List.replicate 65 0
def Top (l : List Fr) (i : Nat) (x : Fr) : Prop := x.f ≠ [] ∧ x.v ≠ zeros ∧ ∀ k y, l[k]? = some y → k ≠ i → ¬ Incl y x
theorem top_iff (l : List Fr) (i : Nat) (x : Fr) : (x.f ≠ [] ∧ x.v ≠ zeros ∧ ∀ k, k < l.length → k ≠ i → ∀ y ∈ l[k]?, ¬ Incl y x) ↔ Top l i x := by
 unfold Top
 refine and_congr_right (fun _ => and_congr_right (fun _ => ⟨fun h k y hk hne => h k (List.getElem?_eq_some_iff.1 hk).1 hne y hk, fun h k _ hne y hk => h k y hk hne⟩))
instance (l : List Fr) (i : Nat) (x : Fr) : Decidable (Top l i x) := decidable_of_iff _ (top_iff l i x)
def wideTo (l : List Fr) : Nat → List Fr
 | 0 => []
 | n + 1 => wideTo l n ++ match l[n]? with
  | some x => if Top l n x then [x] else []
  | none => []
theorem wide_yes {l : List Fr} {n : Nat} {x : Fr} (h : l[n]? = some x) (ht : Top l n x) : wideTo l (n + 1) = wideTo l n ++ [x] := by
 show wideTo l n ++ _ = _
 rw [h]
 show wideTo l n ++ (if Top l n x then [x] else []) = _
 rw [if_pos ht]
theorem wide_no {l : List Fr} {n : Nat} {x : Fr} (h : l[n]? = some x) (ht : ¬ Top l n x) : wideTo l (n + 1) = wideTo l n := by
 show wideTo l n ++ _ = _
 rw [h]
 show wideTo l n ++ (if Top l n x then [x] else []) = _
 rw [if_neg ht, List.append_nil]
theorem wide_mem (l : List Fr) (n : Nat) (x : Fr) : x ∈ wideTo l n ↔ ∃ i, i < n ∧ l[i]? = some x ∧ Top l i x := by
 induction n with
 | zero => exact ⟨fun h => (by cases h), fun ⟨i, hi, _⟩ => by omega⟩
 | succ n ih =>
  have hcase : ∀ L, x ∈ wideTo l n ++ L ↔ (∃ i, i < n ∧ l[i]? = some x ∧ Top l i x) ∨ x ∈ L := fun L => by rw [List.mem_append, ih]
  show x ∈ wideTo l n ++ _ ↔ _
  rw [hcase]
  constructor
  ·rintro (⟨i, hi, h⟩ | h)
   ·exact ⟨i, by omega, h⟩
   ·cases hn : l[n]? with
    | none => rw [hn] at h; cases h
    | some z =>
     rw [hn] at h
     have h : x ∈ if Top l n z then [z] else [] := h
     by_cases ht : Top l n z
     ·rw [if_pos ht] at h
      rw [List.mem_singleton.1 h]
      exact ⟨n, by omega, hn, ht⟩
     ·rw [if_neg ht] at h; cases h
  ·rintro ⟨i, hi, h1, h2⟩
   by_cases e : i = n
   ·subst e
    right
    rw [h1]
    show x ∈ if Top l i x then [x] else []
    rw [if_pos h2]
    exact List.mem_singleton.2 rfl
   ·exact Or.inl ⟨i, by omega, h1, h2⟩
theorem wide_sub (l : List Fr) (n : Nat) (hn : n ≤ l.length) : (wideTo l n).Sublist (l.take n) := by
 induction n with
 | zero => exact List.Sublist.refl _
 | succ n ih =>
  have hz : l[n]? = some l[n] := List.getElem?_eq_getElem (by omega)
  rw [List.take_succ_eq_append_getElem (by omega)]
  by_cases ht : Top l n l[n]
  ·rw [wide_yes hz ht]
   exact List.Sublist.append (ih (by omega)) (List.Sublist.refl _)
  ·rw [wide_no hz ht]
   exact List.Sublist.trans (ih (by omega)) (List.sublist_append_left _ _)
def wide (l : List Fr) : List Fr := wideTo l l.length
theorem wide_up {l : List Fr} (h : l.Pairwise FLt) : (wide l).Pairwise FLt := by
 have := wide_sub l l.length (Nat.le_refl _)
 rw [List.take_length] at this
 exact h.sublist this
theorem zeros_plain : Vec.Plain zeros := Vec.zero_plain
theorem zeros_none (y : V) : ¬ Vec.Has zeros y := by
 intro h
 rw [Vec.has_at] at h
 have h1 := h.1.2.2
 have h2 := h.2
 have hz : Vec.at_ zeros y.by_.toNat = 0 := by
  unfold Vec.at_ zeros
  rw [List.getElem?_replicate]
  split
  ·split <;> rfl
  ·rfl
 omega
theorem plain_some {v : List Int} (h : Vec.Plain v) : v ≠ zeros ↔ ∃ y, Vec.Has v y := by
 constructor
 ·intro hne
  refine Classical.byContradiction (fun hn => hne (Vec.plain_ext h zeros_plain (fun i => ?_)))
  have h0 := Vec.at_nonneg v i
  have hz : Vec.at_ zeros i = 0 := by
   unfold Vec.at_ zeros
   rw [List.getElem?_replicate]
   split
   ·split <;> rfl
   ·rfl
  rw [hz]
  by_cases hi : 1 ≤ i ∧ i ≤ 64
  ·refine Classical.byContradiction (fun e => hn ⟨⟨(i : Int), Vec.at_ v i⟩, ?_⟩)
   rw [Vec.has_at]
   refine ⟨⟨by show (1 : Int) ≤ (i : Int); omega, by show (i : Int) ≤ 64; omega, by show 1 ≤ Vec.at_ v i; omega⟩, ?_⟩
   show Vec.at_ v i ≤ Vec.at_ v ((i : Int)).toNat
   rw [Int.toNat_natCast]; exact Int.le_refl _
  ·exact Vec.at_zero v i hi
 ·rintro ⟨y, hy⟩ e
  rw [e] at hy
  exact zeros_none y hy
def whole_of (S : List Fr) : List Fr := wide ((joinAll S).map normF)
theorem flat_gather {l S : List Fr} (hS : S.Perm (l.map tidy)) (v : List Int) (no : List V) : Flt.Alike (flat S v no) (gather l v no) := by
 refine alike_of (fun p n => ?_)
 unfold flat
 rw [flat_has, gather_has]
 constructor
 ·rintro ⟨x, hx, h⟩
  obtain ⟨h1, h2⟩ := List.mem_filter.1 hx
  obtain ⟨z, hz, rfl⟩ := List.mem_map.1 (hS.mem_iff.1 h1)
  have h2 : Vec.clean z.v = v ∧ Ver.sort z.no = no := of_decide_eq_true h2
  exact ⟨z, hz, h2, h⟩
 ·rintro ⟨z, hz, hk, h⟩
  refine ⟨tidy z, List.mem_filter.2 ⟨hS.mem_iff.2 (List.mem_map.2 ⟨z, hz, rfl⟩), ?_⟩, h⟩
  exact decide_eq_true hk
theorem joined_mem {l S : List Fr} (hS : S.Perm (l.map tidy)) (hs : Sorted S) (hl : ∀ x ∈ l, x.v.length = 65) (x : Fr) : x ∈ (joinAll S).map normF ↔ ∃ z ∈ l, x = mk l z := by
 have hl' : ∀ x ∈ S, x.v.length = 65 := by
  intro x hx
  obtain ⟨z, hz, rfl⟩ := List.mem_map.1 (hS.mem_iff.1 hx)
  exact Vec.clean_len _
 have hj := joins_all hs hl'
 have hmk : ∀ z ∈ l, normF (ofKey S (tidy z)) = mk l z := by
  intro z hz
  show (⟨Flt.norm (flat S _ _), _, _⟩ : Fr) = ⟨Flt.norm (gather l _ _), _, _⟩
  rw [Flt.norm_same (flat_gather hS _ _)]
  rfl
 constructor
 ·intro hx
  obtain ⟨y, hy, rfl⟩ := List.mem_map.1 hx
  obtain ⟨t, ht, rfl⟩ := (hj.mem y).1 hy
  obtain ⟨z, hz, rfl⟩ := List.mem_map.1 (hS.mem_iff.1 ht)
  exact ⟨z, hz, hmk z hz⟩
 ·rintro ⟨z, hz, rfl⟩
  refine List.mem_map.2 ⟨ofKey S (tidy z), (hj.mem _).2 ⟨tidy z, hS.mem_iff.2 (List.mem_map.2 ⟨z, hz, rfl⟩), rfl⟩, hmk z hz⟩
theorem joined_up {l S : List Fr} (hS : S.Perm (l.map tidy)) (hs : Sorted S) : ((joinAll S).map normF).Pairwise FLt := by
 have hl' : ∀ x ∈ S, x.v.length = 65 := by
  intro x hx
  obtain ⟨z, hz, rfl⟩ := List.mem_map.1 (hS.mem_iff.1 hx)
  exact Vec.clean_len _
 rw [List.pairwise_map]
 exact (joins_all hs hl').up.imp (fun {a b} h => (flt_key ⟨rfl, rfl⟩ ⟨rfl, rfl⟩).1 h)
theorem mk_cand_iff (l : List Fr) {z : Fr} (hz : z ∈ l) : Cand l (mk l z) ↔ (mk l z).f ≠ [] ∧ (mk l z).v ≠ zeros := by
 rw [plain_some (show Vec.Plain (mk l z).v from Vec.clean_plain _)]
 constructor
 ·exact fun h => ⟨h.2.2.2.1, h.2.2.2.2.1⟩
 ·rintro ⟨h1, y, hy⟩
  obtain ⟨p, n, hn⟩ := norm_some h1
  obtain ⟨x, hx, hk, hxn⟩ := (gather_has l _ _ p n).1 hn
  have hm : mk l x = mk l z := by
   show (⟨Flt.norm (gather l _ _), _, _⟩ : Fr) = ⟨Flt.norm (gather l _ _), _, _⟩
   rw [hk.1, hk.2]
  rw [← hm]
  refine mk_cand hx ?_ hxn (y := y)
  rw [← Vec.has_clean, hk.1]
  exact hy
theorem whole_kept {l S : List Fr} (hS : S.Perm (l.map tidy)) (hs : Sorted S) (hl : ∀ x ∈ l, x.v.length = 65) (x : Fr) : x ∈ whole_of S ↔ Kept l x := by
 have hm := joined_mem hS hs hl
 have hu := joined_up hS hs
 unfold whole_of wide
 rw [wide_mem]
 generalize hJ : (joinAll S).map normF = J at *
 have huniq : ∀ (i k : Nat) (y : Fr), J[i]? = some y → J[k]? = some y → i = k := by
  intro i k y hi hk
  obtain ⟨h1, e1⟩ := List.getElem?_eq_some_iff.1 hi
  obtain ⟨h2, e2⟩ := List.getElem?_eq_some_iff.1 hk
  rcases Nat.lt_trichotomy i k with h | h | h
  ·have := List.pairwise_iff_getElem.1 hu i k h1 h2 h
   rw [e1, e2] at this
   exact absurd this (flt_irrefl y)
  ·exact h
  ·have := List.pairwise_iff_getElem.1 hu k i h2 h1 h
   rw [e1, e2] at this
   exact absurd this (flt_irrefl y)
 constructor
 ·rintro ⟨i, _, hi, h1, h2, h3⟩
  obtain ⟨z, hz, rfl⟩ := (hm x).1 (List.mem_of_getElem? hi)
  refine ⟨(mk_cand_iff l hz).2 ⟨h1, h2⟩, fun y hy hincl => ?_⟩
  obtain ⟨u, hu2, rfl⟩ := cand_mk hy
  obtain ⟨k, hk⟩ := List.getElem?_of_mem ((hm _).2 ⟨u, hu2, rfl⟩)
  by_cases e : k = i
  ·subst e
   rw [hi] at hk
   injection hk with hk
   exact hk.symm
  ·exact absurd hincl (h3 k _ hk e)
 ·rintro ⟨hc, ht⟩
  obtain ⟨z, hz, rfl⟩ := cand_mk hc
  obtain ⟨i, hi⟩ := List.getElem?_of_mem ((hm _).2 ⟨z, hz, rfl⟩)
  obtain ⟨h1, h2⟩ := (mk_cand_iff l hz).1 hc
  refine ⟨i, (List.getElem?_eq_some_iff.1 hi).1, hi, h1, h2, fun k y hk hne hincl => ?_⟩
  obtain ⟨u, hu2, rfl⟩ := (hm y).1 (List.mem_of_getElem? hk)
  have hyc : Cand l (mk l u) := by
   refine (mk_cand_iff l hu2).2 ⟨?_, ?_⟩
   ·obtain ⟨p, n, hn⟩ := norm_some (show Flt.norm (gather l _ _) ≠ [] from h1)
    exact has_some (hincl.1 p n ((norm_has p n).2 ((norm_has p n).1 (by rwa [norm_has]))))
   ·refine (plain_some (show Vec.Plain (mk l u).v from Vec.clean_plain _)).2 ?_
    obtain ⟨q, hq⟩ := (plain_some (show Vec.Plain (mk l z).v from Vec.clean_plain _)).1 h2
    exact ⟨q, (Vec.covers_has _ _).1 hincl.2.1 q hq⟩
  have e := ht _ hyc hincl
  rw [e] at hk
  exact hne (huniq k i _ hk hi)
def vecOf (l : List It) (item : V) : List Int := l.foldl (fun v i => if i.item = item then Vec.join v i.v else v) zeros
theorem vecOf_more (l : List It) (i : It) (item : V) : vecOf (l ++ [i]) item = if i.item = item then Vec.join (vecOf l item) i.v else vecOf l item := by
 unfold vecOf
 rw [List.foldl_append]
 rfl
theorem vecOf_spec (l : List It) (item : V) : Vec.Plain (vecOf l item) ∧ ∀ y, Vec.Has (vecOf l item) y ↔ ByItem l item y := by
 have : ∀ n, n ≤ l.length → Vec.Plain (vecOf (l.take n) item) ∧ ∀ y, Vec.Has (vecOf (l.take n) item) y ↔ ByItem (l.take n) item y := by
  intro n
  induction n with
  | zero =>
   intro _
   rw [List.take_zero]
   exact ⟨zeros_plain, fun y => ⟨fun h => absurd h (zeros_none y), fun ⟨i, hi, _⟩ => (by cases hi)⟩⟩
  | succ n ih =>
   intro hn
   obtain ⟨h1, h2⟩ := ih (by omega)
   rw [List.take_succ_eq_append_getElem (by omega), vecOf_more]
   have hby : ∀ y, ByItem (l.take n ++ [l[n]]) item y ↔ ByItem (l.take n) item y ∨ (l[n].item = item ∧ Vec.Has l[n].v y) := by
    intro y
    unfold ByItem
    constructor
    ·rintro ⟨i, hi, h⟩
     rcases List.mem_append.1 hi with hi | hi
     ·exact Or.inl ⟨i, hi, h⟩
     ·rw [List.mem_singleton.1 hi] at h; exact Or.inr h
    ·rintro (⟨i, hi, h⟩ | h)
     ·exact ⟨i, List.mem_append.2 (Or.inl hi), h⟩
     ·exact ⟨_, List.mem_append.2 (Or.inr (List.mem_singleton.2 rfl)), h⟩
   by_cases e : l[n].item = item
   ·rw [if_pos e]
    refine ⟨Vec.join_plain _ _, fun y => ?_⟩
    rw [Vec.has_join, hby, h2]
    simp [e]
   ·rw [if_neg e]
    refine ⟨h1, fun y => ?_⟩
    rw [hby, h2]
    simp [e]
 have h := this l.length (Nat.le_refl _)
 rwa [List.take_length] at h
def itemsOf (l : List It) : List V → List It
 | [] => []
 | x :: r => if vecOf l x = zeros then itemsOf l r else ⟨x, vecOf l x⟩ :: itemsOf l r
theorem itemsOf_more (l : List It) : ∀ (r : List V) (x : V), itemsOf l (r ++ [x]) = if vecOf l x = zeros then itemsOf l r else itemsOf l r ++ [⟨x, vecOf l x⟩]
 | [], x => by
  show itemsOf l [x] = _
  unfold itemsOf
  split <;> rfl
 | y :: r, x => by
  have ih := itemsOf_more l r x
  show itemsOf l (y :: (r ++ [x])) = _
  unfold itemsOf
  rw [ih]
  by_cases h : vecOf l x = zeros
  ·rw [if_pos h, if_pos h]
  ·rw [if_neg h, if_neg h]
   split <;> rfl
theorem itemsOf_mem (l : List It) : ∀ (r : List V) (i : It), i ∈ itemsOf l r ↔ i.item ∈ r ∧ i.v = vecOf l i.item ∧ i.v ≠ zeros
 | [], i => ⟨fun h => (by cases h), fun h => (by cases h.1)⟩
 | x :: r, i => by
  have ih := itemsOf_mem l r i
  unfold itemsOf
  by_cases h : vecOf l x = zeros
  ·rw [if_pos h, ih]
   constructor
   ·rintro ⟨h1, h2⟩
    exact ⟨List.mem_cons_of_mem _ h1, h2⟩
   ·rintro ⟨h1, h2, h3⟩
    rcases List.mem_cons.1 h1 with e | h1
    ·rw [e] at h2; exact absurd (h2.trans h) h3
    ·exact ⟨h1, h2, h3⟩
  ·rw [if_neg h, List.mem_cons, ih]
   constructor
   ·rintro (rfl | ⟨h1, h2⟩)
    ·exact ⟨List.mem_cons_self .., rfl, h⟩
    ·exact ⟨List.mem_cons_of_mem _ h1, h2⟩
   ·rintro ⟨h1, h2, h3⟩
    rcases List.mem_cons.1 h1 with e | h1
    ·left
     cases i
     simp only at e h2
     subst e
     rw [h2]
    ·exact Or.inr ⟨h1, h2, h3⟩
def items_of (l : List It) : List It := itemsOf l (Ver.sort (l.map (·.item)))
theorem items_kept (l : List It) (i : It) : i ∈ items_of l ↔ KeptI l i := by
 obtain ⟨hp, hh⟩ := vecOf_spec l i.item
 unfold items_of
 rw [itemsOf_mem, Ver.sort_mem]
 constructor
 ·rintro ⟨h1, h2, h3⟩
  rw [← h2] at hp hh
  exact ⟨hp, (plain_some hp).1 h3, hh⟩
 ·rintro ⟨h1, ⟨y, hy⟩, h3⟩
  obtain ⟨j, hj, e, _⟩ := (h3 y).1 hy
  refine ⟨List.mem_map.2 ⟨j, hj, e⟩, ?_, (plain_some h1).2 ⟨y, hy⟩⟩
  refine (Vec.plain_clean h1).symm.trans (((Vec.covers_anti _ _).1 ⟨?_, ?_⟩).trans (Vec.plain_clean hp))
  ·exact (Vec.covers_has _ _).2 (fun y hy => (h3 y).2 ((hh y).1 hy))
  ·exact (Vec.covers_has _ _).2 (fun y hy => (hh y).2 ((h3 y).1 hy))
theorem itemsOf_up (l : List It) : ∀ {r : List V}, Ver.Up r → (itemsOf l r).Pairwise ILt
 | [], _ => List.Pairwise.nil
 | x :: r, h => by
  have h' := List.pairwise_cons.1 h
  unfold itemsOf
  split
  ·exact itemsOf_up l h'.2
  ·refine List.pairwise_cons.2 ⟨fun i hi => ?_, itemsOf_up l h'.2⟩
   exact h'.1 _ ((itemsOf_mem l r i).1 hi).1
theorem items_up (l : List It) : (items_of l).Pairwise ILt := itemsOf_up l (Ver.sort_up _)
theorem canon_of {k : K} {S : List Fr} (hS : S.Perm (k.frags.map tidy)) (hs : Sorted S) (hl : ∀ x ∈ k.frags, x.v.length = 65) : Canon k ⟨whole_of S, items_of k.items⟩ :=
 ⟨whole_kept hS hs hl, items_kept k.items, wide_up (joined_up hS hs), items_up k.items⟩
end Go.Proofs.YtkcgmnhjofoeiaaGreat.Know
