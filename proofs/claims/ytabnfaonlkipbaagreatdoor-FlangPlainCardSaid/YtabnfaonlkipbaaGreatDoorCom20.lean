/- The landed filter's map in memory: values (slices) by texts; looks, stores. No order of entries is spoken of. -/
import Derived.Test.YtabnfaonlkipbaaGreatDoorCom6
import Derived.Test.YtabnfaonlkipbaaGreatDoorCom3
import Derived.Test.YtabnfaonlkipbaaGreatDoorCom2
import Derived.Test.YtabnfaonlkipbaaGreatDoorCom10
import Derived.Test.YtabnfaonlkipbaaGreatDoorCom1
import Derived.StringKeys
import Derived.Maps.OwnSet
import Derived.Lib.SlicesCompact
import Derived.Lib.Bytealg
import Derived.Lib.Join
import Derived.Lib.LastIndexByte
import Derived.Lib.Strings
set_option linter.unusedSimpArgs false
set_option linter.unusedVariables false
namespace Go.Proofs.YtabnfaonlkipbaaGreatDoor
open Go.RowKit

namespace Tm
def raw (v : Value) : Option (DataW Value × List MemPlace) := some (.held v, [])
abbrev Pr := List UInt8 × Value
abbrev Fn := List UInt8 → Option Value
def ent (p : Pr) : Lit × DataW Value := (.string p.1, .held p.2)
def datum (l : List Pr) : DataW Value := .map (l.map ent)
set_option maxRecDepth 100000 in
theorem same (a b : List UInt8) : Lit.sameKey (.string a) (.string b) = decide (a = b) := by
  show (a == b) = _
  rw [Bool.eq_iff_iff]; simp

/-- A list of entries tells such values. -/
def Tells (l : List Pr) (m : Fn) : Prop := ∀ k, (l.find? fun p => decide (p.1 = k)) = (m k).map fun v => (k, v)

def insP (x : Pr) : List Pr → List Pr
  | [] => [x]
  | y :: r => if bytesBefore x.1 y.1 = true then x :: y :: r else y :: insP x r
set_option maxRecDepth 100000 in
theorem insert_map (x : Pr) : ∀ l : List Pr, DataW.insert (ent x) (l.map ent) = (insP x l).map ent
  | [] => rfl
  | y :: l => by
    rw [List.map_cons]
    unfold DataW.insert insP
    have e : (ent x).1.before (ent y).1 = bytesBefore x.1 y.1 := rfl
    rw [e, insert_map x l]
    split <;> rfl
set_option maxRecDepth 100000 in
theorem insP_len (x : Pr) : ∀ l : List Pr, (insP x l).length = l.length + 1
  | [] => rfl
  | y :: l => by
    unfold insP
    split
    · rfl
    · rw [List.length_cons, insP_len x l, List.length_cons]
set_option maxRecDepth 100000 in
theorem insP_find (x : Pr) (q : List UInt8) : ∀ l : List Pr, (∀ p ∈ l, p.1 ≠ x.1) → (insP x l).find? (fun p => decide (p.1 = q)) = if q = x.1 then some x else l.find? fun p => decide (p.1 = q)
  | [], _ => by
    unfold insP
    rw [List.find?_cons]
    by_cases h : q = x.1
    · rw [if_pos h]; simp [h]
    · rw [if_neg h]
      have : decide (x.1 = q) = false := decide_eq_false (fun e => h e.symm)
      rw [this]
  | y :: l, hl => by
    have hy := hl y (by simp)
    have ih := insP_find x q l (fun p hp => hl p (List.mem_cons_of_mem _ hp))
    unfold insP
    split
    · rw [List.find?_cons]
      by_cases h : q = x.1
      · rw [if_pos h]; simp [h]
      · rw [if_neg h]
        have : decide (x.1 = q) = false := decide_eq_false (fun e => h e.symm)
        rw [this]
    · rw [List.find?_cons, ih]
      by_cases h : q = x.1
      · rw [if_pos h, if_pos h]
        have : decide (y.1 = q) = false := decide_eq_false (fun e => hy (by rw [e, h]))
        rw [this]
      · rw [if_neg h, if_neg h, List.find?_cons]

def set (m : Fn) (k : List UInt8) (v : Value) : Fn := fun q => if q = k then some v else m q
set_option maxRecDepth 100000 in
theorem filter_ent (l : List Pr) (k : List UInt8) : (l.map ent).filter (fun p => !p.1.sameKey (.string k)) = (l.filter fun p => decide (p.1 ≠ k)).map ent := by
  rw [List.filter_map]
  congr 1
  apply List.filter_congr
  intro x _
  show (!(Lit.sameKey (.string x.1) (.string k))) = _
  rw [same, decide_not]
set_option maxRecDepth 100000 in
theorem find_filter (l : List Pr) (k q : List UInt8) (h : q ≠ k) : (l.filter fun p => decide (p.1 ≠ k)).find? (fun p => decide (p.1 = q)) = l.find? fun p => decide (p.1 = q) := by
  rw [List.find?_filter]
  congr 1
  funext p
  by_cases e : p.1 = q
  · simp [e, h]
  · simp [e]
set_option maxRecDepth 100000 in
theorem Tells.put {l : List Pr} {m : Fn} (h : Tells l m) (k : List UInt8) (v : Value) : Tells (insP (k, v) (l.filter fun p => decide (p.1 ≠ k))) (set m k v) := by
  intro q
  rw [insP_find _ _ _ (fun p hp => by simpa using (List.mem_filter.1 hp).2)]
  unfold set
  by_cases e : q = k
  · subst e
    simp
  · rw [if_neg e, if_neg e, find_filter _ _ _ e]
    exact h q
set_option maxRecDepth 100000 in
theorem datum_put (l : List Pr) (k : List UInt8) (v : Value) : (datum l).put (.string k) (.held v) = datum (insP (k, v) (l.filter fun p => decide (p.1 ≠ k))) := by
  show DataW.map (DataW.insert (ent (k, v)) ((l.map ent).filter fun p => !p.1.sameKey (.string k))) = _
  rw [filter_ent, insert_map]
  rfl
set_option maxRecDepth 100000 in
theorem datum_at {l : List Pr} {m : Fn} (h : Tells l m) (k : List UInt8) (z : DataW Value) : (datum l).atKey (.string k) z = (match m k with | some v => .held v | none => z) := by
  have e : (l.map ent).find? (fun p => p.1.sameKey (.string k)) = (l.find? fun p => decide (p.1 = k)).map ent := by
    rw [List.find?_map]
    congr 2
    funext x
    exact same x.1 k
  unfold datum DataW.atKey
  simp only [e]
  rw [h k]
  cases m k <;> rfl
set_option maxRecDepth 100000 in
theorem datum_has {l : List Pr} {m : Fn} (h : Tells l m) (k : List UInt8) : Maps.has (datum l) (.string k) = (m k).isSome := by
  have h1 : (m k).isSome = (l.find? fun p => decide (p.1 = k)).isSome := by rw [h k]; cases m k <;> rfl
  rw [h1]
  unfold datum
  rw [Maps.has_eq, List.any_map]
  rw [Bool.eq_iff_iff, List.any_eq_true, List.find?_isSome]
  constructor
  · rintro ⟨x, hx, h⟩
    have h : (Lit.sameKey (.string x.1) (.string k)) = true := h
    rw [same] at h
    exact ⟨x, hx, h⟩
  · rintro ⟨x, hx, h⟩
    refine ⟨x, hx, ?_⟩
    show (Lit.sameKey (.string x.1) (.string k)) = true
    rw [same]; exact h

set_option maxRecDepth 100000 in
theorem keyed : Go.Maps.Keyed Tryz.prog 9 := Go.Maps.string_keyed Tryz.underlying9
set_option maxRecDepth 100000 in
theorem key {k : ByteArray} (h : k.size ≤ 9223372036854775807) : keyOf Tryz.prog 9 (.string k) = some (.string k.data.toList) := Go.WideMaps.keyOf_string_mk Tryz.underlying9 h
set_option maxRecDepth 100000 in
theorem zero (w : World) : (zeroValue 58).run Tryz.prog w = .ok (.slice none 0 0) w := by kernel_rfl
end Tm

/-- Block bm is a map that tells such values, of at most n entries. -/
def TmAt (w : World) (bm : Nat) (m : Tm.Fn) (n : Nat) : Prop := ∃ l, Tm.Tells l m ∧ l.length ≤ n ∧ w.ownsMap Tryz.prog 9 Tm.raw bm l.length (Tm.datum l)

section
variable {w w' : World} {bm n : Nat} {m : Tm.Fn} {F G : Nat → Prop}

set_option maxRecDepth 100000 in
theorem tm_tight {l : List Tm.Pr} {k : Nat} (h : w.ownsMap Tryz.prog 9 Tm.raw bm k (Tm.datum l)) : w.ownsMap Tryz.prog 9 Tm.raw bm l.length (Tm.datum l) := by
  obtain ⟨es, clock, hb, hf, hs, hD⟩ := h
  refine ⟨es, clock, hb, hf, ?_, hD⟩
  have h1 : Maps.size (Tm.datum l) = es.size := by rw [hD]; simp [Maps.size, length_sorted]
  have h2 : Maps.size (Tm.datum l) = l.length := by unfold Tm.datum; rw [Maps.size_eq, List.length_map]
  omega
set_option maxRecDepth 100000 in
theorem TmAt.lt (h : TmAt w bm m n) : bm < w.heap.size := by
  obtain ⟨l, -, -, h⟩ := h
  exact World.ownsMap.lt h
set_option maxRecDepth 100000 in
theorem TmAt.kept (h : TmAt w bm m n) (k : Kept G w w') (hd : ¬ G bm) : TmAt w' bm m n := by
  have hl := h.lt
  obtain ⟨l, h1, h2, es, clock, hb, r⟩ := h
  exact ⟨l, h1, h2, es, clock, (k.block bm hl hd).trans hb, r⟩
set_option maxRecDepth 100000 in
theorem TmAt.below (h : TmAt w bm m n) (k : Below w.heap.size w w') : TmAt w' bm m n := h.kept (Kept.ofBelow k (fun _ => False)) (fun h => h)
set_option maxRecDepth 100000 in
theorem TmAt.made (w : World) : TmAt (w.alloc (.map #[] 0)) w.heap.size (fun _ => none) 0 := ⟨[], fun _ => rfl, Nat.le_refl _, World.ownsMap_made w _ _ _⟩
set_option maxRecDepth 100000 in
theorem TmAt.look (h : TmAt w bm m n) {k : List UInt8} (hk : k.length ≤ 9223372036854775807) :
    (Instr.lookup 93 (.map (some bm)) (.string (mk k)) true).run Tryz.prog w = .ok (.tuple #[(match m k with | some v => v | none => .slice none 0 0), .bool (m k).isSome]) w := by
  obtain ⟨l, ht, -, h⟩ := h
  obtain ⟨v', ps, h1, h2⟩ := World.ownsMap.look_ok h Tm.keyed Tryz.underlying93 (Tm.zero w) (zd := .held (.slice none 0 0)) (zp := []) rfl (Tm.key (k := mk k) (by rw [mk_len]; exact hk))
  rw [mk_data, Tm.datum_has ht] at h1
  rw [h1]
  rw [mk_data, Tm.datum_at ht] at h2
  unfold Tm.raw at h2
  have e := congrArg Prod.fst (Option.some.inj h2)
  cases hg : m k with
  | none => rw [hg] at e; have e : DataW.held v' = .held _ := e; injection e with e; rw [e]
  | some v => rw [hg] at e; have e : DataW.held v' = .held _ := e; injection e with e; rw [e]
set_option maxRecDepth 100000 in
theorem TmAt.put (h : TmAt w bm m n) (hn : n < 1000000000) {k : List UInt8} (hk : k.length ≤ 9223372036854775807) (v : Value) :
    ∃ w', (Instr.mapUpdate 93 (.map (some bm)) (.string (mk k)) v).run Tryz.prog w = .ok () w' ∧ TmAt w' bm (Tm.set m k v) (n + 1) ∧ w.grownBy w' (some bm) := by
  obtain ⟨l, ht, hl, h⟩ := h
  obtain ⟨w', h1, h2, h3⟩ := World.ownsMap.update h Tm.keyed Tryz.underlying93 (by unfold maxLen; omega) (Tm.key (k := mk k) (by rw [mk_len]; exact hk)) (val := v) (d := .held v) (ps := []) rfl
  rw [mk_data, Tm.datum_put] at h2
  refine ⟨w', h1, ⟨_, ht.put k v, ?_, tm_tight h2⟩, h3⟩
  rw [Tm.insP_len]
  have := List.length_filter_le (fun p : Tm.Pr => decide (p.1 ≠ k)) l
  omega
end
end Go.Proofs.YtabnfaonlkipbaaGreatDoor
/- Filters, as the landed package goes about them, as plain data: sizes at prefixes that are known, and at those that are told by the one above; sorted prefixes without repeats. No program is spoken of. -/
set_option linter.unusedSimpArgs false
set_option linter.unusedVariables false
namespace Go.Proofs.YtabnfaonlkipbaaGreatDoor

namespace Pth
set_option maxRecDepth 100000 in
theorem parentTo_spec (a : Tx) : ∀ n, n ≤ a.length → (parentTo a n = [] ∧ ∀ j, j < n → a[j]? ≠ some 47) ∨ ∃ i, i < n ∧ a[i]? = some 47 ∧ parentTo a n = a.take i ∧ ∀ j, i < j → j < n → a[j]? ≠ some 47
  | 0, _ => Or.inl ⟨rfl, fun j hj => absurd hj (by omega)⟩
  | n + 1, hn => by
    unfold parentTo
    by_cases h : a[n]? = some 47
    · rw [if_pos h]
      exact Or.inr ⟨n, by omega, h, rfl, fun j h1 h2 => by omega⟩
    · rw [if_neg h]
      rcases parentTo_spec a n (by omega) with ⟨h1, h2⟩ | ⟨i, h1, h2, h3, h4⟩
      · refine Or.inl ⟨h1, fun j hj => ?_⟩
        by_cases e : j = n
        · rw [e]; exact h
        · exact h2 j (by omega)
      · refine Or.inr ⟨i, by omega, h2, h3, fun j hj hj2 => ?_⟩
        by_cases e : j = n
        · rw [e]; exact h
        · exact h4 j hj (by omega)
set_option maxRecDepth 100000 in
theorem parent_covers (q : Tx) : Covers (parent q) q := by
  rcases parentTo_spec q q.length (Nat.le_refl _) with ⟨h1, _⟩ | ⟨i, h1, h2, h3, _⟩
  · exact Or.inl h1
  · refine Or.inr (Or.inr ?_)
    have e : parent q = q.take i := h3
    have l : (q.take i).length = i := by rw [List.length_take]; omega
    rw [e, l]
    exact ⟨h1, rfl, h2⟩
set_option maxRecDepth 100000 in
theorem parent_short {q : Tx} (h : q ≠ []) : (parent q).length < q.length := by
  have hl : 0 < q.length := List.length_pos_iff.2 h
  rcases parentTo_spec q q.length (Nat.le_refl _) with ⟨h1, _⟩ | ⟨i, h1, h2, h3, _⟩
  · have e : parent q = [] := h1
    rw [e]; exact hl
  · have e : parent q = q.take i := h3
    rw [e, List.length_take]; omega
set_option maxRecDepth 100000 in
theorem not_covers_parent {q : Tx} (h : q ≠ []) : ¬ Covers q (parent q) := fun k => by have := covers_len k; have := parent_short h; omega
set_option maxRecDepth 100000 in
theorem covers_parent {k q : Tx} (hq : q ≠ []) (hk : k ≠ q) : Covers k q ↔ Covers k (parent q) := by
  constructor
  · rintro (h | h | ⟨l, t, s⟩)
    · exact Or.inl h
    · exact absurd h hk
    · rcases parentTo_spec q q.length (Nat.le_refl _) with ⟨_, h1⟩ | ⟨i, h1, h2, h3, h4⟩
      · exact absurd s (h1 _ l)
      · have e : parent q = q.take i := h3
        have hi : k.length ≤ i := Nat.le_of_not_lt (fun hlt => h4 _ hlt l s)
        rw [e]
        by_cases hki : k.length = i
        · rw [← hki, t]; exact covers_refl _
        · refine Or.inr (Or.inr ⟨by rw [List.length_take]; omega, by rw [List.take_take, Nat.min_eq_left hi]; exact t, by rw [List.getElem?_take, if_pos (by omega)]; exact s⟩)
  · intro h
    exact covers_trans h (parent_covers q)
set_option maxRecDepth 100000 in
theorem lt_append : ∀ (k r : Tx), r ≠ [] → k < k ++ r
  | [], [], h => absurd rfl h
  | [], x :: r, _ => List.nil_lt_cons _ _
  | x :: k, r, h => List.cons_lt_cons_iff.2 (Or.inr ⟨rfl, lt_append k r h⟩)
set_option maxRecDepth 100000 in
theorem covers_lt {k q : Tx} (h : Covers k q) (hk : k ≠ q) : k < q := by
  rcases h with h | h | ⟨l, t, s⟩
  · subst h
    cases q with
    | nil => exact absurd rfl hk
    | cons x q => exact List.nil_lt_cons _ _
  · exact absurd h hk
  · have := lt_append k (q.drop k.length) (fun e => by have := congrArg List.length e; simp at this; omega)
    have e : k ++ q.drop k.length = q := by
      have := List.take_append_drop k.length q
      rw [t] at this
      exact this
    rwa [e] at this
end Pth

namespace Flt
set_option maxRecDepth 100000 in
theorem norm_of_same {a b : List Sz.Rg} (h : ∀ n, Sz.holds a n = Sz.holds b n) : Sz.norm a = Sz.norm b := by unfold Sz.norm; rw [Sz.of_same h]
set_option maxRecDepth 100000 in
theorem norm_empty : Sz.norm [] = [] := by decide +kernel
set_option maxRecDepth 100000 in
theorem two_same {k : Nat} {a b c d : List Sz.Rg} (h1 : ∀ n, Sz.holds a n = Sz.holds b n) (h2 : ∀ n, Sz.holds c n = Sz.holds d n) : Sz.two k a c = Sz.two k b d := by
  unfold Sz.two
  congr 1
  refine List.map_congr_left (fun i _ => ?_)
  rw [h1, h2]

/-- The sizes at a prefix, in their normal form. -/
def lev (P : List Cl) (q : Tx) : List Sz.Rg := Sz.norm (sizes P q)
set_option maxRecDepth 100000 in
theorem lev_len (P : List Cl) (q : Tx) : (lev P q).length ≤ 202 := Sz.norm_len _
set_option maxRecDepth 100000 in
theorem lev_bd (P : List Cl) (q : Tx) : ∀ r ∈ lev P q, 0 ≤ r.1 ∧ r.1 ≤ r.2 ∧ r.2 ≤ 200 := (Sz.norm_nm _).bd
set_option maxRecDepth 100000 in
theorem lev_holds (P : List Cl) (q : Tx) (n : Int) : Sz.holds (lev P q) n = Sz.holds (sizes P q) n := Sz.norm_holds _ _
set_option maxRecDepth 100000 in
theorem lev_nil (q : Tx) : lev [] q = [] := norm_empty
set_option maxRecDepth 100000 in
theorem sizes_more (P : List Cl) (c : Cl) (q : Tx) : sizes (P ++ [c]) q = sizes P q ++ if Pth.Covers c.pre q then [rg c] else [] := by
  unfold sizes
  rw [List.filter_append, List.map_append]
  congr 1
  by_cases h : Pth.Covers c.pre q <;> simp [h]
set_option maxRecDepth 100000 in
theorem lev_same {P : List Cl} {c : Cl} {q : Tx} (h : ¬ Pth.Covers c.pre q) : lev (P ++ [c]) q = lev P q := by
  unfold lev
  rw [sizes_more, if_neg h, List.append_nil]
set_option maxRecDepth 100000 in
theorem lev_put (P : List Cl) (c : Cl) : lev (P ++ [c]) c.pre = Sz.two 0 (lev P c.pre) [rg c] := by
  unfold lev
  rw [sizes_more, if_pos (Pth.covers_refl _), Sz.join_is]
  exact two_same (fun n => (Sz.norm_holds _ n).symm) (fun _ => rfl)
set_option maxRecDepth 100000 in
theorem lev_skip {P : List Cl} {c : Cl} (h : ∃ r ∈ lev P c.pre, r.1 ≤ c.lo ∧ c.hi ≤ r.2) : lev (P ++ [c]) c.pre = lev P c.pre := by
  obtain ⟨r, hr, h1, h2⟩ := h
  unfold lev
  rw [sizes_more, if_pos (Pth.covers_refl _)]
  refine norm_of_same (fun n => ?_)
  rw [Sz.holds_append]
  cases hx : Sz.holds [rg c] n
  · simp
  · obtain ⟨hn, x, hx1, hx2⟩ := holds_mem.1 hx
    rw [List.mem_singleton] at hx1
    subst hx1
    have : Sz.holds (lev P c.pre) n = true := holds_mem.2 ⟨hn, r, hr, by simp only [rg] at hx2; omega⟩
    rw [lev_holds] at this
    rw [this]; rfl

/-- What is known at some prefixes tells what is at all. -/
def Fits (P : List Cl) (dom : Tx → Prop) : Prop := (∀ q, dom q → ∃ c ∈ P, c.pre = q) ∧ ∀ q, ¬ dom q → (q = [] → lev P [] = []) ∧ (q ≠ [] → lev P q = lev P (Pth.parent q))
set_option maxRecDepth 100000 in
theorem Fits.iff {P : List Cl} {dom dom' : Tx → Prop} (h : Fits P dom) (he : ∀ q, dom' q ↔ dom q) : Fits P dom' := ⟨fun q hq => h.1 q ((he q).1 hq), fun q hq => h.2 q (fun k => hq ((he q).2 k))⟩
set_option maxRecDepth 100000 in
theorem fits_start : Fits [] (fun _ => False) := ⟨fun q h => h.elim, fun q _ => ⟨fun _ => lev_nil _, fun _ => by rw [lev_nil, lev_nil]⟩⟩
set_option maxRecDepth 100000 in
theorem fits_none {P : List Cl} {c : Cl} {q : Tx} (hd : (q = [] → lev P [] = []) ∧ (q ≠ [] → lev P q = lev P (Pth.parent q))) (hq : q ≠ c.pre) : (q = [] → lev (P ++ [c]) [] = []) ∧ (q ≠ [] → lev (P ++ [c]) q = lev (P ++ [c]) (Pth.parent q)) := by
  constructor
  · intro e
    subst e
    rw [lev_same (fun h => hq (Pth.covers_anti (Pth.covers_nil _) h))]
    exact hd.1 rfl
  · intro hne
    have hc := Pth.covers_parent hne (k := c.pre) (fun e => hq e.symm)
    by_cases h : Pth.Covers c.pre q
    · have hp := hc.1 h
      unfold lev
      rw [sizes_more, sizes_more, if_pos h, if_pos hp]
      refine norm_of_same (fun n => ?_)
      rw [Sz.holds_append, Sz.holds_append, ← lev_holds P q, ← lev_holds P (Pth.parent q), hd.2 hne]
    · rw [lev_same h, lev_same (fun k => h (hc.2 k))]
      exact hd.2 hne
set_option maxRecDepth 100000 in
/-- Of what is known only the prefix at hand turns. -/
theorem lev_known {P : List Cl} {c : Cl} {dom : Tx → Prop} (h : Fits P dom) (up : ∀ d ∈ P, ¬ c.pre < d.pre) {q : Tx} (hq : dom q) (hne : q ≠ c.pre) : lev (P ++ [c]) q = lev P q := by
  refine lev_same (fun hc => ?_)
  obtain ⟨d, hd, rfl⟩ := h.1 q hq
  exact up d hd (Pth.covers_lt hc (fun e => hne e.symm))
set_option maxRecDepth 100000 in
theorem fits_put {P : List Cl} {c : Cl} {dom : Tx → Prop} (h : Fits P dom) : Fits (P ++ [c]) (fun q => q = c.pre ∨ dom q) := by
  refine ⟨fun q hq => ?_, fun q hq => fits_none (h.2 q (fun k => hq (Or.inr k))) (fun e => hq (Or.inl e))⟩
  rcases hq with rfl | hq
  · exact ⟨c, by simp, rfl⟩
  · obtain ⟨d, hd, e⟩ := h.1 q hq
    exact ⟨d, List.mem_append.2 (Or.inl hd), e⟩
set_option maxRecDepth 100000 in
theorem fits_skip {P : List Cl} {c : Cl} {dom : Tx → Prop} (h : Fits P dom) (hc : ∃ r ∈ lev P c.pre, r.1 ≤ c.lo ∧ c.hi ≤ r.2) : Fits (P ++ [c]) dom := by
  refine ⟨fun q hq => ?_, fun q hq => ?_⟩
  · obtain ⟨d, hd, e⟩ := h.1 q hq
    exact ⟨d, List.mem_append.2 (Or.inl hd), e⟩
  · by_cases hqc : q = c.pre
    · have hd := h.2 q hq
      constructor
      · intro e
        have := lev_skip hc
        rw [← hqc, e] at this
        rw [this]; exact hd.1 e
      · intro hne
        have h1 := lev_skip hc
        rw [← hqc] at h1
        rw [h1, lev_same (fun k => Pth.not_covers_parent hne (by rw [← hqc] at k; exact k))]
        exact hd.2 hne
    · exact fits_none (h.2 q hq) hqc
set_option maxRecDepth 100000 in
theorem lev_perm {S f : List Cl} (h : S.Perm f) (q : Tx) : lev S q = lev f q := norm_of_same (fun n => Sz.holds_perm ((h.filter _).map _) n)

/-! ### What a prefix has that those above have not -/
set_option maxRecDepth 100000 in
theorem piece_top (f : List Cl) : piece f [] = Sz.two 2 (lev f []) [] := by
  unfold piece
  refine two_same (fun n => (lev_holds f [] n).symm) (fun n => ?_)
  have : above f [] = [] := by
    unfold above
    rw [List.filter_eq_nil_iff]
    intro c _
    simp only [decide_eq_true_eq, not_and]
    intro h1 h2
    exact h1 (Pth.covers_anti h2 (Pth.covers_nil _))
  rw [this]
  rfl
set_option maxRecDepth 100000 in
theorem piece_under (f : List Cl) {p : Tx} (hp : p ≠ []) : piece f p = Sz.two 2 (lev f p) (lev f (Pth.parent p)) := by
  unfold piece
  refine two_same (fun n => (lev_holds f p n).symm) (fun n => ?_)
  rw [lev_holds, Bool.eq_iff_iff, sizes_holds, sizes_holds]
  refine and_congr_right (fun _ => ?_)
  constructor
  · rintro ⟨c, hc, h1, h2⟩
    obtain ⟨hc1, hc2⟩ := List.mem_filter.1 hc
    have hc2 : c.pre ≠ p ∧ Pth.Covers c.pre p := by simpa using hc2
    exact ⟨c, hc1, (Pth.covers_parent hp hc2.1).1 h1, h2⟩
  · rintro ⟨c, hc, h1, h2⟩
    have hne : c.pre ≠ p := fun e => Pth.not_covers_parent hp (by rw [e] at h1; exact h1)
    have hcp := (Pth.covers_parent hp hne).2 h1
    exact ⟨c, List.mem_filter.2 ⟨hc, by simp [hne, hcp]⟩, hcp, h2⟩

/-! ### Prefixes, sorted, each once -/
set_option maxRecDepth 100000 in
theorem compact_up {l : List Tx} (h : l.Pairwise (· ≤ ·)) : Up (Lib.compact l) := by
  have hle : ∀ i j, i ≤ j → j < l.length → l.toArray[i]! ≤ l.toArray[j]! := by
    intro i j hij hj
    rw [getElem!_pos l.toArray i (by simpa using Nat.lt_of_le_of_lt hij hj), getElem!_pos l.toArray j (by simpa using hj)]
    rcases Nat.eq_or_lt_of_le hij with e | e
    · subst e; exact List.le_refl _
    · exact List.pairwise_iff_getElem.1 h i j _ _ e
  unfold Up Lib.compact Lib.compactUpTo
  rw [List.pairwise_map]
  refine ((List.pairwise_lt_range).filter _).imp_of_mem ?_
  intro i j hi hj hij
  obtain ⟨hj1, hj2⟩ := List.mem_filter.1 hj
  have hjl := List.mem_range.1 hj1
  have hne : l.toArray[j]! ≠ l.toArray[j - 1]! := by
    rcases of_decide_eq_true hj2 with k | k
    · omega
    · exact k
  have h1 := hle i (j - 1) (by omega) (by omega)
  have h2 := hle (j - 1) j (by omega) hjl
  have h3 : l.toArray[j - 1]! < l.toArray[j]! := by
    rcases List.le_iff_lt_or_eq.1 h2 with k | k
    · exact k
    · exact absurd k.symm hne
  rcases List.le_iff_lt_or_eq.1 h1 with k | k
  · exact List.lt_trans k h3
  · rw [k]; exact h3
set_option maxRecDepth 100000 in
theorem compact_mem (l : List Tx) (x : Tx) : x ∈ Lib.compact l ↔ x ∈ l := by
  unfold Lib.compact Lib.compactUpTo
  rw [List.mem_map]
  constructor
  · rintro ⟨j, hj, rfl⟩
    have hjl := List.mem_range.1 (List.mem_filter.1 hj).1
    rw [getElem!_pos l.toArray j (by simpa using hjl)]
    simp
  · intro hx
    obtain ⟨j0, hj0, e0⟩ := List.getElem_of_mem hx
    -- the first place where it stands
    have : ∀ k, k < l.length → l.toArray[k]! = x → ∃ j, j < l.length ∧ l.toArray[j]! = x ∧ Lib.keeps l.toArray j = true := by
      intro k
      induction k with
      | zero => intro hk e; exact ⟨0, hk, e, by simp [Lib.keeps]⟩
      | succ k ih =>
        intro hk e
        by_cases hp : l.toArray[k]! = x
        · exact ih (by omega) hp
        · exact ⟨k + 1, hk, e, Lib.keeps_pos (by rw [e, Nat.add_sub_cancel]; exact fun h => hp h.symm)⟩
    obtain ⟨j, h1, h2, h3⟩ := this j0 hj0 (by rw [getElem!_pos l.toArray j0 (by simpa using hj0)]; simpa using e0)
    exact ⟨j, List.mem_filter.2 ⟨List.mem_range.2 h1, h3⟩, h2⟩
set_option maxRecDepth 100000 in
theorem prefixes_sorted (f : List Cl) : Lib.compact ((f.map (·.pre)).mergeSort fun x y => decide (x ≤ y)) = prefixes f := by
  have hs : ((f.map (·.pre)).mergeSort fun x y => decide (x ≤ y)).Pairwise (· ≤ ·) := by
    have := List.pairwise_mergeSort (le := fun x y : Tx => decide (x ≤ y)) (fun a b c h1 h2 => by simp only [decide_eq_true_eq] at *; exact List.le_trans h1 h2) (fun a b => by simp only [Bool.or_eq_true, decide_eq_true_eq]; exact List.le_total a b) (f.map (·.pre))
    exact this.imp (fun {a b} h => by simpa using h)
  refine up_same (compact_up hs) (prefixes_up f) (fun x => ?_)
  rw [compact_mem, (List.mergeSort_perm _ _).mem_iff, prefixes_mem, List.mem_map]
end Flt
end Go.Proofs.YtabnfaonlkipbaaGreatDoor
/- Paths as plain data, further: how many names and bytes there may be, counted name by name; what stands ahead of a /. No program is spoken of. -/
namespace Go.Proofs.YtabnfaonlkipbaaGreatDoor.Pth

/-- Each text with a / behind it. -/
def lens : List Tx → Nat
  | [] => 0
  | t :: l => t.length + 1 + lens l

set_option maxRecDepth 100000 in
theorem lens_append (a b : List Tx) : lens (a ++ b) = lens a + lens b := by
  induction a with
  | nil => simp [lens]
  | cons t a ih => simp only [List.cons_append, lens, ih]; omega

set_option maxRecDepth 100000 in
theorem lens_splitA (s : Tx) : ∀ cur, lens (splitA cur s) = cur.length + s.length + 1 := by
  induction s with
  | nil => intro cur; simp [splitA, lens]
  | cons c s ih =>
    intro cur
    unfold splitA
    split
    · simp only [lens, ih, List.length_nil, List.length_cons]; omega
    · rw [ih]; simp only [List.length_append, List.length_cons, List.length_nil]; omega

set_option maxRecDepth 100000 in
theorem splitA_step (cur : Tx) (c : UInt8) (s : Tx) : splitA cur (c :: s) = if c.toNat = 47 then cur :: splitA [] s else splitA (cur ++ [c]) s := by rw [splitA]

set_option maxRecDepth 100000 in
theorem splitA_no {s : Tx} (h : ∀ c ∈ s, c.toNat ≠ 47) : ∀ cur, splitA cur s = [cur ++ s] := by
  induction s with
  | nil => intro cur; simp [splitA]
  | cons c s ih =>
    intro cur
    unfold splitA
    rw [if_neg (h c (List.mem_cons_self ..)), ih (fun x hx => h x (List.mem_cons_of_mem _ hx))]
    simp

set_option maxRecDepth 100000 in
theorem splitA_at {a : Tx} (h : ∀ c ∈ a, c.toNat ≠ 47) (b : Tx) : ∀ cur, splitA cur (a ++ 47 :: b) = (cur ++ a) :: splitA [] b := by
  induction a with
  | nil =>
    intro cur
    show splitA cur (47 :: b) = _
    rw [splitA_step, if_pos (by decide)]; simp
  | cons c a ih =>
    intro cur
    show splitA cur (c :: (a ++ 47 :: b)) = _
    rw [splitA_step, if_neg (h c (List.mem_cons_self ..)), ih (fun x hx => h x (List.mem_cons_of_mem _ hx))]
    simp

set_option maxRecDepth 100000 in
theorem name_no {t : Tx} (h : Name t) : ∀ c ∈ t, c.toNat ≠ 47 := by
  intro c hc e
  have := h.1 c hc
  unfold okChar at this
  rw [e] at this
  revert this; decide

set_option maxRecDepth 100000 in
theorem split_join : ∀ {l : List Tx}, l ≠ [] → (∀ t ∈ l, ∀ c ∈ t, c.toNat ≠ 47) → split (join l) = l
  | [], h, _ => absurd rfl h
  | [a], _, h => by
    show splitA [] a = _
    rw [splitA_no (h a (by simp))]; simp
  | a :: b :: l, _, h => by
    show splitA [] (a ++ 47 :: join (b :: l)) = _
    rw [splitA_at (h a (by simp))]
    have := split_join (l := b :: l) (by simp) (fun t ht => h t (List.mem_cons_of_mem _ ht))
    unfold split at this
    rw [this]; simp

set_option maxRecDepth 100000 in
theorem join_lens : ∀ {l : List Tx}, l ≠ [] → (join l).length + 1 = lens l
  | [], h => absurd rfl h
  | [a], _ => by simp [join, lens]
  | a :: b :: l, _ => by
    have := join_lens (l := b :: l) (by simp)
    show (a ++ 47 :: join (b :: l)).length + 1 = a.length + 1 + lens (b :: l)
    rw [← this, List.length_append, List.length_cons]; omega

set_option maxRecDepth 100000 in
theorem join_lib : ∀ {l : List Tx}, l ≠ [] → Lib.join l [47] = join l
  | [], h => absurd rfl h
  | [a], _ => Lib.join_one a [47]
  | a :: b :: l, _ => by
    have := join_lib (l := b :: l) (by simp)
    rw [Lib.join_cons] at this ⊢
    show _ = a ++ 47 :: join (b :: l)
    rw [← this]
    simp [Lib.joinTail]

/-- What may come of those that came: so many names, so many bytes. -/
def Fit (d : List Tx) : Prop := (∀ t ∈ d, Name t) ∧ d.length ≤ 6 ∧ lens d ≤ 41

set_option maxRecDepth 100000 in
theorem fit_nil : Fit [] := ⟨by simp, by simp, by simp [lens]⟩

def Next (d : List Tx) (t : Tx) : Prop := Name t ∧ (0 : Int) ≤ (6 - (d.length : Int)) - 1 ∧ (0 : Int) ≤ (41 - (lens d : Int)) - ((t.length : Int) + 1)
instance (d : List Tx) (t : Tx) : Decidable (Next d t) := inferInstanceAs (Decidable (_ ∧ _))

set_option maxRecDepth 100000 in
theorem fit_next {d : List Tx} {t : Tx} (h : Fit d) (k : Next d t) : Fit (d ++ [t]) := by
  obtain ⟨h1, h2, h3⟩ := h
  obtain ⟨k1, k2, k3⟩ := k
  refine ⟨?_, ?_, ?_⟩
  · intro x hx
    rcases List.mem_append.1 hx with hx | hx
    · exact h1 x hx
    · rw [List.mem_singleton.1 hx]; exact k1
  · rw [List.length_append, List.length_singleton]; omega
  · rw [lens_append]; simp only [lens]; omega

set_option maxRecDepth 100000 in
theorem fit_not {d e : List Tx} {t : Tx} (k : ¬ Next d t) : ¬ Fit (d ++ t :: e) := by
  rintro ⟨h1, h2, h3⟩
  apply k
  rw [List.length_append, List.length_cons] at h2
  rw [lens_append] at h3
  simp only [lens] at h3
  exact ⟨h1 t (by simp), by omega, by omega⟩

set_option maxRecDepth 100000 in
theorem right_fit (s : Tx) : Right s ↔ Fit (split s) := by
  have h := lens_splitA s []
  rw [List.length_nil, Nat.zero_add] at h
  constructor
  · rintro ⟨h1, h2, h3⟩
    exact ⟨h1, h3, by unfold split; omega⟩
  · rintro ⟨h1, h2, h3⟩
    exact ⟨h1, by unfold split at h3; omega, h2⟩

set_option maxRecDepth 100000 in
theorem joins_fit {l : List Tx} (hl : l ≠ []) : Joins l ↔ Fit l := by
  constructor
  · rintro ⟨-, h1, h2⟩
    have := (right_fit _).1 h2
    rwa [split_join hl (fun t ht => name_no (h1 t ht))] at this
  · intro h
    refine ⟨hl, h.1, (right_fit _).2 ?_⟩
    rwa [split_join hl (fun t ht => name_no (h.1 t ht))]

/-! ### Ahead of a / -/
set_option maxRecDepth 100000 in
theorem index_cases : ∀ s : Tx, (Lib.indexByte s 47 = -1 ∧ ∀ c ∈ s, c.toNat ≠ 47) ∨ ∃ a b, s = a ++ 47 :: b ∧ (∀ c ∈ a, c.toNat ≠ 47) ∧ Lib.indexByte s 47 = (a.length : Int)
  | [] => Or.inl ⟨rfl, by simp⟩
  | c :: s => by
    by_cases hc : c = 47
    · subst hc
      exact Or.inr ⟨[], s, rfl, by simp, rfl⟩
    · have hc2 : c.toNat ≠ 47 := fun e => hc (UInt8.toNat_inj.1 e)
      have hb : (c == 47) = false := by rw [beq_eq_false_iff_ne]; exact hc
      rcases index_cases s with ⟨h1, h2⟩ | ⟨a, b, rfl, h2, h3⟩
      · refine Or.inl ⟨?_, ?_⟩
        · show (if c == 47 then 0 else if Lib.indexByte s 47 == -1 then -1 else Lib.indexByte s 47 + 1) = _
          rw [hb, h1]; rfl
        · intro x hx
          rcases List.mem_cons.1 hx with rfl | hx
          · exact hc2
          · exact h2 x hx
      · refine Or.inr ⟨c :: a, b, rfl, ?_, ?_⟩
        · intro x hx
          rcases List.mem_cons.1 hx with rfl | hx
          · exact hc2
          · exact h2 x hx
        · show (if c == 47 then 0 else if Lib.indexByte (a ++ 47 :: b) 47 == -1 then -1 else Lib.indexByte (a ++ 47 :: b) 47 + 1) = _
          rw [hb, h3]
          have : (((a.length : Nat) : Int) == -1) = false := by rw [beq_eq_false_iff_ne]; omega
          rw [this]
          simp

set_option maxRecDepth 100000 in
theorem parentTo_at {a : Tx} {i : Nat} (hi : a[i]? = some 47) : ∀ n, i < n → (∀ j, i < j → j < n → a[j]? ≠ some 47) → parentTo a n = a.take i
  | 0, h, _ => absurd h (by omega)
  | n + 1, h, hj => by
    unfold parentTo
    by_cases hn : i = n
    · subst hn; rw [if_pos hi]
    · rw [if_neg (hj n (by omega) (by omega))]
      exact parentTo_at hi n (by omega) (fun j h1 h2 => hj j h1 (by omega))

set_option maxRecDepth 100000 in
theorem parentTo_no {a : Tx} : ∀ n, (∀ j, j < n → a[j]? ≠ some 47) → parentTo a n = []
  | 0, _ => rfl
  | n + 1, hj => by
    unfold parentTo
    rw [if_neg (hj n (by omega))]
    exact parentTo_no n (fun j h => hj j (by omega))

set_option maxRecDepth 100000 in
theorem last_cases (s : ByteArray) : (Lib.lastIndexByte s 47 = -1 ∧ parent s.data.toList = []) ∨ ∃ i : Nat, i ≤ s.size ∧ Lib.lastIndexByte s 47 = (i : Int) ∧ parent s.data.toList = s.data.toList.take i := by
  have key : ∀ j, j < s.size → (s.data.toList[j]? = some 47 ↔ ((s.data[j]!).toNat : Int) = 47) := by
    intro j hj
    have hj' : j < s.data.size := hj
    rw [Array.getElem?_toList, Array.getElem?_eq_getElem hj', getElem!_pos s.data j hj']
    constructor
    · intro h; injection h with h; rw [h]; rfl
    · intro h
      congr 1
      apply UInt8.toNat_inj.1
      show _ = 47
      omega
  have hl : s.data.toList.length = s.size := (Lib.size_eq s).symm
  unfold parent
  rw [hl]
  rcases Lib.lastIdx_spec s 47 s.size with ⟨h1, h2⟩ | ⟨i, hi, h1, h2, h3⟩
  · refine Or.inl ⟨h1, parentTo_no _ (fun j hj e => h2 j hj ((key j hj).1 e))⟩
  · refine Or.inr ⟨i, by omega, h1, parentTo_at ((key i hi).2 h2) _ hi (fun j h4 h5 e => h3 j h4 h5 ((key j h5).1 e))⟩
end Go.Proofs.YtabnfaonlkipbaaGreatDoor.Pth
