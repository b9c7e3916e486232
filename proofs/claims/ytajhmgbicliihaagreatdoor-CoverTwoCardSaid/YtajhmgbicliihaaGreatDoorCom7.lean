/- Filters against filters, as the landed package goes about them, as plain data: the ranges of each prefix alone, those from a prefix up, the clauses that are left; how many these are. No program is spoken of. -/
import Derived.Test.YtajhmgbicliihaaGreatDoorCom2
import Derived.Test.YtajhmgbicliihaaGreatDoorCom3
import Derived.Test.YtajhmgbicliihaaGreatDoorCom6
import Derived.OrdersHeld
import Derived.Tactics
import Derived.Deep.RegionHeld
set_option linter.unusedSimpArgs false
set_option linter.unusedVariables false
namespace Go.Proofs.YtajhmgbicliihaaGreatDoor.Cov
open Flt (Tx Cl sizes prefixes norm)

/-- The ranges that clauses have at just this prefix. -/
def own (L : List Cl) (p : Tx) : List Sz.Rg := (L.filter fun c => decide (c.pre = p)).map Flt.rg
set_option maxRecDepth 100000 in
theorem own_more (L : List Cl) (c : Cl) (q : Tx) : own (L ++ [c]) q = own L q ++ if c.pre = q then [Flt.rg c] else [] := by
  unfold own
  rw [List.filter_append, List.map_append]
  congr 1
  by_cases h : c.pre = q <;> simp [h]
set_option maxRecDepth 100000 in
theorem own_take {L : List Cl} {n : Nat} {c : Cl} (hc : L[n]? = some c) (q : Tx) : own (L.take (n + 1)) q = own (L.take n) q ++ if c.pre = q then [Flt.rg c] else [] := by
  obtain ⟨h1, h2⟩ := List.getElem?_eq_some_iff.1 hc
  rw [List.take_succ_eq_append_getElem h1, h2, own_more]
set_option maxRecDepth 100000 in
theorem own_len (L : List Cl) (q : Tx) : (own L q).length ≤ L.length := by
  unfold own
  rw [List.length_map]
  exact List.length_filter_le _ _
set_option maxRecDepth 100000 in
theorem own_holds (L : List Cl) (p : Tx) (n : Int) : Sz.holds (own L p) n = true ↔ (0 ≤ n ∧ n ≤ 200) ∧ ∃ c ∈ L, c.pre = p ∧ c.lo ≤ n ∧ n ≤ c.hi := by
  rw [Flt.holds_mem]
  refine and_congr_right (fun _ => ?_)
  unfold own
  constructor
  · rintro ⟨r, hr, h⟩
    obtain ⟨c, hc, rfl⟩ := List.mem_map.1 hr
    obtain ⟨h1, h2⟩ := List.mem_filter.1 hc
    exact ⟨c, h1, of_decide_eq_true h2, h⟩
  · rintro ⟨c, hc, h1, h2⟩
    exact ⟨Flt.rg c, List.mem_map.2 ⟨c, List.mem_filter.2 ⟨hc, decide_eq_true h1⟩, rfl⟩, h2⟩
set_option maxRecDepth 100000 in
theorem own_bd {L : List Cl} (h : ∀ c ∈ L, 0 ≤ c.lo ∧ c.lo ≤ c.hi ∧ c.hi ≤ 200) (p : Tx) : ∀ r ∈ own L p, 0 ≤ r.1 ∧ r.1 ≤ r.2 ∧ r.2 ≤ 200 := by
  intro r hr
  obtain ⟨c, hc, rfl⟩ := List.mem_map.1 hr
  exact h c (List.mem_filter.1 hc).1

set_option maxRecDepth 100000 in
theorem own_flat (h : Tx → List Sz.Rg) (q : Tx) : ∀ l : List Tx, l.Nodup → own (l.flatMap fun p => Flt.clauses p (h p)) q = if q ∈ l then h q else []
  | [], _ => rfl
  | p :: l, hl => by
    obtain ⟨h1, h2⟩ := List.nodup_cons.1 hl
    have ih := own_flat h q l h2
    have hc : own (Flt.clauses p (h p)) q = if p = q then h p else [] := by
      unfold own Flt.clauses
      by_cases e : p = q
      · rw [if_pos e, List.filter_map, List.map_map]
        have : ((fun c : Cl => decide (c.pre = q)) ∘ fun r : Sz.Rg => (⟨p, r.1, r.2⟩ : Cl)) = fun _ => true := by funext r; simp [e]
        rw [this, List.filter_eq_self.2 (fun _ _ => rfl)]
        exact List.map_id' _
      · rw [if_neg e, List.filter_map]
        have : ((fun c : Cl => decide (c.pre = q)) ∘ fun r : Sz.Rg => (⟨p, r.1, r.2⟩ : Cl)) = fun _ => false := by funext r; simp [e]
        rw [this, List.filter_eq_nil_iff.2 (fun _ _ => by simp)]
        rfl
    have ha : own ((p :: l).flatMap fun p => Flt.clauses p (h p)) q = own (Flt.clauses p (h p)) q ++ own (l.flatMap fun p => Flt.clauses p (h p)) q := by
      unfold own
      rw [List.flatMap_cons, List.filter_append, List.map_append]
    rw [ha, hc, ih]
    by_cases e : p = q
    · subst e
      rw [if_pos rfl, if_neg h1, if_pos (List.mem_cons_self ..), List.append_nil]
    · rw [if_neg e, List.nil_append]
      by_cases hq : q ∈ l
      · rw [if_pos hq, if_pos (List.mem_cons_of_mem _ hq)]
      · rw [if_neg hq, if_neg (fun hm => (List.mem_cons.1 hm).elim (fun h => e h.symm) hq)]
set_option maxRecDepth 100000 in
theorem up_nodup {l : List Tx} (h : Flt.Up l) : l.Nodup := h.imp (fun {a b} hab e => by subst e; exact Flt.tlt_irrefl _ hab)
set_option maxRecDepth 100000 in
theorem own_norm (f : List Cl) (q : Tx) : own (norm f) q = if q ∈ prefixes f then Flt.piece f q else [] := own_flat _ q _ (up_nodup (Flt.prefixes_up f))
set_option maxRecDepth 100000 in
theorem own_norm_len (f : List Cl) (q : Tx) : (own (norm f) q).length ≤ 202 := by
  rw [own_norm]
  split
  · exact Flt.piece_len f q
  · simp
set_option maxRecDepth 100000 in
theorem norm_bd {f : List Cl} : ∀ c ∈ norm f, 0 ≤ c.lo ∧ c.lo ≤ c.hi ∧ c.hi ≤ 200 := fun c hc => Sz.formR_bd _ 0 none (by simp) (fun lo h => by cases h) _ (Flt.norm_mem.1 hc)

/-! ### From a prefix up -/
/-- X are the ranges of the prefixes from p up to q. -/
def Ups (L : List Cl) (p q : Tx) (X : List Sz.Rg) : Prop := Pth.Covers q p ∧ X.length ≤ 202 * (p.length - q.length + 1) ∧ (∀ r ∈ X, 0 ≤ r.1 ∧ r.1 ≤ r.2 ∧ r.2 ≤ 200) ∧ ∀ n, Sz.holds X n = true ↔ (0 ≤ n ∧ n ≤ 200) ∧ ∃ c ∈ L, Pth.Covers c.pre p ∧ q.length ≤ c.pre.length ∧ c.lo ≤ n ∧ n ≤ c.hi
set_option maxRecDepth 100000 in
theorem covers_same {a b : Tx} (h : Pth.Covers a b) (hl : b.length ≤ a.length) : a = b := by
  rcases h with h | h | h
  · subst h
    exact (List.eq_nil_of_length_eq_zero (by have h8 : ([] : Tx).length = 0 := rfl; omega)).symm
  · exact h
  · omega
set_option maxRecDepth 100000 in
theorem ups_start {L : List Cl} (h : ∀ q, (own L q).length ≤ 202) (hb : ∀ c ∈ L, 0 ≤ c.lo ∧ c.lo ≤ c.hi ∧ c.hi ≤ 200) (p : Tx) : Ups L p p (own L p) := by
  refine ⟨Pth.covers_refl _, by have := h p; omega, own_bd hb p, fun n => ?_⟩
  rw [own_holds]
  refine and_congr_right (fun _ => ?_)
  constructor
  · rintro ⟨c, hc, h1, h2⟩
    exact ⟨c, hc, by rw [h1]; exact Pth.covers_refl _, by rw [h1]; exact Nat.le_refl _, h2⟩
  · rintro ⟨c, hc, h1, h2, h3⟩
    exact ⟨c, hc, covers_same h1 h2, h3⟩
set_option maxRecDepth 100000 in
theorem ups_step {L : List Cl} (h : ∀ q, (own L q).length ≤ 202) (hb : ∀ c ∈ L, 0 ≤ c.lo ∧ c.lo ≤ c.hi ∧ c.hi ≤ 200) {p q : Tx} {X : List Sz.Rg} (hq : q ≠ []) (hX : Ups L p q X) : Ups L p (Pth.parent q) (X ++ own L (Pth.parent q)) := by
  obtain ⟨h1, h2, h3, h4⟩ := hX
  have hs := Pth.parent_short hq
  have hc := Pth.parent_covers q
  refine ⟨Pth.covers_trans hc h1, ?_, fun r hr => ?_, fun n => ?_⟩
  · rw [List.length_append]
    have := h (Pth.parent q)
    have := Pth.covers_len h1
    omega
  · rcases List.mem_append.1 hr with hr | hr
    · exact h3 r hr
    · exact own_bd hb _ r hr
  · rw [Sz.holds_append, Bool.or_eq_true, h4, own_holds, ← and_or_left]
    refine and_congr_right (fun _ => ?_)
    constructor
    · rintro (⟨c, hc1, k1, k2, k3⟩ | ⟨c, hc1, k1, k2⟩)
      · exact ⟨c, hc1, k1, by omega, k3⟩
      · exact ⟨c, hc1, by rw [k1]; exact Pth.covers_trans hc h1, by rw [k1]; exact Nat.le_refl _, k2⟩
    · rintro ⟨c, hc1, k1, k2, k3⟩
      by_cases hl : q.length ≤ c.pre.length
      · exact Or.inl ⟨c, hc1, k1, hl, k3⟩
      · have k4 := Flt.covers_both k1 h1 (by omega)
        have k5 := (Pth.covers_parent hq (fun e => hl (by rw [e]; exact Nat.le_refl _))).1 k4
        exact Or.inr ⟨c, hc1, covers_same k5 k2, k3⟩
set_option maxRecDepth 100000 in
theorem ups_end {L : List Cl} {p : Tx} {X : List Sz.Rg} (h : Ups L p [] X) (n : Int) : Sz.holds X n = Sz.holds (sizes L p) n := by
  rw [Bool.eq_iff_iff, h.2.2.2 n, Flt.sizes_holds]
  refine and_congr_right (fun _ => exists_congr fun c => and_congr_right fun _ => ?_)
  exact ⟨fun k => ⟨k.1, k.2.2⟩, fun k => ⟨k.1, Nat.zero_le _, k.2⟩⟩

/-! ### The clauses that are left -/
def leaf (k : Nat) (g : List Cl) (c : Cl) : List Cl := Flt.clauses c.pre (Sz.two k [Flt.rg c] (sizes g c.pre))
def parts (k : Nat) (f g : List Cl) : List Cl := (norm f).flatMap (leaf k g)
def partsTo (k : Nat) (f g : List Cl) (n : Nat) : List Cl := ((norm f).take n).flatMap (leaf k g)
set_option maxRecDepth 100000 in
theorem parts_left (f g : List Cl) : parts 2 f g = left f g := rfl
set_option maxRecDepth 100000 in
theorem partsTo_more {k : Nat} {f g : List Cl} {n : Nat} {c : Cl} (h : (norm f)[n]? = some c) : partsTo k f g (n + 1) = partsTo k f g n ++ leaf k g c := by
  obtain ⟨hl, he⟩ := List.getElem?_eq_some_iff.1 h
  unfold partsTo
  rw [List.take_succ_eq_append_getElem hl, he, List.flatMap_append]
  simp
set_option maxRecDepth 100000 in
theorem partsTo_all (k : Nat) (f g : List Cl) : partsTo k f g (norm f).length = parts k f g := by
  unfold partsTo parts
  rw [List.take_length]

set_option maxRecDepth 100000 in
theorem wide_len : ∀ {l : List Sz.Rg}, (∀ r ∈ l, r.1 ≤ r.2) → (l.length : Int) ≤ Sz.wide l
  | [], _ => by simp [Sz.wide]
  | r :: l, h => by
    have h1 := h r (List.mem_cons_self ..)
    have h2 := wide_len (l := l) (fun x hx => h x (List.mem_cons_of_mem _ hx))
    unfold Sz.wide at h2 ⊢
    rw [List.map_cons, List.sum_cons, List.length_cons]
    omega
set_option maxRecDepth 100000 in
theorem two_wide (k : Nat) (a b : List Sz.Rg) : Sz.wide (Sz.two k a b) = ((((List.range 201).map fun (i : Nat) => Sz.pick k (Sz.holds a (i : Int)) (Sz.holds b (i : Int))).filter id).length : Int) := by
  unfold Sz.two Sz.form
  rw [Sz.formR_wide _ 0 none (fun lo h => by cases h)]
  simp
set_option maxRecDepth 100000 in
theorem two_wide_le (k : Nat) (a b : List Sz.Rg) : Sz.wide (Sz.two k a b) ≤ 201 := by
  rw [two_wide]
  have := List.length_filter_le id ((List.range 201).map fun (i : Nat) => Sz.pick k (Sz.holds a (i : Int)) (Sz.holds b (i : Int)))
  rw [List.length_map, List.length_range] at this
  omega
set_option maxRecDepth 100000 in
theorem filter_map_le {α : Type} (p q : α → Bool) : ∀ l : List α, (∀ x ∈ l, p x = true → q x = true) → ((l.map p).filter id).length ≤ ((l.map q).filter id).length
  | [], _ => by simp
  | x :: l, h => by
    have ih := filter_map_le p q l (fun y hy => h y (List.mem_cons_of_mem _ hy))
    have hx := h x (List.mem_cons_self ..)
    rw [List.map_cons, List.map_cons]
    cases hp : p x
    · cases hq : q x
      · simpa using ih
      · simp at ih ⊢; omega
    · rw [hx hp]
      simp at ih ⊢; omega
set_option maxRecDepth 100000 in
theorem two_one_len {k : Nat} (hk : k = 1 ∨ k = 2) {r : Sz.Rg} (hr : 0 ≤ r.1 ∧ r.1 ≤ r.2 ∧ r.2 ≤ 200) (b : List Sz.Rg) : ((Sz.two k [r] b).length : Int) ≤ r.2 - r.1 + 1 := by
  refine Int.le_trans (wide_len (fun x hx => (Sz.formR_bd _ 0 none (by simp) (fun lo h => by cases h) x hx).2.1)) ?_
  have hn : [r] = Sz.norm [r] := Sz.norm_is (l := [r]) (m := [r]) ⟨hr.1, hr.2.1, hr.2.2, trivial⟩ (fun _ => rfl)
  have hw := Sz.form_wide [r]
  rw [← hn] at hw
  have e : Sz.wide [r] = r.2 - r.1 + 1 := by simp [Sz.wide]
  rw [← e, hw, two_wide]
  have := filter_map_le (fun (i : Nat) => Sz.pick k (Sz.holds [r] (i : Int)) (Sz.holds b (i : Int))) (fun (i : Nat) => Sz.holds [r] (i : Int)) (List.range 201) (fun i _ h => by
    unfold Sz.pick at h
    rcases hk with rfl | rfl
    · simp at h; exact h.1
    · simp at h; exact h.1)
  unfold Sz.many Sz.of
  omega
set_option maxRecDepth 100000 in
theorem leaves_len {k : Nat} (hk : k = 1 ∨ k = 2) (g : List Cl) (p : Tx) : ∀ l : List Sz.Rg, (∀ r ∈ l, 0 ≤ r.1 ∧ r.1 ≤ r.2 ∧ r.2 ≤ 200) → (((Flt.clauses p l).flatMap (leaf k g)).length : Int) ≤ Sz.wide l
  | [], _ => by simp [Flt.clauses, Sz.wide]
  | r :: l, h => by
    have ih := leaves_len hk g p l (fun x hx => h x (List.mem_cons_of_mem _ hx))
    have h1 := two_one_len hk (h r (List.mem_cons_self ..)) (sizes g p)
    have e : (Flt.clauses p (r :: l)).flatMap (leaf k g) = leaf k g ⟨p, r.1, r.2⟩ ++ (Flt.clauses p l).flatMap (leaf k g) := rfl
    have e2 : (leaf k g ⟨p, r.1, r.2⟩).length = (Sz.two k [r] (sizes g p)).length := by
      unfold leaf Flt.clauses
      rw [List.length_map]
      rfl
    rw [e, List.length_append, e2]
    unfold Sz.wide at ih ⊢
    rw [List.map_cons, List.sum_cons]
    omega
set_option maxRecDepth 100000 in
theorem parts_len {k : Nat} (hk : k = 1 ∨ k = 2) (f g : List Cl) : (parts k f g).length ≤ (prefixes f).length * 201 := by
  have : parts k f g = (prefixes f).flatMap fun p => (Flt.clauses p (Flt.piece f p)).flatMap (leaf k g) := by
    unfold parts norm
    rw [List.flatMap_assoc]
  rw [this]
  refine Flt.flat_len _ 201 _ (fun p _ => ?_)
  have h1 := leaves_len hk g p (Flt.piece f p) (fun r hr => Sz.formR_bd _ 0 none (by simp) (fun lo h => by cases h) r hr)
  have h2 := two_wide_le 2 (sizes f p) (sizes (Flt.above f p) p)
  have h3 : Sz.wide (Flt.piece f p) ≤ 201 := h2
  omega
set_option maxRecDepth 100000 in
theorem partsTo_len {k : Nat} (hk : k = 1 ∨ k = 2) (f g : List Cl) (n : Nat) : (partsTo k f g n).length ≤ (prefixes f).length * 201 := by
  refine Nat.le_trans ?_ (parts_len hk f g)
  have : parts k f g = partsTo k f g n ++ ((norm f).drop n).flatMap (leaf k g) := by
    unfold parts partsTo
    rw [← List.flatMap_append, List.take_append_drop]
  rw [this, List.length_append]
  omega
set_option maxRecDepth 100000 in
theorem leaf_right {k : Nat} {f g : List Cl} {c d : Cl} (hc : c ∈ norm f) (hd : d ∈ leaf k g c) : d.pre = c.pre ∧ 0 ≤ d.lo ∧ d.lo ≤ d.hi ∧ d.hi ≤ 200 := by
  unfold leaf Flt.clauses at hd
  obtain ⟨r, hr, rfl⟩ := List.mem_map.1 hd
  exact ⟨rfl, Sz.formR_bd _ 0 none (by simp) (fun lo h => by cases h) r hr⟩
set_option maxRecDepth 100000 in
theorem parts_right {k : Nat} {f g : List Cl} (h : ∀ c ∈ f, Flt.Right c) : ∀ c ∈ parts k f g, Flt.Right c := by
  intro d hd
  obtain ⟨c, hc, hdc⟩ := List.mem_flatMap.1 hd
  have h1 := leaf_right hc hdc
  have h2 := Flt.norm_right h c hc
  exact ⟨by rw [h1.1]; exact h2.1, h1.2⟩

set_option maxRecDepth 100000 in
/-- What clauses of the parts have, at a path. -/
theorem parts_sizes {k : Nat} (f g : List Cl) (p : Tx) (n : Int) : Sz.holds (sizes (parts k f g) p) n = true ↔ (0 ≤ n ∧ n ≤ 200) ∧ ∃ c ∈ norm f, Pth.Covers c.pre p ∧ Sz.pick k (Sz.holds [Flt.rg c] n) (Sz.holds (sizes g c.pre) n) = true := by
  rw [Flt.sizes_holds]
  refine and_congr_right (fun hn => ?_)
  constructor
  · rintro ⟨d, hd, h1, h2⟩
    obtain ⟨c, hc, hdc⟩ := List.mem_flatMap.1 hd
    unfold leaf Flt.clauses at hdc
    obtain ⟨r, hr, rfl⟩ := List.mem_map.1 hdc
    refine ⟨c, hc, h1, ?_⟩
    rw [← Sz.two_holds k _ _ n hn]
    exact Flt.holds_mem.2 ⟨hn, r, hr, h2⟩
  · rintro ⟨c, hc, h1, h2⟩
    rw [← Sz.two_holds k _ _ n hn] at h2
    obtain ⟨_, r, hr, h3⟩ := Flt.holds_mem.1 h2
    exact ⟨⟨c.pre, r.1, r.2⟩, List.mem_flatMap.2 ⟨c, hc, List.mem_map.2 ⟨r, hr, rfl⟩⟩, h1, h3⟩
set_option maxRecDepth 100000 in
theorem one_holds (c : Cl) (n : Int) : Sz.holds [Flt.rg c] n = true ↔ (0 ≤ n ∧ n ≤ 200) ∧ c.lo ≤ n ∧ n ≤ c.hi := by
  rw [Flt.holds_mem]
  refine and_congr_right (fun _ => ?_)
  constructor
  · rintro ⟨r, hr, h⟩
    rw [List.mem_singleton.1 hr] at h
    exact h
  · intro h
    exact ⟨_, List.mem_singleton.2 rfl, h⟩
set_option maxRecDepth 100000 in
theorem meet_half {f g : List Cl} {p : Tx} {n : Int} (h : Sz.holds (sizes (parts 1 f g) p) n = true) : Sz.holds (sizes f p) n = true ∧ Sz.holds (sizes g p) n = true := by
  obtain ⟨hn, c, hc, h1, h2⟩ := (parts_sizes f g p n).1 h
  have h2 : (Sz.holds [Flt.rg c] n && Sz.holds (sizes g c.pre) n) = true := h2
  rw [Bool.and_eq_true] at h2
  refine ⟨?_, sizes_up h1 h2.2⟩
  rw [← Flt.norm_alike]
  exact (Flt.sizes_holds _ p n).2 ⟨hn, c, hc, h1, ((one_holds c n).1 h2.1).2⟩
set_option maxRecDepth 100000 in
theorem meet_more {f g : List Cl} {p r : Tx} {n : Int} (hr : Pth.Covers r p) (hf : Sz.holds (sizes f p) n = true) (hg : Sz.holds (sizes g r) n = true) (hl : ∀ q, Pth.Covers q p → Sz.holds (sizes f q) n = true → r.length ≤ q.length) : Sz.holds (sizes (parts 1 f g) p) n = true := by
  rw [← Flt.norm_alike] at hf
  obtain ⟨hn, c, hc, h1, h2⟩ := (Flt.sizes_holds _ p n).1 hf
  have h3 : Sz.holds (sizes f c.pre) n = true := by
    rw [← Flt.norm_alike]
    exact (Flt.sizes_holds _ c.pre n).2 ⟨hn, c, hc, Pth.covers_refl _, h2⟩
  have h4 := hl c.pre h1 h3
  refine (parts_sizes f g p n).2 ⟨hn, c, hc, h1, ?_⟩
  show (Sz.holds [Flt.rg c] n && Sz.holds (sizes g c.pre) n) = true
  rw [(one_holds c n).2 ⟨hn, h2⟩, sizes_up (Flt.covers_both hr h1 h4) hg]
  rfl
set_option maxRecDepth 100000 in
theorem sizes_app (a b : List Cl) (p : Tx) (n : Int) : Sz.holds (sizes (a ++ b) p) n = (Sz.holds (sizes a p) n || Sz.holds (sizes b p) n) := by
  unfold sizes
  rw [List.filter_append, List.map_append, Sz.holds_append]
set_option maxRecDepth 100000 in
/-- Meet, as the package has it. -/
theorem meet_is (f g : List Cl) : norm (parts 1 f g ++ parts 1 g f) = two 1 f g := by
  have h2 : two 1 f g = norm (two 1 f g) := by unfold two; rw [Flt.norm_norm]
  rw [h2]
  refine Flt.norm_same (fun p n => ?_)
  rw [meet_sizes, sizes_app, Bool.eq_iff_iff, Bool.or_eq_true, Bool.and_eq_true]
  constructor
  · rintro (h | h)
    · exact meet_half h
    · exact (meet_half h).symm
  · rintro ⟨hf, hg⟩
    obtain ⟨q, ⟨hq, hqn⟩, hqm⟩ := Flt.least (P := fun q => Pth.Covers q p ∧ Sz.holds (sizes f q) n = true) p.length p (Nat.le_refl _) ⟨Pth.covers_refl _, hf⟩
    obtain ⟨r, ⟨hr, hrn⟩, hrm⟩ := Flt.least (P := fun q => Pth.Covers q p ∧ Sz.holds (sizes g q) n = true) p.length p (Nat.le_refl _) ⟨Pth.covers_refl _, hg⟩
    rcases Nat.le_total q.length r.length with hl | hl
    · exact Or.inr (meet_more hq hg hqn (fun x h1 h2 => Nat.le_trans hl (hrm x ⟨h1, h2⟩)))
    · exact Or.inl (meet_more hr hf hrn (fun x h1 h2 => Nat.le_trans hl (hqm x ⟨h1, h2⟩)))
set_option maxRecDepth 100000 in
theorem join_is (f g : List Cl) : norm (f ++ g) = two 0 f g := by
  have h2 : two 0 f g = norm (two 0 f g) := by unfold two; rw [Flt.norm_norm]
  rw [h2]
  refine Flt.norm_same (fun p n => ?_)
  rw [join_sizes, sizes_app]
set_option maxRecDepth 100000 in
theorem left_subs (f g : List Cl) : left f g = [] ↔ Subs g f := by
  rw [← minus_empty]
  constructor
  · intro h
    unfold minus
    rw [h]; rfl
  · intro h
    refine none_empty (fun c hc => ?_) h
    obtain ⟨d, hd, _, hr⟩ := left_mem hc
    exact two_within hr
end Go.Proofs.YtajhmgbicliihaaGreatDoor.Cov
/- What the package cover is to answer to layer 10's laws and those above (CoverOk). -/
namespace Go.Proofs.YtajhmgbicliihaaGreatDoor
open Go.RowKit

/-- The two filters of 'awake': a:0-9, and a/b:3-4. -/
def Cov.awF : List Flt.Cl := [⟨[97], 0, 9⟩]
def Cov.awG : List Flt.Cl := [⟨[97, 47, 98], 3, 4⟩]
/-- Clauses that may be, as a program can hold them. -/
def Cov.Ok (f : List Flt.Cl) : Prop := f.length ≤ 100000 ∧ (∀ c ∈ f, Flt.Right c) ∧ ∀ c ∈ f, Flt.Bd c

structure CoverOk : Prop where
  subs : ∀ {w : World} {F G : Nat → Prop} {u v : Value} {f g : List Flt.Cl}, Cls w F u f → Cls w G v g → Cov.Ok f → Cov.Ok g → Calls Tryz.prog 14 #[u, v] w fun e w' => e = .returned (.bool (decide (Cov.Subs f g))) ∧ Below w.heap.size w w'
  meet : ∀ {w : World} {F G : Nat → Prop} {u v : Value} {f g : List Flt.Cl}, Cls w F u f → Cls w G v g → Cov.Ok f → Cov.Ok g → (Flt.prefixes f).length + (Flt.prefixes g).length ≤ 490 → Calls Tryz.prog 6 #[u, v] w fun e w' => ∃ v', e = .returned v' ∧ Cls w' (NewIn w w') v' (Cov.two 1 f g) ∧ Below w.heap.size w w'
  join : ∀ {w : World} {F G : Nat → Prop} {u v : Value} {f g : List Flt.Cl}, Cls w F u f → Cls w G v g → Cov.Ok f → Cov.Ok g → f.length + g.length ≤ 100000 → Calls Tryz.prog 7 #[u, v] w fun e w' => ∃ v', e = .returned v' ∧ Cls w' (NewIn w w') v' (Cov.two 0 f g) ∧ Below w.heap.size w w'
  minus : ∀ {w : World} {F G : Nat → Prop} {u v : Value} {f g : List Flt.Cl}, Cls w F u f → Cls w G v g → Cov.Ok f → Cov.Ok g → (Flt.prefixes f).length ≤ 490 → Calls Tryz.prog 12 #[u, v] w fun e w' => ∃ v', e = .returned v' ∧ Cls w' (NewIn w w') v' (Cov.minus f g) ∧ Below w.heap.size w w'
  /-- Of P10.1 what 'awake' asks: a file that the second filter matches, and the first one doesn't. -/
  wit : ∀ {w : World} {F G : Nat → Prop} {u v : Value}, Cls w F u Cov.awG → Cls w G v Cov.awF → Calls Tryz.prog 25 #[u, v] w fun e w' => e = .returned (.tuple #[fileV [97] 0 false, .bool true]) ∧ Below w.heap.size w w'

/-! ### How many clauses come out -/
namespace Cov
open Flt (Tx Cl sizes prefixes norm)
set_option maxRecDepth 100000 in
theorem nodup_len : ∀ {l m : List Tx}, l.Nodup → (∀ x ∈ l, x ∈ m) → l.length ≤ m.length
  | [], _, _, _ => Nat.zero_le _
  | x :: l, m, hl, h => by
    obtain ⟨h1, h2⟩ := List.nodup_cons.1 hl
    have hx := h x (List.mem_cons_self ..)
    have ih := nodup_len (l := l) (m := m.erase x) h2 (fun y hy => (List.mem_erase_of_ne (fun e => h1 (by rw [← e]; exact hy))).2 (h y (List.mem_cons_of_mem _ hy)))
    rw [List.length_erase_of_mem hx] at ih
    have : 0 < m.length := List.length_pos_of_mem hx
    rw [List.length_cons]
    omega
set_option maxRecDepth 100000 in
theorem prefixes_in {X : List Cl} {l : List Tx} (h : ∀ c ∈ X, c.pre ∈ l) : (prefixes X).length ≤ l.length :=
  nodup_len (up_nodup (Flt.prefixes_up X)) (fun x hx => by
    obtain ⟨c, hc, rfl⟩ := (Flt.prefixes_mem X x).1 hx
    exact h c hc)
set_option maxRecDepth 100000 in
theorem norm_short (X : List Cl) : (norm X).length ≤ (prefixes X).length * 202 :=
  Flt.flat_len (fun p => Flt.clauses p (Flt.piece X p)) 202 (prefixes X) (fun p _ => by unfold Flt.clauses; rw [List.length_map]; exact Flt.piece_len X p)
set_option maxRecDepth 100000 in
theorem norm_prefixes (X : List Cl) : (prefixes (norm X)).length ≤ (prefixes X).length := prefixes_in (fun c hc => by
  obtain ⟨d, hd, e⟩ := Flt.norm_pre hc
  exact (Flt.prefixes_mem X _).2 ⟨d, hd, e⟩)
set_option maxRecDepth 100000 in
theorem raw_pre {k : Nat} {f g : List Cl} {c : Cl} (h : c ∈ raw k f g) : c.pre ∈ prefixes f ++ prefixes g := by
  unfold raw at h
  obtain ⟨q, hq, hc⟩ := List.mem_flatMap.1 h
  obtain ⟨r, hr, rfl⟩ := List.mem_map.1 hc
  exact hq
set_option maxRecDepth 100000 in
theorem raw_right {k : Nat} {f g : List Cl} (hf : ∀ c ∈ f, Flt.Right c) (hg : ∀ c ∈ g, Flt.Right c) : ∀ c ∈ raw k f g, Flt.Right c := by
  intro c hc
  have hp := raw_pre hc
  unfold raw at hc
  obtain ⟨q, hq, hcq⟩ := List.mem_flatMap.1 hc
  obtain ⟨r, hr, rfl⟩ := List.mem_map.1 hcq
  refine ⟨?_, Sz.formR_bd _ 0 none (by simp) (fun lo h => by cases h) r hr⟩
  rcases List.mem_append.1 hp with h | h
  · obtain ⟨d, hd, e⟩ := (Flt.prefixes_mem f _).1 h
    rw [← e]; exact (hf d hd).1
  · obtain ⟨d, hd, e⟩ := (Flt.prefixes_mem g _).1 h
    rw [← e]; exact (hg d hd).1
set_option maxRecDepth 100000 in
theorem pre_small {c : Cl} (h : Flt.Right c) : c.pre.length ≤ 40 := by
  rcases h.1 with e | e
  · rw [e]; exact Nat.zero_le _
  · exact e.2.1
set_option maxRecDepth 100000 in
theorem right_bd {c : Cl} (h : Flt.Right c) : Flt.Bd c := ⟨by have := pre_small h; omega, Flt.right_bd h⟩
set_option maxRecDepth 100000 in
theorem two_right {k : Nat} {f g : List Cl} (hf : ∀ c ∈ f, Flt.Right c) (hg : ∀ c ∈ g, Flt.Right c) : ∀ c ∈ two k f g, Flt.Right c := Flt.norm_right (raw_right hf hg)
set_option maxRecDepth 100000 in
theorem two_prefixes (k : Nat) (f g : List Cl) : (prefixes (two k f g)).length ≤ (prefixes f).length + (prefixes g).length := by
  refine Nat.le_trans (norm_prefixes _) ?_
  have := prefixes_in (X := raw k f g) (fun c hc => raw_pre hc)
  rwa [List.length_append] at this
set_option maxRecDepth 100000 in
theorem two_short (k : Nat) (f g : List Cl) : (two k f g).length ≤ ((prefixes f).length + (prefixes g).length) * 202 := by
  refine Nat.le_trans (norm_short _) (Nat.mul_le_mul_right _ ?_)
  have := prefixes_in (X := raw k f g) (fun c hc => raw_pre hc)
  rwa [List.length_append] at this
set_option maxRecDepth 100000 in
theorem left_pre {f g : List Cl} {c : Cl} (h : c ∈ left f g) : c.pre ∈ prefixes f := by
  obtain ⟨d, hd, e, _⟩ := left_mem h
  obtain ⟨x, hx, e2⟩ := Flt.norm_pre hd
  exact (Flt.prefixes_mem f _).2 ⟨x, hx, e2.trans e⟩
set_option maxRecDepth 100000 in
theorem minus_right {f g : List Cl} (hf : ∀ c ∈ f, Flt.Right c) : ∀ c ∈ minus f g, Flt.Right c := Flt.norm_right (parts_right (k := 2) hf)
set_option maxRecDepth 100000 in
theorem minus_short (f g : List Cl) : (minus f g).length ≤ (prefixes f).length * 202 :=
  Nat.le_trans (norm_short _) (Nat.mul_le_mul_right _ (prefixes_in (fun c hc => left_pre hc)))
set_option maxRecDepth 100000 in
theorem Ok.of {f : List Cl} (h : f.length ≤ 100000) (hr : ∀ c ∈ f, Flt.Right c) : Ok f := ⟨h, hr, fun c hc => right_bd (hr c hc)⟩
set_option maxRecDepth 100000 in
theorem awF_ok : Ok awF := Ok.of (by decide) (by decide +kernel)
set_option maxRecDepth 100000 in
theorem awG_ok : Ok awG := Ok.of (by decide) (by decide +kernel)
end Cov
end Go.Proofs.YtajhmgbicliihaaGreatDoor
/- A region whose last operations wait for all the others (the stores of an assignment): the others come in whatever order, then these. No program is spoken of. -/
namespace Go.Proofs.YtajhmgbicliihaaGreatDoor

section
variable {P : Program} {Q : Exit → Act → World → Prop} {md : Region.Mode}

set_option maxRecDepth 100000 in
theorem wpAny_fuel {ops : Array Oper} : ∀ (k fuel : Nat) (listed : Array Bool) (a : Act) (w : World), wpAny P md ops Q fuel listed a w → wpAny P md ops Q (fuel + k) listed a w := by
  intro k fuel
  induction fuel with
  | zero =>
    intro listed a w h
    cases k with
    | zero => exact h
    | succ k =>
      rw [Nat.zero_add]
      exact ⟨fun _ => h.2, fun i hi => by rw [h.1] at hi; cases hi⟩
  | succ fuel ih =>
    intro listed a w h
    rw [show fuel + 1 + k = (fuel + k) + 1 by omega]
    exact ⟨h.1, fun i hi => wpOp_mono (fun a w h => ih _ a w h) (h.2 i hi)⟩

/-- What is asked behind the first ones: the last ones, in their order. -/
def Tail (P : Program) (md : Region.Mode) (ops : Array Oper) (Q : Exit → Act → World → Prop) (m : Nat) (listed : Array Bool) : Exit → Act → World → Prop
  | .normal, a, w => wpAny P md ops Q m listed a w
  | e, a, w => Q e a w

set_option maxRecDepth 100000 in
theorem Oper.wp_tail {o : Oper} {a : Act} {w : World} {K K' : Act → World → Prop} {Q' : Exit → Act → World → Prop} (h : ∀ a w, K a w → K' a w) (hQ : ∀ e a w, e ≠ .normal → Q' e a w → Q e a w)
    (hh : o.wp P a w K Q') : o.wp P a w K' Q := by
  unfold Oper.wp at *
  generalize (execOp a.eval o).run P w = r at *
  cases r with
  | ok n w' =>
    cases n <;> simp only [Oper.upon] at hh ⊢
    · exact h _ _ hh
    · exact h _ _ hh
    · refine Calls.mono hh (fun e w'' he => ?_)
      cases e with
      | returned v => exact h _ _ he
      | panicked c => exact hQ _ _ _ (by simp) he
      | outgrown => exact he.imp fun a ha => ha.imp fun w hw => hQ _ _ _ (by simp) hw
    · exact h _ _ hh
    · exact Rows.mono hh (fun _ _ he => h _ _ he)
  | halt x w' =>
    cases x <;> simp only [Oper.upon] at hh ⊢
    exact hQ _ _ _ (by simp) hh

/-- The first n operations hang on none of the others; each of the others waits for all of the first n. -/
def tailOk (md : Region.Mode) (ops : Array Oper) (n : Nat) : Bool :=
  decide (n ≤ ops.size) && (List.range ops.size).all fun i => match ops[i]? with
    | none => true
    | some o => if i < n then (o.after.all fun e => !Region.binds md e || decide (e.on < i)) && (match o.guard with | none => true | some (j, _) => decide (j < n))
      else (List.range n).all fun j => o.after.any fun e => Region.binds md e && e.on == j

set_option maxRecDepth 100000 in
theorem tailOk_spec {ops : Array Oper} {n : Nat} (h : tailOk md ops n = true) : n ≤ ops.size ∧
    (∀ i o, ops[i]? = some o → i < n → (∀ e ∈ o.after, Region.binds md e = true → e.on < i) ∧ ∀ j b, o.guard = some (j, b) → j < n) ∧
    (∀ i o, ops[i]? = some o → n ≤ i → ∀ j, j < n → ∃ e ∈ o.after, Region.binds md e = true ∧ e.on = j) := by
  unfold tailOk at h
  rw [Bool.and_eq_true, List.all_eq_true] at h
  obtain ⟨h1, h2⟩ := h
  refine ⟨of_decide_eq_true h1, fun i o ho hi => ?_, fun i o ho hi j hj => ?_⟩
  · have hlt : i < ops.size := (Array.getElem?_eq_some_iff.1 ho).1
    have := h2 i (List.mem_range.2 hlt)
    simp only [ho, if_pos hi, Bool.and_eq_true] at this
    obtain ⟨ha, hg⟩ := this
    refine ⟨fun e he hb => ?_, fun j b hjb => ?_⟩
    · have := Array.all_eq_true_iff_forall_mem.1 ha e he
      simp only [hb, Bool.not_true, Bool.false_or] at this
      exact of_decide_eq_true this
    · rw [hjb] at hg
      exact of_decide_eq_true hg
  · have hlt : i < ops.size := (Array.getElem?_eq_some_iff.1 ho).1
    have := h2 i (List.mem_range.2 hlt)
    simp only [ho, if_neg (Nat.not_lt.2 hi)] at this
    have := List.all_eq_true.1 this j (List.mem_range.2 hj)
    rw [← Array.any_toList, List.any_eq_true] at this
    obtain ⟨e, he, hb⟩ := this
    simp only [Bool.and_eq_true, beq_iff_eq] at hb
    exact ⟨e, Array.mem_toList_iff.1 he, hb.1, hb.2⟩

set_option maxRecDepth 100000 in
theorem mask_get (l : Array Bool) (m : Nat) (j : Nat) (d : Bool) (h : j < l.size) : (l ++ Array.replicate m false).getD j d = l.getD j d := by
  simp only [Array.getD_eq_getD_getElem?]
  rw [Array.getElem?_append_left h]

set_option maxRecDepth 100000 in
theorem mask_set (l : Array Bool) (m : Nat) (j : Nat) (h : j < l.size) : (l ++ Array.replicate m false).setIfInBounds j true = l.setIfInBounds j true ++ Array.replicate m false := by
  rw [Array.setIfInBounds_append, if_pos h]

set_option maxRecDepth 100000 in
theorem take_get {ops : Array Oper} {n i : Nat} (hi : i < n) : (ops.extract 0 n)[i]? = ops[i]? := by
  rw [Array.getElem?_extract]
  by_cases h : i < ops.size
  · rw [if_pos (by omega), Nat.zero_add]
  · rw [if_neg (by omega), Array.getElem?_eq_none (by omega)]

set_option maxRecDepth 100000 in
theorem wpAny_tail {ops : Array Oper} {n : Nat} (hok : tailOk md ops n = true) : ∀ (fuel : Nat) (listed : Array Bool) (a : Act) (w : World), listed.size = n →
    wpAny P md (ops.extract 0 n) (Tail P md ops Q (ops.size - n) (Array.replicate n true ++ Array.replicate (ops.size - n) false)) fuel listed a w →
    wpAny P md ops Q (fuel + (ops.size - n)) (listed ++ Array.replicate (ops.size - n) false) a w := by
  obtain ⟨hn, hhd, htl⟩ := tailOk_spec hok
  have hsz : (ops.extract 0 n).size = n := by simp; omega
  -- what may come up of the first ones is what may come up of all
  have ready : ∀ listed : Array Bool, listed.size = n → ∀ i, i < n → (i ∈ Region.ready md ops (listed ++ Array.replicate (ops.size - n) false) ↔ i ∈ Region.ready md (ops.extract 0 n) listed) := by
    intro listed hl i hi
    rw [mem_ready, mem_ready, take_get hi, mask_get _ _ _ _ (by omega)]
    constructor
    · rintro ⟨h0, o, ho, ha⟩
      refine ⟨h0, o, ho, fun e he hb => ?_⟩
      have := ha e he hb
      rwa [mask_get _ _ _ _ (by have := (hhd i o ho hi).1 e he hb; omega)] at this
    · rintro ⟨h0, o, ho, ha⟩
      refine ⟨h0, o, ho, fun e he hb => ?_⟩
      rw [mask_get _ _ _ _ (by have := (hhd i o ho hi).1 e he hb; omega)]
      exact ha e he hb
  -- if none may come up, all have
  have full : ∀ listed : Array Bool, listed.size = n → Region.ready md (ops.extract 0 n) listed = [] → ∀ i, i < n → listed.getD i true = true := by
    intro listed hl hr i
    induction i using Nat.strongRecOn with
    | _ i ih =>
      intro hi
      cases hv : listed.getD i true with
      | true => rfl
      | false =>
        obtain ⟨o, ho⟩ : ∃ o, ops[i]? = some o := ⟨_, Array.getElem?_eq_getElem (by omega)⟩
        have : i ∈ Region.ready md (ops.extract 0 n) listed := mem_ready.2 ⟨hv, o, by rw [take_get hi]; exact ho, fun e he hb => by
          have hlt := (hhd i o ho hi).1 e he hb
          have := ih e.on hlt (by omega)
          rw [Array.getD_eq_getD_getElem?] at this ⊢
          rw [Array.getElem?_eq_getElem (by omega)] at this ⊢
          exact this⟩
        rw [hr] at this; cases this
  -- while one of the first ones may come up, none of the last ones may
  have late : ∀ listed : Array Bool, listed.size = n → ∀ i, i ∈ Region.ready md ops (listed ++ Array.replicate (ops.size - n) false) → n ≤ i → Region.ready md (ops.extract 0 n) listed = [] := by
    intro listed hl i hi hni
    obtain ⟨h0, o, ho, ha⟩ := mem_ready.1 hi
    rw [List.eq_nil_iff_forall_not_mem]
    intro j hj
    obtain ⟨hj0, oj, hoj, _⟩ := mem_ready.1 hj
    have hjn : j < n := by have := (Array.getElem?_eq_some_iff.1 hoj).1; omega
    obtain ⟨e, he, hb, heq⟩ := htl i o ho hni j hjn
    have := ha e he hb
    rw [heq, mask_get _ _ _ _ (by omega), Array.getD_eq_getD_getElem?, Array.getElem?_eq_getElem (by omega)] at this
    rw [Array.getD_eq_getD_getElem?, Array.getElem?_eq_getElem (by omega)] at hj0
    simp only [Option.getD_some] at this hj0
    rw [this] at hj0; cases hj0
  have allSet : ∀ listed : Array Bool, listed.size = n → Region.ready md (ops.extract 0 n) listed = [] → listed = Array.replicate n true := by
    intro listed hl hr
    apply Array.ext
    · simp [hl]
    · intro i h1 h2
      have := full listed hl hr i (by omega)
      rw [Array.getD_eq_getD_getElem?, Array.getElem?_eq_getElem h1] at this
      simpa using this
  intro fuel
  induction fuel with
  | zero =>
    intro listed a w hl h
    rw [Nat.zero_add, allSet listed hl h.1]
    exact h.2
  | succ fuel ih =>
    intro listed a w hl h
    by_cases hr : Region.ready md (ops.extract 0 n) listed = []
    · rw [allSet listed hl hr, Nat.add_comm]
      exact wpAny_fuel _ _ _ _ _ (h.1 hr)
    · rw [show fuel + 1 + (ops.size - n) = (fuel + (ops.size - n)) + 1 by omega]
      have hin : ∀ i, i ∈ Region.ready md ops (listed ++ Array.replicate (ops.size - n) false) → i < n := fun i hi => by
        rcases Nat.lt_or_ge i n with hlt | hge
        · exact hlt
        · exact absurd (late listed hl i hi hge) hr
      refine ⟨fun h0 => ?_, fun i hi => ?_⟩
      · exfalso
        obtain ⟨i, hi⟩ := List.exists_mem_of_ne_nil _ hr
        have hlt : i < n := by
          obtain ⟨_, o, ho, _⟩ := mem_ready.1 hi
          have := (Array.getElem?_eq_some_iff.1 ho).1
          omega
        have := (ready listed hl i hlt).2 hi
        rw [h0] at this; cases this
      · have hlt := hin i hi
        have h2 := h.2 i ((ready listed hl i hlt).1 hi)
        obtain ⟨o, ho⟩ : ∃ o, ops[i]? = some o := ⟨_, Array.getElem?_eq_getElem (by omega)⟩
        have hK : ∀ a w, wpAny P md (ops.extract 0 n) (Tail P md ops Q (ops.size - n) (Array.replicate n true ++ Array.replicate (ops.size - n) false)) fuel (listed.setIfInBounds i true) a w →
            wpAny P md ops Q (fuel + (ops.size - n)) ((listed ++ Array.replicate (ops.size - n) false).setIfInBounds i true) a w := fun a w hw => by
          rw [mask_set _ _ _ (by omega)]
          exact ih _ a w (by simpa using hl) hw
        have hy : Region.wanted o (yielded ops a.tmps) = Region.wanted o (yielded (ops.extract 0 n) a.tmps) := by
          unfold Region.wanted
          cases hg : o.guard with
          | none => rfl
          | some g =>
            obtain ⟨j, b⟩ := g
            have hj := (hhd i o ho hlt).2 j b hg
            simp only [yielded, take_get hj]
        unfold wpOp at h2 ⊢
        rw [take_get hlt] at h2
        simp only [ho] at h2 ⊢
        rw [hy]
        split
        · rename_i hw
          simp only [hw, if_true] at h2
          rcases h2 with h2 | ⟨h2, a', w', h3⟩
          · exact .inl (Oper.wp_tail hK (fun e a w hne he => by cases e <;> first | exact absurd rfl hne | exact he) h2)
          · exact .inr ⟨h2, a', w', h3⟩
        · rename_i hw
          simp only [hw] at h2
          exact hK _ _ h2

set_option maxRecDepth 100000 in
/-- **The beginning.** -/
theorem wp_region_tail {ops hd : Array Oper} {id n : Nat} {a : Act} {w : World} {S : World → Prop} (hm : P.follows .mixedOrders = true) (hok : tailOk .any ops n = true) (hhd : ops.extract 0 n = hd) (hS : S w.drew)
    (h : S w.drew → wpAnyH P .any hd (Tail P .any ops Q (ops.size - n) (Array.replicate n true ++ Array.replicate (ops.size - n) false)) S n (Array.replicate n false) a w.drew) : (Code.region id ops true).wp P Q a w := by
  subst hhd
  refine wp_region_any hm ?_
  have h1 := wpAny_tail hok n (Array.replicate n false) a w.drew (by simp) (wpAny_of_held _ _ _ _ (h hS))
  have hn := (tailOk_spec hok).1
  have e1 : n + (ops.size - n) = ops.size := by omega
  have e2 : Array.replicate n false ++ Array.replicate (ops.size - n) false = Array.replicate ops.size false := by
    rw [Array.replicate_append_replicate, e1]
  rw [e1, e2] at h1
  exact h1
end
end Go.Proofs.YtajhmgbicliihaaGreatDoor
