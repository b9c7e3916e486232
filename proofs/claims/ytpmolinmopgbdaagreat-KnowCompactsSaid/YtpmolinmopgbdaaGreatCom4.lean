import Derived.Test.YtpmolinmopgbdaaGreatCom1
import Derived.Test.YtpmolinmopgbdaaGreatCom2
import Derived.Test.YtpmolinmopgbdaaGreatCom3
set_option maxRecDepth 100000
set_option linter.unusedVariables false
set_option linter.unusedSimpArgs false
namespace Go.Proofs.YtpmolinmopgbdaaGreat.Cov
open Flt (Tx Cl sizes prefixes norm)
def own (L : List Cl) (p : Tx) : List Sz.Rg := (L.filter fun c => decide (c.pre = p)).map Flt.rg
theorem own_more (L : List Cl) (c : Cl) (q : Tx) : own (L ++ [c]) q = own L q ++ if c.pre = q then [Flt.rg c] else [] := by
 unfold own
 rw [List.filter_append, List.map_append]
 congr 1
 by_cases h : c.pre = q <;> simp [h]
theorem own_len (L : List Cl) (q : Tx) : (own L q).length ≤ L.length := by
 unfold own
 rw [List.length_map]
 exact List.length_filter_le _ _
theorem own_holds (L : List Cl) (p : Tx) (n : Int) : Sz.holds (own L p) n = true ↔ (0 ≤ n ∧ n ≤ 200) ∧ ∃ c ∈ L, c.pre = p ∧ c.lo ≤ n ∧ n ≤ c.hi := by
 rw [Flt.holds_mem]
 refine and_congr_right (fun _ => ?_)
 unfold own
 constructor
 ·rintro ⟨r, hr, h⟩
  obtain ⟨c, hc, rfl⟩ := List.mem_map.1 hr
  obtain ⟨h1, h2⟩ := List.mem_filter.1 hc
  exact ⟨c, h1, of_decide_eq_true h2, h⟩
 ·rintro ⟨c, hc, h1, h2⟩
  exact ⟨Flt.rg c, List.mem_map.2 ⟨c, List.mem_filter.2 ⟨hc, decide_eq_true h1⟩, rfl⟩, h2⟩
theorem own_bd {L : List Cl} (h : ∀ c ∈ L, 0 ≤ c.lo ∧ c.lo ≤ c.hi ∧ c.hi ≤ 200) (p : Tx) : ∀ r ∈ own L p, 0 ≤ r.1 ∧ r.1 ≤ r.2 ∧ r.2 ≤ 200 := by
 intro r hr
 obtain ⟨c, hc, rfl⟩ := List.mem_map.1 hr
 exact h c (List.mem_filter.1 hc).1
theorem own_flat (h : Tx → List Sz.Rg) (q : Tx) : ∀ l : List Tx, l.Nodup → own (l.flatMap fun p => Flt.clauses p (h p)) q = if q ∈ l then h q else []
 | [], _ => rfl
 | p :: l, hl => by
  obtain ⟨h1, h2⟩ := List.nodup_cons.1 hl
  have ih := own_flat h q l h2
  have hc : own (Flt.clauses p (h p)) q = if p = q then h p else [] := by
   unfold own Flt.clauses
   by_cases e : p = q
   ·rw [if_pos e, List.filter_map, List.map_map]
    have : ((fun c : Cl => decide (c.pre = q)) ∘ fun r : Sz.Rg => (⟨p, r.1, r.2⟩ : Cl)) = fun _ => true := by funext r; simp [e]
    rw [this, List.filter_eq_self.2 (fun _ _ => rfl)]
    exact List.map_id' _
   ·rw [if_neg e, List.filter_map]
    have : ((fun c : Cl => decide (c.pre = q)) ∘ fun r : Sz.Rg => (⟨p, r.1, r.2⟩ : Cl)) = fun _ => false := by funext r; simp [e]
    rw [this, List.filter_eq_nil_iff.2 (fun _ _ => by simp)]
    rfl
  have ha : own ((p :: l).flatMap fun p => Flt.clauses p (h p)) q = own (Flt.clauses p (h p)) q ++ own (l.flatMap fun p => Flt.clauses p (h p)) q := by
   unfold own
   rw [List.flatMap_cons, List.filter_append, List.map_append]
  rw [ha, hc, ih]
  by_cases e : p = q
  ·subst e
   rw [if_pos rfl, if_neg h1, if_pos (List.mem_cons_self ..), List.append_nil]
  ·rw [if_neg e, List.nil_append]
   by_cases hq : q ∈ l
   ·rw [if_pos hq, if_pos (List.mem_cons_of_mem _ hq)]
   ·rw [if_neg hq, if_neg (fun hm => (List.mem_cons.1 hm).elim (fun h => e h.symm) hq)]
theorem up_nodup {l : List Tx} (h : Flt.Up l) : l.Nodup := h.imp (fun {a b} hab e => by subst e; exact Flt.tlt_irrefl _ hab)
theorem own_norm (f : List Cl) (q : Tx) : own (norm f) q = if q ∈ prefixes f then Flt.piece f q else [] := own_flat _ q _ (up_nodup (Flt.prefixes_up f))
theorem own_norm_len (f : List Cl) (q : Tx) : (own (norm f) q).length ≤ 202 := by
 rw [own_norm]
 split
 ·exact Flt.piece_len f q
 ·simp
theorem norm_bd {f : List Cl} : ∀ c ∈ norm f, 0 ≤ c.lo ∧ c.lo ≤ c.hi ∧ c.hi ≤ 200 := fun c hc => Sz.formR_bd _ 0 none (by simp) (fun lo h => by cases h) _ (Flt.norm_mem.1 hc)
def Ups (L : List Cl) (p q : Tx) (X : List Sz.Rg) : Prop := Pth.Covers q p ∧ X.length ≤ 202 * (p.length - q.length + 1) ∧ (∀ r ∈ X, 0 ≤ r.1 ∧ r.1 ≤ r.2 ∧ r.2 ≤ 200) ∧ ∀ n, Sz.holds X n = true ↔ (0 ≤ n ∧ n ≤ 200) ∧ ∃ c ∈ L, Pth.Covers c.pre p ∧ q.length ≤ c.pre.length ∧ c.lo ≤ n ∧ n ≤ c.hi
theorem covers_same {a b : Tx} (h : Pth.Covers a b) (hl : b.length ≤ a.length) : a = b := by
 rcases h with h | h | h
 ·subst h
  exact (List.eq_nil_of_length_eq_zero (by have h8 : ([] : Tx).length = 0 := rfl; omega)).symm
 ·exact h
 ·omega
theorem ups_start {L : List Cl} (h : ∀ q, (own L q).length ≤ 202) (hb : ∀ c ∈ L, 0 ≤ c.lo ∧ c.lo ≤ c.hi ∧ c.hi ≤ 200) (p : Tx) : Ups L p p (own L p) := by
 refine ⟨Pth.covers_refl _, by have := h p; omega, own_bd hb p, fun n => ?_⟩
 rw [own_holds]
 refine and_congr_right (fun _ => ?_)
 constructor
 ·rintro ⟨c, hc, h1, h2⟩
  exact ⟨c, hc, by rw [h1]; exact Pth.covers_refl _, by rw [h1]; exact Nat.le_refl _, h2⟩
 ·rintro ⟨c, hc, h1, h2, h3⟩
  exact ⟨c, hc, covers_same h1 h2, h3⟩
theorem ups_step {L : List Cl} (h : ∀ q, (own L q).length ≤ 202) (hb : ∀ c ∈ L, 0 ≤ c.lo ∧ c.lo ≤ c.hi ∧ c.hi ≤ 200) {p q : Tx} {X : List Sz.Rg} (hq : q ≠ []) (hX : Ups L p q X) : Ups L p (Pth.parent q) (X ++ own L (Pth.parent q)) := by
 obtain ⟨h1, h2, h3, h4⟩ := hX
 have hs := Pth.parent_short hq
 have hc := Pth.parent_covers q
 refine ⟨Pth.covers_trans hc h1, ?_, fun r hr => ?_, fun n => ?_⟩
 ·rw [List.length_append]
  have := h (Pth.parent q)
  have := Pth.covers_len h1
  omega
 ·rcases List.mem_append.1 hr with hr | hr
  ·exact h3 r hr
  ·exact own_bd hb _ r hr
 ·rw [Sz.holds_append, Bool.or_eq_true, h4, own_holds, ← and_or_left]
  refine and_congr_right (fun _ => ?_)
  constructor
  ·rintro (⟨c, hc1, k1, k2, k3⟩ | ⟨c, hc1, k1, k2⟩)
   ·exact ⟨c, hc1, k1, by omega, k3⟩
   ·exact ⟨c, hc1, by rw [k1]; exact Pth.covers_trans hc h1, by rw [k1]; exact Nat.le_refl _, k2⟩
  ·rintro ⟨c, hc1, k1, k2, k3⟩
   by_cases hl : q.length ≤ c.pre.length
   ·exact Or.inl ⟨c, hc1, k1, hl, k3⟩
   ·have k4 := Flt.covers_both k1 h1 (by omega)
    have k5 := (Pth.covers_parent hq (fun e => hl (by rw [e]; exact Nat.le_refl _))).1 k4
    exact Or.inr ⟨c, hc1, covers_same k5 k2, k3⟩
theorem ups_end {L : List Cl} {p : Tx} {X : List Sz.Rg} (h : Ups L p [] X) (n : Int) : Sz.holds X n = Sz.holds (sizes L p) n := by
 rw [Bool.eq_iff_iff, h.2.2.2 n, Flt.sizes_holds]
 refine and_congr_right (fun _ => exists_congr fun c => and_congr_right fun _ => ?_)
 exact ⟨fun k => ⟨k.1, k.2.2⟩, fun k => ⟨k.1, Nat.zero_le _, k.2⟩⟩
def leaf (k : Nat) (g : List Cl) (c : Cl) : List Cl := Flt.clauses c.pre (Sz.two k [Flt.rg c] (sizes g c.pre))
def parts (k : Nat) (f g : List Cl) : List Cl := (norm f).flatMap (leaf k g)
def partsTo (k : Nat) (f g : List Cl) (n : Nat) : List Cl := ((norm f).take n).flatMap (leaf k g)
theorem parts_left (f g : List Cl) : parts 2 f g = left f g := rfl
theorem partsTo_more {k : Nat} {f g : List Cl} {n : Nat} {c : Cl} (h : (norm f)[n]? = some c) : partsTo k f g (n + 1) = partsTo k f g n ++ leaf k g c := by
 obtain ⟨hl, he⟩ := List.getElem?_eq_some_iff.1 h
 unfold partsTo
 rw [List.take_succ_eq_append_getElem hl, he, List.flatMap_append]
 simp
theorem partsTo_all (k : Nat) (f g : List Cl) : partsTo k f g (norm f).length = parts k f g := by
 unfold partsTo parts
 rw [List.take_length]
theorem wide_len : ∀ {l : List Sz.Rg}, (∀ r ∈ l, r.1 ≤ r.2) → (l.length : Int) ≤ Sz.wide l
 | [], _ => by simp [Sz.wide]
 | r :: l, h => by
  have h1 := h r (List.mem_cons_self ..)
  have h2 := wide_len (l := l) (fun x hx => h x (List.mem_cons_of_mem _ hx))
  unfold Sz.wide at h2 ⊢
  rw [List.map_cons, List.sum_cons, List.length_cons]
  omega
theorem two_wide (k : Nat) (a b : List Sz.Rg) : Sz.wide (Sz.two k a b) = ((((List.range 201).map fun (i : Nat) => Sz.pick k (Sz.holds a (i : Int)) (Sz.holds b (i : Int))).filter id).length : Int) := by
 unfold Sz.two Sz.form
 rw [Sz.formR_wide _ 0 none (fun lo h => by cases h)]
 simp
theorem two_wide_le (k : Nat) (a b : List Sz.Rg) : Sz.wide (Sz.two k a b) ≤ 201 := by
 rw [two_wide]
 have := List.length_filter_le id ((List.range 201).map fun (i : Nat) => Sz.pick k (Sz.holds a (i : Int)) (Sz.holds b (i : Int)))
 rw [List.length_map, List.length_range] at this
 omega
theorem filter_map_le {α : Type} (p q : α → Bool) : ∀ l : List α, (∀ x ∈ l, p x = true → q x = true) → ((l.map p).filter id).length ≤ ((l.map q).filter id).length
 | [], _ => by simp
 | x :: l, h => by
  have ih := filter_map_le p q l (fun y hy => h y (List.mem_cons_of_mem _ hy))
  have hx := h x (List.mem_cons_self ..)
  rw [List.map_cons, List.map_cons]
  cases hp : p x
  ·cases hq : q x
   ·simpa using ih
   ·simp at ih ⊢; omega
  ·rw [hx hp]
   simp at ih ⊢; omega
theorem two_one_len {k : Nat} (hk : k = 1 ∨ k = 2) {r : Sz.Rg} (hr : 0 ≤ r.1 ∧ r.1 ≤ r.2 ∧ r.2 ≤ 200) (b : List Sz.Rg) : ((Sz.two k [r] b).length : Int) ≤ r.2 - r.1 + 1 := by
 refine Int.le_trans (wide_len (fun x hx => (Sz.formR_bd _ 0 none (by simp) (fun lo h => by cases h) x hx).2.1)) ?_
 have hn : [r] = Sz.norm [r] := Sz.norm_is (l := [r]) (m := [r]) ⟨hr.1, hr.2.1, hr.2.2, trivial⟩ (fun _ => rfl)
 have hw := Sz.form_wide [r]
 rw [← hn] at hw
 have e : Sz.wide [r] = r.2 - r.1 + 1 := by simp [Sz.wide]
 rw [← e, hw, two_wide]
 have := filter_map_le (fun (i : Nat) => Sz.pick k (Sz.holds [r] (i : Int)) (Sz.holds b (i : Int))) (fun (i : Nat) => Sz.holds [r] (i : Int)) (List.range 201) (fun i _ h => by
  unfold Sz.pick at h
  rcases hk with rfl | rfl
  ·simp at h; exact h.1
  ·simp at h; exact h.1)
 unfold Sz.many Sz.of
 omega
theorem leaves_len {k : Nat} (hk : k = 1 ∨ k = 2) (g : List Cl) (p : Tx) : ∀ l : List Sz.Rg, (∀ r ∈ l, 0 ≤ r.1 ∧ r.1 ≤ r.2 ∧ r.2 ≤ 200) → (((Flt.clauses p l).flatMap (leaf k g)).length : Int) ≤ Sz.wide l
 | [], _ => by simp [Flt.clauses, Sz.wide]
 | r :: l, h => by
  have ih := leaves_len hk g p l (fun x hx => h x (List.mem_cons_of_mem _ hx))
  have h1 := two_one_len hk (h r (List.mem_cons_self ..)) (sizes g p)
  have e : (Flt.clauses p (r :: l)).flatMap (leaf k g) = leaf k g ⟨p, r.1, r.2⟩ ++ (Flt.clauses p l).flatMap (leaf k g) := rfl
  have e2 : (leaf k g ⟨p, r.1, r.2⟩).length = (Sz.two k [r] (sizes g p)).length := by
   unfold leaf Flt.clauses
   rw [List.length_map]
   rfl
  rw [e, List.length_append, e2]
  unfold Sz.wide at ih ⊢
  rw [List.map_cons, List.sum_cons]
  omega
theorem parts_len {k : Nat} (hk : k = 1 ∨ k = 2) (f g : List Cl) : (parts k f g).length ≤ (prefixes f).length * 201 := by
 have : parts k f g = (prefixes f).flatMap fun p => (Flt.clauses p (Flt.piece f p)).flatMap (leaf k g) := by
  unfold parts norm
  rw [List.flatMap_assoc]
 rw [this]
 refine Flt.flat_len _ 201 _ (fun p _ => ?_)
 have h1 := leaves_len hk g p (Flt.piece f p) (fun r hr => Sz.formR_bd _ 0 none (by simp) (fun lo h => by cases h) r hr)
 have h2 := two_wide_le 2 (sizes f p) (sizes (Flt.above f p) p)
 have h3 : Sz.wide (Flt.piece f p) ≤ 201 := h2
 omega
theorem partsTo_len {k : Nat} (hk : k = 1 ∨ k = 2) (f g : List Cl) (n : Nat) : (partsTo k f g n).length ≤ (prefixes f).length * 201 := by
 refine Nat.le_trans ?_ (parts_len hk f g)
 have : parts k f g = partsTo k f g n ++ ((norm f).drop n).flatMap (leaf k g) := by
  unfold parts partsTo
  rw [← List.flatMap_append, List.take_append_drop]
 rw [this, List.length_append]
 omega
theorem leaf_right {k : Nat} {f g : List Cl} {c d : Cl} (hc : c ∈ norm f) (hd : d ∈ leaf k g c) : d.pre = c.pre ∧ 0 ≤ d.lo ∧ d.lo ≤ d.hi ∧ d.hi ≤ 200 := by
 unfold leaf Flt.clauses at hd
 obtain ⟨r, hr, rfl⟩ := List.mem_map.1 hd
 exact ⟨rfl, Sz.formR_bd _ 0 none (by simp) (fun lo h => by cases h) r hr⟩
theorem parts_right {k : Nat} {f g : List Cl} (h : ∀ c ∈ f, Flt.Right c) : ∀ c ∈ parts k f g, Flt.Right c := by
 intro d hd
 obtain ⟨c, hc, hdc⟩ := List.mem_flatMap.1 hd
 have h1 := leaf_right hc hdc
 have h2 := Flt.norm_right h c hc
 exact ⟨by rw [h1.1]; exact h2.1, h1.2⟩
theorem parts_sizes {k : Nat} (f g : List Cl) (p : Tx) (n : Int) : Sz.holds (sizes (parts k f g) p) n = true ↔ (0 ≤ n ∧ n ≤ 200) ∧ ∃ c ∈ norm f, Pth.Covers c.pre p ∧ Sz.pick k (Sz.holds [Flt.rg c] n) (Sz.holds (sizes g c.pre) n) = true := by
 rw [Flt.sizes_holds]
 refine and_congr_right (fun hn => ?_)
 constructor
 ·rintro ⟨d, hd, h1, h2⟩
  obtain ⟨c, hc, hdc⟩ := List.mem_flatMap.1 hd
  unfold leaf Flt.clauses at hdc
  obtain ⟨r, hr, rfl⟩ := List.mem_map.1 hdc
  refine ⟨c, hc, h1, ?_⟩
  rw [← Sz.two_holds k _ _ n hn]
  exact Flt.holds_mem.2 ⟨hn, r, hr, h2⟩
 ·rintro ⟨c, hc, h1, h2⟩
  rw [← Sz.two_holds k _ _ n hn] at h2
  obtain ⟨_, r, hr, h3⟩ := Flt.holds_mem.1 h2
  exact ⟨⟨c.pre, r.1, r.2⟩, List.mem_flatMap.2 ⟨c, hc, List.mem_map.2 ⟨r, hr, rfl⟩⟩, h1, h3⟩
theorem one_holds (c : Cl) (n : Int) : Sz.holds [Flt.rg c] n = true ↔ (0 ≤ n ∧ n ≤ 200) ∧ c.lo ≤ n ∧ n ≤ c.hi := by
 rw [Flt.holds_mem]
 refine and_congr_right (fun _ => ?_)
 constructor
 ·rintro ⟨r, hr, h⟩
  rw [List.mem_singleton.1 hr] at h
  exact h
 ·intro h
  exact ⟨_, List.mem_singleton.2 rfl, h⟩
theorem meet_half {f g : List Cl} {p : Tx} {n : Int} (h : Sz.holds (sizes (parts 1 f g) p) n = true) : Sz.holds (sizes f p) n = true ∧ Sz.holds (sizes g p) n = true := by
 obtain ⟨hn, c, hc, h1, h2⟩ := (parts_sizes f g p n).1 h
 have h2 : (Sz.holds [Flt.rg c] n && Sz.holds (sizes g c.pre) n) = true := h2
 rw [Bool.and_eq_true] at h2
 refine ⟨?_, sizes_up h1 h2.2⟩
 rw [← Flt.norm_alike]
 exact (Flt.sizes_holds _ p n).2 ⟨hn, c, hc, h1, ((one_holds c n).1 h2.1).2⟩
theorem meet_more {f g : List Cl} {p r : Tx} {n : Int} (hr : Pth.Covers r p) (hf : Sz.holds (sizes f p) n = true) (hg : Sz.holds (sizes g r) n = true) (hl : ∀ q, Pth.Covers q p → Sz.holds (sizes f q) n = true → r.length ≤ q.length) : Sz.holds (sizes (parts 1 f g) p) n = true := by
 rw [← Flt.norm_alike] at hf
 obtain ⟨hn, c, hc, h1, h2⟩ := (Flt.sizes_holds _ p n).1 hf
 have h3 : Sz.holds (sizes f c.pre) n = true := by
  rw [← Flt.norm_alike]
  exact (Flt.sizes_holds _ c.pre n).2 ⟨hn, c, hc, Pth.covers_refl _, h2⟩
 have h4 := hl c.pre h1 h3
 refine (parts_sizes f g p n).2 ⟨hn, c, hc, h1, ?_⟩
 show (Sz.holds [Flt.rg c] n && Sz.holds (sizes g c.pre) n) = true
 rw [(one_holds c n).2 ⟨hn, h2⟩, sizes_up (Flt.covers_both hr h1 h4) hg]
 rfl
theorem sizes_app (a b : List Cl) (p : Tx) (n : Int) : Sz.holds (sizes (a ++ b) p) n = (Sz.holds (sizes a p) n || Sz.holds (sizes b p) n) := by
 unfold sizes
 rw [List.filter_append, List.map_append, Sz.holds_append]
theorem meet_is (f g : List Cl) : norm (parts 1 f g ++ parts 1 g f) = two 1 f g := by
 have h2 : two 1 f g = norm (two 1 f g) := by unfold two; rw [Flt.norm_norm]
 rw [h2]
 refine Flt.norm_same (fun p n => ?_)
 rw [meet_sizes, sizes_app, Bool.eq_iff_iff, Bool.or_eq_true, Bool.and_eq_true]
 constructor
 ·rintro (h | h)
  ·exact meet_half h
  ·exact (meet_half h).symm
 ·rintro ⟨hf, hg⟩
  obtain ⟨q, ⟨hq, hqn⟩, hqm⟩ := Flt.least (P := fun q => Pth.Covers q p ∧ Sz.holds (sizes f q) n = true) p.length p (Nat.le_refl _) ⟨Pth.covers_refl _, hf⟩
  obtain ⟨r, ⟨hr, hrn⟩, hrm⟩ := Flt.least (P := fun q => Pth.Covers q p ∧ Sz.holds (sizes g q) n = true) p.length p (Nat.le_refl _) ⟨Pth.covers_refl _, hg⟩
  rcases Nat.le_total q.length r.length with hl | hl
  ·exact Or.inr (meet_more hq hg hqn (fun x h1 h2 => Nat.le_trans hl (hrm x ⟨h1, h2⟩)))
  ·exact Or.inl (meet_more hr hf hrn (fun x h1 h2 => Nat.le_trans hl (hqm x ⟨h1, h2⟩)))
theorem join_is (f g : List Cl) : norm (f ++ g) = two 0 f g := by
 have h2 : two 0 f g = norm (two 0 f g) := by unfold two; rw [Flt.norm_norm]
 rw [h2]
 refine Flt.norm_same (fun p n => ?_)
 rw [join_sizes, sizes_app]
theorem left_subs (f g : List Cl) : left f g = [] ↔ Subs g f := by
 rw [← minus_empty]
 constructor
 ·intro h
  unfold minus
  rw [h]; rfl
 ·intro h
  refine none_empty (fun c hc => ?_) h
  obtain ⟨d, hd, _, hr⟩ := left_mem hc
  exact two_within hr
end Go.Proofs.YtpmolinmopgbdaaGreat.Cov
namespace Go.Proofs.YtpmolinmopgbdaaGreat
open Go.RowKit
def Cov.Ok (f : List Flt.Cl) : Prop := f.length ≤ 100000 ∧ (∀ c ∈ f, Flt.Right c) ∧ ∀ c ∈ f, Flt.Bd c
structure CoverOk : Prop where
 subs : ∀ {w : World} {F G : Nat → Prop} {u v : Value} {f g : List Flt.Cl}, Cls w F u f → Cls w G v g → Cov.Ok f → Cov.Ok g → Calls Tryz.prog 78 #[u, v] w fun e w' => e = .returned (.bool (decide (Cov.Subs f g))) ∧ Below w.heap.size w w'
 meet : ∀ {w : World} {F G : Nat → Prop} {u v : Value} {f g : List Flt.Cl}, Cls w F u f → Cls w G v g → Cov.Ok f → Cov.Ok g → (Flt.prefixes f).length + (Flt.prefixes g).length ≤ 490 → Calls Tryz.prog 59 #[u, v] w fun e w' => ∃ v', e = .returned v' ∧ Cls w' (NewIn w w') v' (Cov.two 1 f g) ∧ Below w.heap.size w w'
namespace Cov
open Flt (Tx Cl sizes prefixes norm)
theorem nodup_len : ∀ {l m : List Tx}, l.Nodup → (∀ x ∈ l, x ∈ m) → l.length ≤ m.length
 | [], _, _, _ => Nat.zero_le _
 | x :: l, m, hl, h => by
  obtain ⟨h1, h2⟩ := List.nodup_cons.1 hl
  have hx := h x (List.mem_cons_self ..)
  have ih := nodup_len (l := l) (m := m.erase x) h2 (fun y hy => (List.mem_erase_of_ne (fun e => h1 (by rw [← e]; exact hy))).2 (h y (List.mem_cons_of_mem _ hy)))
  rw [List.length_erase_of_mem hx] at ih
  have : 0 < m.length := List.length_pos_of_mem hx
  rw [List.length_cons]
  omega
theorem prefixes_in {X : List Cl} {l : List Tx} (h : ∀ c ∈ X, c.pre ∈ l) : (prefixes X).length ≤ l.length :=
 nodup_len (up_nodup (Flt.prefixes_up X)) (fun x hx => by
  obtain ⟨c, hc, rfl⟩ := (Flt.prefixes_mem X x).1 hx
  exact h c hc)
theorem norm_short (X : List Cl) : (norm X).length ≤ (prefixes X).length * 202 :=
 Flt.flat_len (fun p => Flt.clauses p (Flt.piece X p)) 202 (prefixes X) (fun p _ => by unfold Flt.clauses; rw [List.length_map]; exact Flt.piece_len X p)
theorem norm_prefixes (X : List Cl) : (prefixes (norm X)).length ≤ (prefixes X).length := prefixes_in (fun c hc => by
 obtain ⟨d, hd, e⟩ := Flt.norm_pre hc
 exact (Flt.prefixes_mem X _).2 ⟨d, hd, e⟩)
theorem pre_small {c : Cl} (h : Flt.Right c) : c.pre.length ≤ 40 := by
 rcases h.1 with e | e
 ·rw [e]; exact Nat.zero_le _
 ·exact e.2.1
theorem right_bd {c : Cl} (h : Flt.Right c) : Flt.Bd c := ⟨by have := pre_small h; omega, Flt.right_bd h⟩
theorem Ok.of {f : List Cl} (h : f.length ≤ 100000) (hr : ∀ c ∈ f, Flt.Right c) : Ok f := ⟨h, hr, fun c hc => right_bd (hr c hc)⟩
end Cov
end Go.Proofs.YtpmolinmopgbdaaGreat
namespace Go.Proofs.YtpmolinmopgbdaaGreat.Ver
structure V where
 by_ : Int
 n : Int
deriving DecidableEq
structure S where
 time : Int
 v : V
deriving DecidableEq
def Right (v : V) : Prop := 1 ≤ v.by_ ∧ v.by_ ≤ 64 ∧ 1 ≤ v.n
def RightS (s : S) : Prop := Right s.v ∧ 1 ≤ s.time
def Before (a b : V) : Prop := a.by_ < b.by_ ∨ (a.by_ = b.by_ ∧ a.n < b.n)
def Older (a b : S) : Prop := a.time < b.time ∨ (a.time = b.time ∧ Before a.v b.v)
instance (v : V) : Decidable (Right v) := inferInstanceAs (Decidable (_ ∧ _))
instance (s : S) : Decidable (RightS s) := inferInstanceAs (Decidable (_ ∧ _))
instance (a b : V) : Decidable (Before a b) := inferInstanceAs (Decidable (_ ∨ _))
instance (a b : S) : Decidable (Older a b) := inferInstanceAs (Decidable (_ ∨ _))
theorem v_ext {a b : V} (h : a.by_ = b.by_) (k : a.n = b.n) : a = b := by cases a; cases b; simp_all
theorem before_irrefl (a : V) : ¬ Before a a := by unfold Before; omega
theorem before_trans {a b c : V} (h : Before a b) (k : Before b c) : Before a c := by unfold Before at *; omega
theorem before_or {a b : V} (h : a ≠ b) : Before a b ∨ Before b a := by
 by_cases h1 : a.by_ = b.by_
 ·by_cases h2 : a.n = b.n
  ·exact absurd (v_ext h1 h2) h
  ·unfold Before; omega
 ·unfold Before; omega
theorem before_asymm {a b : V} (h : Before a b) : ¬ Before b a := fun k => before_irrefl a (before_trans h k)
def Up (l : List V) : Prop := l.Pairwise Before
def put (l : List V) (v : V) : List V := if (l.dropWhile fun x => decide (Before x v)).head? = some v then l else l.takeWhile (fun x => decide (Before x v)) ++ v :: l.dropWhile fun x => decide (Before x v)
def sort (l : List V) : List V := l.foldl put []
theorem up_same : ∀ {l m : List V}, Up l → Up m → (∀ x, x ∈ l ↔ x ∈ m) → l = m
 | [], [], _, _, _ => rfl
 | [], b :: m, _, _, h => by have := (h b).2 (by simp); cases this
 | a :: l, [], _, _, h => by have := (h a).1 (by simp); cases this
 | a :: l, b :: m, hl, hm, h => by
  have h1 := List.pairwise_cons.1 hl
  have h2 := List.pairwise_cons.1 hm
  have e : a = b := by
   refine Classical.byContradiction (fun e => ?_)
   have ha : a ∈ m := ((List.mem_cons.1 ((h a).1 (by simp))).resolve_left e)
   have hb : b ∈ l := ((List.mem_cons.1 ((h b).2 (by simp))).resolve_left (fun k => e k.symm))
   exact before_asymm (h1.1 b hb) (h2.1 a ha)
  subst e
  rw [up_same h1.2 h2.2 (fun x => ?_)]
  have hx := h x
  constructor
  ·intro hm'
   rcases List.mem_cons.1 (hx.1 (List.mem_cons_of_mem _ hm')) with rfl | k
   ·exact absurd (h1.1 x hm') (before_irrefl x)
   ·exact k
  ·intro hm'
   rcases List.mem_cons.1 (hx.2 (List.mem_cons_of_mem _ hm')) with rfl | k
   ·exact absurd (h2.1 x hm') (before_irrefl x)
   ·exact k
theorem put_mem {l : List V} {v x : V} : x ∈ put l v ↔ x = v ∨ x ∈ l := by
 have e : l.takeWhile (fun x => decide (Before x v)) ++ l.dropWhile (fun x => decide (Before x v)) = l := List.takeWhile_append_dropWhile
 unfold put
 split
 ·rename_i h
  have hp : v ∈ l := by
   rw [← e]
   exact List.mem_append.2 (Or.inr (List.mem_of_mem_head? (by rw [h]; rfl)))
  constructor
  ·exact Or.inr
  ·rintro (rfl | h)
   ·exact hp
   ·exact h
 ·rw [List.mem_append, List.mem_cons]
  constructor
  ·rintro (h | h | h)
   ·exact Or.inr (by rw [← e]; exact List.mem_append.2 (Or.inl h))
   ·exact Or.inl h
   ·exact Or.inr (by rw [← e]; exact List.mem_append.2 (Or.inr h))
  ·rintro (h | h)
   ·exact Or.inr (Or.inl h)
   ·rw [← e] at h
    rcases List.mem_append.1 h with h | h
    ·exact Or.inl h
    ·exact Or.inr (Or.inr h)
theorem take_lt {l : List V} {v : V} : ∀ x ∈ l.takeWhile (fun x => decide (Before x v)), Before x v := by
 intro x hx
 induction l with
 | nil => cases hx
 | cons a l ih =>
  rw [List.takeWhile_cons] at hx
  by_cases ha : Before a v
  ·rw [if_pos (decide_eq_true ha)] at hx
   rcases List.mem_cons.1 hx with rfl | hx
   ·exact ha
   ·exact ih hx
  ·rw [if_neg (by simpa using ha)] at hx; cases hx
theorem drop_ge {l : List V} (h : Up l) {v : V} : ∀ x ∈ l.dropWhile (fun x => decide (Before x v)), ¬ Before x v := by
 intro x hx
 induction l with
 | nil => cases hx
 | cons a l ih =>
  have h1 := List.pairwise_cons.1 h
  rw [List.dropWhile_cons] at hx
  by_cases ha : Before a v
  ·rw [if_pos (decide_eq_true ha)] at hx
   exact ih h1.2 hx
  ·rw [if_neg (by simpa using ha)] at hx
   rcases List.mem_cons.1 hx with rfl | hx
   ·exact ha
   ·exact fun k => ha (before_trans (h1.1 x hx) k)
theorem put_up {l : List V} (h : Up l) (v : V) : Up (put l v) := by
 have e : l.takeWhile (fun x => decide (Before x v)) ++ l.dropWhile (fun x => decide (Before x v)) = l := List.takeWhile_append_dropWhile
 unfold put
 split
 ·exact h
 ·rename_i hne
  have h0 : Up (l.takeWhile (fun x => decide (Before x v)) ++ l.dropWhile (fun x => decide (Before x v))) := by rw [e]; exact h
  obtain ⟨h1, h2, h3⟩ := List.pairwise_append.1 h0
  have hgt : ∀ x ∈ l.dropWhile (fun x => decide (Before x v)), Before v x := by
   intro x hx
   have hn := drop_ge h x hx
   by_cases ex : x = v
   ·exfalso
    subst ex
    cases hd : l.dropWhile (fun y => decide (Before y x)) with
    | nil => rw [hd] at hx; cases hx
    | cons a t =>
     rw [hd] at hne hx h2
     have hax : a ≠ x := fun k => hne (by rw [k]; rfl)
     have ht : x ∈ t := (List.mem_cons.1 hx).resolve_left (fun k => hax k.symm)
     exact drop_ge h a (by rw [hd]; simp) ((List.pairwise_cons.1 h2).1 x ht)
   ·exact (before_or ex).resolve_left hn
  refine List.pairwise_append.2 ⟨h1, List.pairwise_cons.2 ⟨hgt, h2⟩, fun x hx y hy => ?_⟩
  rcases List.mem_cons.1 hy with rfl | hy
  ·exact take_lt x hx
  ·exact before_trans (take_lt x hx) (hgt y hy)
theorem sort_aux (l : List V) : ∀ out : List V, Up out → Up (l.foldl put out) ∧ ∀ x, x ∈ l.foldl put out ↔ x ∈ out ∨ x ∈ l := by
 induction l with
 | nil => intro out h; exact ⟨h, fun x => by simp⟩
 | cons a l ih =>
  intro out h
  obtain ⟨h1, h2⟩ := ih (put out a) (put_up h a)
  refine ⟨h1, fun x => ?_⟩
  rw [List.foldl_cons, h2 x, put_mem, List.mem_cons]
  constructor
  ·rintro ((h | h) | h)
   ·exact Or.inr (Or.inl h)
   ·exact Or.inl h
   ·exact Or.inr (Or.inr h)
  ·rintro (h | h | h)
   ·exact Or.inl (Or.inr h)
   ·exact Or.inl (Or.inl h)
   ·exact Or.inr h
theorem sort_up (l : List V) : Up (sort l) := (sort_aux l [] List.Pairwise.nil).1
theorem sort_mem (l : List V) (x : V) : x ∈ sort l ↔ x ∈ l := by
 have := (sort_aux l [] List.Pairwise.nil).2 x
 unfold sort
 rw [this]
 simp
theorem sort_is {l m : List V} (h : Up m) (hm : ∀ x, x ∈ m ↔ x ∈ l) : sort l = m := up_same (sort_up l) h (fun x => (sort_mem l x).trans (hm x).symm)
theorem put_len (l : List V) (v : V) : (put l v).length ≤ l.length + 1 := by
 have e : l.takeWhile (fun x => decide (Before x v)) ++ l.dropWhile (fun x => decide (Before x v)) = l := List.takeWhile_append_dropWhile
 have e2 := congrArg List.length e
 rw [List.length_append] at e2
 unfold put
 split
 ·omega
 ·rw [List.length_append, List.length_cons]; omega
theorem sort_take (l : List V) (i : Nat) (x : V) (hx : l[i]? = some x) : sort (l.take (i + 1)) = put (sort (l.take i)) x := by
 obtain ⟨hl, he⟩ := List.getElem?_eq_some_iff.1 hx
 unfold sort
 rw [List.take_succ_eq_append_getElem hl, he, List.foldl_append]
 rfl
theorem sort_len (l : List V) : (sort l).length ≤ l.length := by
 have : ∀ (l out : List V), (l.foldl put out).length ≤ out.length + l.length := by
  intro l
  induction l with
  | nil => intro out; simp
  | cons a l ih =>
   intro out
   have h1 := ih (put out a)
   have h2 := put_len out a
   rw [List.foldl_cons, List.length_cons]
   omega
 have := this l []
 simpa [sort] using this
theorem put_cut : ∀ (l : List V) (k : V) (n : Nat), (∀ x ∈ l.take n, Before x k) → (∀ x, l[n]? = some x → ¬ Before x k) → n ≤ l.length →
  l.takeWhile (fun q => decide (Before q k)) = l.take n ∧ l.dropWhile (fun q => decide (Before q k)) = l.drop n
 | l, k, 0, _, h2, _ => by
  cases l with
  | nil => exact ⟨rfl, rfl⟩
  | cons y l =>
   have hy := h2 y rfl
   exact ⟨by rw [List.takeWhile_cons, if_neg (by simpa using hy)]; rfl, by rw [List.dropWhile_cons, if_neg (by simpa using hy)]; rfl⟩
 | [], k, n + 1, _, _, hn => by simp at hn
 | y :: l, k, n + 1, h1, h2, hn => by
  have hy := h1 y (by simp)
  obtain ⟨r1, r2⟩ := put_cut l k n (fun x hx => h1 x (by simp [hx])) (fun x hx => h2 x (by simpa using hx)) (by simpa using hn)
  exact ⟨by rw [List.takeWhile_cons, if_pos (by simpa using hy), r1]; rfl, by rw [List.dropWhile_cons, if_pos (by simpa using hy), r2]; rfl⟩
theorem put_at {l : List V} {k : V} {n : Nat} (h1 : ∀ x ∈ l.take n, Before x k) (h2 : ∀ x, l[n]? = some x → ¬ Before x k) (hn : n ≤ l.length) : put l k = if l[n]? = some k then l else l.take n ++ [k] ++ l.drop n := by
 obtain ⟨r1, r2⟩ := put_cut l k n h1 h2 hn
 unfold put
 rw [r1, r2, List.head?_drop]
 simp
end Go.Proofs.YtpmolinmopgbdaaGreat.Ver
namespace Go.Proofs.YtpmolinmopgbdaaGreat.Vec
open Ver (V Right)
def at_ (v : List Int) (i : Nat) : Int := if 1 ≤ i ∧ i ≤ 64 then max ((v[i]?).getD 0) 0 else 0
def num (v : List Int) (by_ : Int) : Int := if 1 ≤ by_ ∧ by_ ≤ 64 then at_ v by_.toNat else 0
def make (f : Nat → Int) : List Int := (List.range 65).map f
def clean (v : List Int) : List Int := make (at_ v)
def Has (v : List Int) (x : V) : Prop := Right x ∧ x.n ≤ num v x.by_
instance (v : List Int) (x : V) : Decidable (Has v x) := inferInstanceAs (Decidable (_ ∧ _))
def Covers (a b : List Int) : Prop := ∀ i, i < 65 → at_ b i ≤ at_ a i
instance (a b : List Int) : Decidable (Covers a b) := inferInstanceAs (Decidable (∀ i, i < 65 → _))
def join (a b : List Int) : List Int := make fun i => max (at_ a i) (at_ b i)
def meet (a b : List Int) : List Int := make fun i => min (at_ a i) (at_ b i)
def up (v : List Int) (x : V) : List Int := if Right x ∧ at_ v x.by_.toNat < x.n then v.set x.by_.toNat x.n else v
def add (v : List Int) (x : V) : List Int := up (clean v) x
def ofl (l : List V) : List Int := l.foldl up (List.replicate 65 0)
def ends (v : List Int) : List V := ((List.range 65).filter fun i => decide (0 < at_ v i)).map fun (i : Nat) => ⟨(i : Int), at_ v i⟩
def Plain (v : List Int) : Prop := v.length = 65 ∧ ∀ i, i < 65 → v[i]? = some (at_ v i)
theorem make_len (f : Nat → Int) : (make f).length = 65 := by simp [make]
theorem make_at (f : Nat → Int) (i : Nat) (h : i < 65) : (make f)[i]? = some (f i) := by
 unfold make
 rw [List.getElem?_map, List.getElem?_range h]; rfl
theorem at_nonneg (v : List Int) (i : Nat) : 0 ≤ at_ v i := by unfold at_; split <;> omega
theorem at_zero (v : List Int) (i : Nat) (h : ¬ (1 ≤ i ∧ i ≤ 64)) : at_ v i = 0 := if_neg h
theorem at_make (f : Nat → Int) (i : Nat) (h : 1 ≤ i ∧ i ≤ 64) (h0 : 0 ≤ f i) : at_ (make f) i = f i := by
 unfold at_
 rw [if_pos h, make_at f i (by omega)]
 show max (f i) 0 = f i
 omega
theorem make_plain (f : Nat → Int) (h : ∀ i, 0 ≤ f i) (hz : f 0 = 0) : Plain (make f) := by
 refine ⟨make_len f, fun i hi => ?_⟩
 rw [make_at f i hi]
 by_cases hr : 1 ≤ i ∧ i ≤ 64
 ·rw [at_make f i hr (h i)]
 ·rw [at_zero _ _ hr]
  have : i = 0 := by omega
  rw [this, hz]
theorem at_clean (v : List Int) (i : Nat) : at_ (clean v) i = at_ v i := by
 by_cases h : 1 ≤ i ∧ i ≤ 64
 ·exact at_make _ i h (at_nonneg v i)
 ·rw [at_zero _ _ h, at_zero _ _ h]
theorem at_join (a b : List Int) (i : Nat) : at_ (join a b) i = max (at_ a i) (at_ b i) := by
 by_cases h : 1 ≤ i ∧ i ≤ 64
 ·exact at_make _ i h (by have := at_nonneg a i; omega)
 ·rw [at_zero _ _ h, at_zero _ _ h, at_zero _ _ h]; rfl
theorem clean_plain (v : List Int) : Plain (clean v) := make_plain _ (at_nonneg v) (at_zero v 0 (by omega))
theorem join_plain (a b : List Int) : Plain (join a b) := make_plain _ (fun i => by have := at_nonneg a i; omega) (by rw [at_zero a 0 (by omega), at_zero b 0 (by omega)]; rfl)
theorem plain_ext {a b : List Int} (ha : Plain a) (hb : Plain b) (h : ∀ i, at_ a i = at_ b i) : a = b := by
 refine List.ext_getElem? (fun i => ?_)
 by_cases hi : i < 65
 ·rw [ha.2 i hi, hb.2 i hi, h]
 ·rw [List.getElem?_eq_none (by rw [ha.1]; omega), List.getElem?_eq_none (by rw [hb.1]; omega)]
theorem plain_clean {v : List Int} (h : Plain v) : clean v = v := plain_ext (clean_plain v) h (at_clean v)
theorem num_of (v : List Int) {x : V} (h : Right x) : num v x.by_ = at_ v x.by_.toNat := if_pos ⟨h.1, h.2.1⟩
theorem has_at (v : List Int) (x : V) : Has v x ↔ Right x ∧ x.n ≤ at_ v x.by_.toNat := by
 unfold Has
 exact and_congr_right (fun h => by rw [num_of v h])
theorem has_clean (v : List Int) (x : V) : Has (clean v) x ↔ Has v x := by rw [has_at, has_at, at_clean]
theorem has_join (a b : List Int) (x : V) : Has (join a b) x ↔ Has a x ∨ Has b x := by
 rw [has_at, has_at, has_at, at_join]
 constructor
 ·rintro ⟨h, k⟩
  by_cases h1 : x.n ≤ at_ a x.by_.toNat
  ·exact Or.inl ⟨h, h1⟩
  ·exact Or.inr ⟨h, by omega⟩
 ·rintro (⟨h, k⟩ | ⟨h, k⟩) <;> exact ⟨h, by omega⟩
theorem up_len (v : List Int) (x : V) : (up v x).length = v.length := by
 unfold up
 split
 ·exact List.length_set
 ·rfl
theorem up_yes {v : List Int} {x : V} (h : Right x ∧ at_ v x.by_.toNat < x.n) : up v x = v.set x.by_.toNat x.n := if_pos h
theorem up_no {v : List Int} {x : V} (h : ¬ (Right x ∧ at_ v x.by_.toNat < x.n)) : up v x = v := if_neg h
theorem at_set_self {v : List Int} (hv : v.length = 65) {i : Nat} {n : Int} (hi : 1 ≤ i ∧ i ≤ 64) (hn : 0 ≤ n) : at_ (v.set i n) i = n := by
 unfold at_
 rw [if_pos hi, List.getElem?_set_self (by omega)]
 show max n 0 = n
 omega
theorem at_set_ne {v : List Int} {i k : Nat} {n : Int} (h : k ≠ i) : at_ (v.set k n) i = at_ v i := by
 unfold at_
 rw [List.getElem?_set_ne h]
theorem at_up {v : List Int} (hv : v.length = 65) (x : V) (i : Nat) : at_ (up v x) i = if Right x ∧ x.by_.toNat = i then max (at_ v i) x.n else at_ v i := by
 by_cases hx : Right x
 ·have hr := hx
  unfold Right at hr
  by_cases hi : x.by_.toNat = i
  ·rw [if_pos ⟨hx, hi⟩]
   subst hi
   by_cases hn : at_ v x.by_.toNat < x.n
   ·rw [up_yes ⟨hx, hn⟩, at_set_self hv (by omega) (by omega)]
    omega
   ·rw [up_no (fun h => hn h.2)]
    omega
  ·rw [if_neg (fun h => hi h.2)]
   by_cases hn : at_ v x.by_.toNat < x.n
   ·rw [up_yes ⟨hx, hn⟩, at_set_ne hi]
   ·rw [up_no (fun h => hn h.2)]
 ·rw [up_no (fun h => hx h.1), if_neg (fun h => hx h.1)]
theorem up_plain {v : List Int} (h : Plain v) (x : V) : Plain (up v x) := by
 refine ⟨by rw [up_len, h.1], fun i hi => ?_⟩
 rw [at_up h.1]
 unfold up
 by_cases hx : Right x ∧ at_ v x.by_.toNat < x.n
 ·rw [if_pos hx]
  by_cases e : x.by_.toNat = i
  ·subst e
   rw [if_pos ⟨hx.1, rfl⟩, List.getElem?_set_self (by rw [h.1]; omega)]
   congr 1
   omega
  ·rw [if_neg (fun k => e k.2), List.getElem?_set_ne e, h.2 i hi]
 ·rw [if_neg hx, h.2 i hi]
  congr 1
  by_cases e : Right x ∧ x.by_.toNat = i
  ·rw [if_pos e]
   obtain ⟨e1, rfl⟩ := e
   have : ¬ at_ v x.by_.toNat < x.n := fun k => hx ⟨e1, k⟩
   omega
  ·rw [if_neg e]
theorem add_plain (v : List Int) (x : V) : Plain (add v x) := up_plain (clean_plain v) x
theorem zero_plain : Plain (List.replicate 65 0) := by
 refine ⟨List.length_replicate, fun i hi => ?_⟩
 have e : (List.replicate 65 (0 : Int))[i]? = some 0 := by rw [List.getElem?_replicate, if_pos hi]
 rw [e]
 unfold at_
 rw [e]
 split <;> rfl
theorem fold_plain : ∀ (l : List V) {v : List Int}, Plain v → Plain (l.foldl up v)
 | [], v, h => h
 | x :: l, v, h => fold_plain l (up_plain h x)
theorem ofl_plain (l : List V) : Plain (ofl l) := fold_plain l zero_plain
theorem ofl_take (l : List V) (i : Nat) (x : V) (hx : l[i]? = some x) : ofl (l.take (i + 1)) = up (ofl (l.take i)) x := by
 obtain ⟨hl, he⟩ := List.getElem?_eq_some_iff.1 hx
 unfold ofl
 rw [List.take_succ_eq_append_getElem hl, he, List.foldl_append]
 rfl
theorem ends_mem (v : List Int) (x : V) : x ∈ ends v ↔ ∃ i, i < 65 ∧ 0 < at_ v i ∧ x = ⟨(i : Int), at_ v i⟩ := by
 unfold ends
 rw [List.mem_map]
 constructor
 ·rintro ⟨i, hi, rfl⟩
  obtain ⟨h1, h2⟩ := List.mem_filter.1 hi
  exact ⟨i, List.mem_range.1 h1, by simpa using h2, rfl⟩
 ·rintro ⟨i, h1, h2, rfl⟩
  exact ⟨i, List.mem_filter.2 ⟨List.mem_range.2 h1, by simpa using h2⟩, rfl⟩
theorem covers_refl (a : List Int) : Covers a a := fun _ _ => Int.le_refl _
theorem covers_trans {a b c : List Int} (h : Covers a b) (k : Covers b c) : Covers a c := fun i hi => Int.le_trans (k i hi) (h i hi)
theorem at_far (v : List Int) (i : Nat) (h : ¬ i < 65) : at_ v i = 0 := at_zero v i (by omega)
theorem covers_anti (a b : List Int) : (Covers a b ∧ Covers b a) ↔ clean a = clean b := by
 constructor
 ·rintro ⟨h, k⟩
  refine plain_ext (clean_plain a) (clean_plain b) (fun i => ?_)
  rw [at_clean, at_clean]
  by_cases hi : i < 65
  ·exact Int.le_antisymm (k i hi) (h i hi)
  ·rw [at_far a i hi, at_far b i hi]
 ·intro h
  have e : ∀ i, at_ a i = at_ b i := fun i => by rw [← at_clean a, h, at_clean]
  exact ⟨fun i _ => by rw [e]; exact Int.le_refl _, fun i _ => by rw [e]; exact Int.le_refl _⟩
theorem covers_has (a b : List Int) : Covers a b ↔ ∀ x, Has b x → Has a x := by
 constructor
 ·intro h x hx
  rw [has_at] at hx ⊢
  have hr := hx.1
  unfold Right at hr
  have := h x.by_.toNat (by omega)
  exact ⟨hx.1, by omega⟩
 ·intro h i hi
  by_cases hp : 0 < at_ b i
  ·have hr : 1 ≤ i ∧ i ≤ 64 := Classical.byContradiction (fun k => by rw [at_zero b i k] at hp; omega)
   have hx : Right ⟨(i : Int), at_ b i⟩ := ⟨by simp; omega, by simp; omega, by simp; omega⟩
   have := ((has_at a ⟨(i : Int), at_ b i⟩).1 (h ⟨(i : Int), at_ b i⟩ ((has_at b _).2 ⟨hx, by simp⟩))).2
   simpa using this
  ·have := at_nonneg a i
   omega
end Go.Proofs.YtpmolinmopgbdaaGreat.Vec
