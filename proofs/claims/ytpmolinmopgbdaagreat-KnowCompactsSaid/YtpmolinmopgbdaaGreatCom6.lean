import Derived.Test.YtpmolinmopgbdaaGreatCom1
import Derived.Test.YtpmolinmopgbdaaGreatCom4
import Derived.Test.YtpmolinmopgbdaaGreatCom5
set_option maxRecDepth 100000
set_option linter.unusedVariables false
set_option linter.unusedSimpArgs false
namespace Go.Proofs.YtpmolinmopgbdaaGreat.Know
open Flt (Tx Cl)
open Ver (V)
structure Fr where
 f : List Cl
 v : List Int
 no : List V
deriving DecidableEq
structure It where
 item : V
 v : List Int
deriving DecidableEq
structure K where
 frags : List Fr
 items : List It
def Sane (f : List Cl) : Prop := ∀ c ∈ f, Flt.Right c
def SaneK (k : K) : Prop := ∀ x ∈ k.frags, Sane x.f
def has (f : List Cl) (p : Tx) (n : Int) : Prop := Sz.holds (Flt.sizes f p) n = true
def Fits (x : Fr) (item v : V) : Prop := x.f ≠ [] ∧ Vec.Has x.v v ∧ item ∉ x.no
instance (x : Fr) (item v : V) : Decidable (Fits x item v) := inferInstanceAs (Decidable (_ ∧ _))
def whole (l : List Fr) (item v : V) : List Cl := (l.filter fun x => decide (Fits x item v)).flatMap (·.f)
def ByItem (l : List It) (item v : V) : Prop := ∃ i ∈ l, i.item = item ∧ Vec.Has i.v v
instance (l : List It) (item v : V) : Decidable (ByItem l item v) := inferInstanceAs (Decidable (∃ i ∈ l, _))
def ByWhole (l : List Fr) (item v : V) (f : List Cl) : Prop := (∃ x ∈ l, Fits x item v) ∧ Cov.Subs (whole l item v) f
def Contains (k : K) (item v : V) (f : List Cl) : Prop := ByItem k.items item v ∨ ByWhole k.frags item v f
def Says (l : List Fr) (item v : V) (p : Tx) (n : Int) : Prop := ∃ x ∈ l, Fits x item v ∧ has x.f p n
theorem flat_has {α : Type} (g : α → List Cl) (l : List α) (p : Tx) (n : Int) : has (l.flatMap g) p n ↔ ∃ x ∈ l, has (g x) p n := by
 unfold has
 rw [Flt.sizes_holds]
 constructor
 ·rintro ⟨hn, c, hc, h⟩
  obtain ⟨x, hx, hcx⟩ := List.mem_flatMap.1 hc
  exact ⟨x, hx, (Flt.sizes_holds _ _ _).2 ⟨hn, c, hcx, h⟩⟩
 ·rintro ⟨x, hx, h⟩
  obtain ⟨hn, c, hc, h2⟩ := (Flt.sizes_holds _ _ _).1 h
  exact ⟨hn, c, List.mem_flatMap.2 ⟨x, hx, hc⟩, h2⟩
theorem whole_has (l : List Fr) (item v : V) (p : Tx) (n : Int) : has (whole l item v) p n ↔ Says l item v p n := by
 unfold whole Says
 rw [flat_has]
 constructor
 ·rintro ⟨x, hx, h⟩
  obtain ⟨h1, h2⟩ := List.mem_filter.1 hx
  exact ⟨x, h1, by simpa using h2, h⟩
 ·rintro ⟨x, hx, h1, h⟩
  exact ⟨x, List.mem_filter.2 ⟨hx, by simpa using h1⟩, h⟩
theorem sane_some {f : List Cl} (h : Sane f) (hne : f ≠ []) : ∃ p n, has f p n := by
 cases f with
 | nil => exact absurd rfl hne
 | cons c l =>
  have hc := (h c (List.mem_cons_self ..)).2
  exact ⟨c.pre, c.lo, (Flt.sizes_holds _ _ _).2 ⟨⟨by omega, by omega⟩, c, List.mem_cons_self .., Pth.covers_refl _, by omega, by omega⟩⟩
theorem has_some {f : List Cl} {p : Tx} {n : Int} (h : has f p n) : f ≠ [] := by
 rintro rfl
 obtain ⟨_, c, hc, _⟩ := (Flt.sizes_holds _ _ _).1 h
 cases hc
theorem alike_has {f g : List Cl} (h : Flt.Alike f g) (p : Tx) (n : Int) : has f p n ↔ has g p n := by
 unfold has
 rw [h p n]
theorem alike_of {f g : List Cl} (h : ∀ p n, has f p n ↔ has g p n) : Flt.Alike f g := fun p n => Bool.eq_iff_iff.2 (h p n)
theorem fits_says {l : List Fr} (hl : ∀ x ∈ l, Sane x.f) (item v : V) : (∃ x ∈ l, Fits x item v) ↔ ∃ p n, Says l item v p n := by
 constructor
 ·rintro ⟨x, hx, h⟩
  obtain ⟨p, n, hn⟩ := sane_some (hl x hx) h.1
  exact ⟨p, n, x, hx, h, hn⟩
 ·rintro ⟨p, n, x, hx, h, _⟩
  exact ⟨x, hx, h⟩
theorem whole_says (l : List Fr) (item v : V) (f : List Cl) : Cov.Subs (whole l item v) f ↔ ∀ p n, has f p n → Says l item v p n := by
 constructor
 ·exact fun h p n hn => (whole_has ..).1 (h p n hn)
 ·exact fun h p n hn => (whole_has ..).2 (h p n hn)
theorem whole_same {l m : List Fr} (hl : ∀ x ∈ l, Sane x.f) (hm : ∀ x ∈ m, Sane x.f) {item v : V} (h : ∀ p n, Says l item v p n ↔ Says m item v p n) (f : List Cl) : ByWhole l item v f ↔ ByWhole m item v f := by
 unfold ByWhole
 rw [fits_says hl, fits_says hm, whole_says, whole_says]
 simp only [h]
def Incl (y x : Fr) : Prop := Cov.Subs y.f x.f ∧ Vec.Covers y.v x.v ∧ ∀ e ∈ y.no, e ∈ x.no
instance (y x : Fr) : Decidable (Incl y x) := inferInstanceAs (Decidable (_ ∧ _))
def Keyed (v : List Int) (no : List V) (z : Fr) : Prop := Vec.clean z.v = v ∧ Ver.sort z.no = no
def Cand (l : List Fr) (x : Fr) : Prop := Flt.norm x.f = x.f ∧ Vec.Plain x.v ∧ Ver.sort x.no = x.no ∧ x.f ≠ [] ∧ (∃ y, Vec.Has x.v y) ∧ ∀ p n, has x.f p n ↔ ∃ z ∈ l, Keyed x.v x.no z ∧ has z.f p n
def Kept (l : List Fr) (x : Fr) : Prop := Cand l x ∧ ∀ y, Cand l y → Incl y x → y = x
def KeptI (l : List It) (i : It) : Prop := Vec.Plain i.v ∧ (∃ y, Vec.Has i.v y) ∧ ∀ y, Vec.Has i.v y ↔ ByItem l i.item y
theorem cand_one {l : List Fr} {x y : Fr} (hx : Cand l x) (hy : Cand l y) (hv : x.v = y.v) (hn : x.no = y.no) : x = y := by
 have h : Flt.Alike x.f y.f := alike_of (fun p n => by
  rw [hx.2.2.2.2.2 p n, hy.2.2.2.2.2 p n, hv, hn])
 have : x.f = y.f := by rw [← hx.1, ← hy.1]; exact Flt.norm_same h
 cases x; cases y; simp_all
theorem incl_refl (x : Fr) : Incl x x := ⟨Cov.subs_refl _, Vec.covers_refl _, fun _ h => h⟩
theorem incl_trans {x y z : Fr} (h : Incl x y) (k : Incl y z) : Incl x z := ⟨Cov.subs_trans h.1 k.1, Vec.covers_trans h.2.1 k.2.1, fun e he => k.2.2 e (h.2.2 e he)⟩
theorem incl_anti {l : List Fr} {x y : Fr} (hx : Cand l x) (hy : Cand l y) (h : Incl x y) (k : Incl y x) : x = y := by
 refine cand_one hx hy ?_ ?_
 ·have := (Vec.covers_anti x.v y.v).1 ⟨h.2.1, k.2.1⟩
  rwa [Vec.plain_clean hx.2.1, Vec.plain_clean hy.2.1] at this
 ·rw [← hx.2.2.1, ← hy.2.2.1]
  exact Iset.sort_same (fun e => ⟨h.2.2 e, k.2.2 e⟩)
theorem top_of {α : Type} (R : α → α → Prop) (hr : ∀ x, R x x) (ht : ∀ x y z, R x y → R y z → R x z) : ∀ (l : List α) (P : α → Prop), (∀ x, P x → x ∈ l) → (∀ x y, P x → P y → R x y → R y x → x = y) → ∀ x, P x → ∃ y, P y ∧ R y x ∧ ∀ z, P z → R z y → z = y
 | [], P, hl, _, x, hx => by cases hl x hx
 | a :: l, P, hl, ha, x, hx => by
  by_cases h : ∃ y, P y ∧ R y x ∧ y ≠ x
  ·obtain ⟨y, hy, hyx, hne⟩ := h
   by_cases hax : a = x
   ·-- those above x, without x
    obtain ⟨t, ht1, ht2, ht3⟩ := top_of R hr ht l (fun z => P z ∧ R z x ∧ z ≠ x) (fun z hz => (List.mem_cons.1 (hl z hz.1)).resolve_left (fun e => hz.2.2 (e.trans hax))) (fun u w hu hw => ha u w hu.1 hw.1) y ⟨hy, hyx, hne⟩
    refine ⟨t, ht1.1, ht1.2.1, fun z hz hzt => ?_⟩
    have hzx : R z x := ht z t x hzt ht1.2.1
    by_cases e : z = x
    ·rw [e] at hzt
     exact absurd (ha t x ht1.1 hx ht1.2.1 hzt) ht1.2.2
    ·exact ht3 z ⟨hz, hzx, e⟩ hzt
   ·by_cases hay : P a ∧ R a x
    ·by_cases htop : ∃ z, P z ∧ R z a ∧ z ≠ a
     ·obtain ⟨z, hz, hza, hzne⟩ := htop
      obtain ⟨t, ht1, ht2, ht3⟩ := top_of R hr ht l (fun u => P u ∧ R u a ∧ u ≠ a) (fun u hu => (List.mem_cons.1 (hl u hu.1)).resolve_left hu.2.2) (fun u w hu hw => ha u w hu.1 hw.1) z ⟨hz, hza, hzne⟩
      refine ⟨t, ht1.1, ht t a x ht1.2.1 hay.2, fun u hu hut => ?_⟩
      by_cases e : u = a
      ·rw [e] at hut
       exact absurd (ha t a ht1.1 hay.1 ht1.2.1 hut) ht1.2.2
      ·exact ht3 u ⟨hu, ht u t a hut ht1.2.1, e⟩ hut
     ·exact ⟨a, hay.1, hay.2, fun z hz hza => Classical.byContradiction (fun e => htop ⟨z, hz, hza, e⟩)⟩
    ·obtain ⟨t, ht1, ht2, ht3⟩ := top_of R hr ht l (fun u => P u ∧ R u x) (fun u hu => (List.mem_cons.1 (hl u hu.1)).resolve_left (fun e => hay (by rw [← e]; exact hu))) (fun u w hu hw => ha u w hu.1 hw.1) x ⟨hx, hr x⟩
     exact ⟨t, ht1.1, ht1.2, fun u hu hut => ht3 u ⟨hu, ht u t x hut ht1.2⟩ hut⟩
  ·exact ⟨x, hx, hr x, fun z hz hzx => Classical.byContradiction (fun e => h ⟨z, hz, hzx, e⟩)⟩
theorem norm_has {f : List Cl} (p : Tx) (n : Int) : has (Flt.norm f) p n ↔ has f p n := alike_has (Flt.norm_alike f) p n
theorem norm_some {f : List Cl} (h : Flt.norm f ≠ []) : ∃ p n, has f p n := by
 cases hf : Flt.norm f with
 | nil => exact absurd hf h
 | cons c l =>
  have hc : c ∈ Flt.norm f := by rw [hf]; exact List.mem_cons_self ..
  have hb := Cov.two_within (Flt.norm_mem.1 hc)
  have hb : 0 ≤ c.lo ∧ c.lo ≤ c.hi ∧ c.hi ≤ 200 := hb
  refine ⟨c.pre, c.lo, (norm_has _ _).1 ?_⟩
  exact (Flt.sizes_holds _ _ _).2 ⟨⟨by omega, by omega⟩, c, hc, Pth.covers_refl _, by omega, by omega⟩
def gather (l : List Fr) (v : List Int) (no : List V) : List Cl := (l.filter fun z => decide (Vec.clean z.v = v ∧ Ver.sort z.no = no)).flatMap (·.f)
theorem gather_has (l : List Fr) (v : List Int) (no : List V) (p : Tx) (n : Int) : has (gather l v no) p n ↔ ∃ z ∈ l, Keyed v no z ∧ has z.f p n := by
 unfold gather Keyed
 rw [flat_has]
 constructor
 ·rintro ⟨x, hx, h⟩
  obtain ⟨h1, h2⟩ := List.mem_filter.1 hx
  exact ⟨x, h1, by simpa using h2, h⟩
 ·rintro ⟨x, hx, h1, h⟩
  exact ⟨x, List.mem_filter.2 ⟨hx, by simpa using h1⟩, h⟩
theorem gather_sane {l : List Fr} (h : ∀ x ∈ l, Sane x.f) (v : List Int) (no : List V) : Sane (gather l v no) := by
 intro c hc
 obtain ⟨x, hx, hcx⟩ := List.mem_flatMap.1 hc
 exact h x (List.mem_filter.1 hx).1 c hcx
def mk (l : List Fr) (z : Fr) : Fr := ⟨Flt.norm (gather l (Vec.clean z.v) (Ver.sort z.no)), Vec.clean z.v, Ver.sort z.no⟩
theorem cand_f {l : List Fr} {x : Fr} (h : Cand l x) : x.f = Flt.norm (gather l x.v x.no) := by
 rw [← h.1]
 exact Flt.norm_same (alike_of (fun p n => by rw [h.2.2.2.2.2 p n, gather_has]))
theorem cand_mk {l : List Fr} {x : Fr} (h : Cand l x) : ∃ z ∈ l, x = mk l z := by
 obtain ⟨p, n, hn⟩ := norm_some (by rw [h.1]; exact h.2.2.2.1)
 obtain ⟨z, hz, hk, _⟩ := (h.2.2.2.2.2 p n).1 hn
 refine ⟨z, hz, ?_⟩
 have hf := cand_f h
 unfold mk
 rw [hk.1, hk.2, ← hf]
theorem sort_sort (l : List V) : Ver.sort (Ver.sort l) = Ver.sort l := Iset.sort_same (fun x => by rw [Ver.sort_mem])
theorem mk_cand {l : List Fr} {z : Fr} (hz : z ∈ l) {y : V} (hy : Vec.Has z.v y) {p : Tx} {n : Int} (hn : has z.f p n) : Cand l (mk l z) := by
 have hall : ∀ p n, has (mk l z).f p n ↔ ∃ x ∈ l, Keyed (Vec.clean z.v) (Ver.sort z.no) x ∧ has x.f p n := fun p n => by
  show has (Flt.norm (gather l _ _)) p n ↔ _
  rw [norm_has, gather_has]
 refine ⟨Flt.norm_norm _, Vec.clean_plain _, sort_sort _, ?_, ⟨y, (Vec.has_clean _ _).2 hy⟩, hall⟩
 exact has_some ((hall p n).2 ⟨z, hz, ⟨rfl, rfl⟩, hn⟩)
theorem kept_top {l : List Fr} {x : Fr} (h : Cand l x) : ∃ y, Kept l y ∧ Incl y x := by
 obtain ⟨y, hy, hyx, ht⟩ := top_of Incl incl_refl (fun _ _ _ => incl_trans) (l.map (mk l)) (Cand l) (fun u hu => by
  obtain ⟨z, hz, e⟩ := cand_mk hu
  rw [e]
  exact List.mem_map.2 ⟨z, hz, rfl⟩) (fun u w hu hw => incl_anti hu hw) x h
 exact ⟨y, ⟨hy, fun z hz hzy => ht z hz hzy⟩, hyx⟩
theorem kept_sane {l : List Fr} (hl : ∀ x ∈ l, Sane x.f) {x : Fr} (h : Cand l x) : Sane x.f := by
 rw [cand_f h]
 exact Flt.norm_right (gather_sane hl _ _)
theorem says_kept {l c : List Fr} (hc : ∀ x, x ∈ c ↔ Kept l x) (item v : V) (p : Tx) (n : Int) : Says c item v p n ↔ Says l item v p n := by
 constructor
 ·rintro ⟨x, hx, hf, hn⟩
  have hk := ((hc x).1 hx).1
  obtain ⟨z, hz, hkz, hzn⟩ := (hk.2.2.2.2.2 p n).1 hn
  refine ⟨z, hz, ⟨has_some hzn, ?_, fun hm => hf.2.2 ?_⟩, hzn⟩
  ·rw [← Vec.has_clean, hkz.1]; exact hf.2.1
  ·rw [← hkz.2, Ver.sort_mem]; exact hm
 ·rintro ⟨z, hz, hf, hn⟩
  obtain ⟨t, ht, hi⟩ := kept_top (mk_cand hz hf.2.1 hn)
  refine ⟨t, (hc t).2 ht, ⟨ht.1.2.2.2.1, (Vec.covers_has _ _).1 hi.2.1 v ((Vec.has_clean _ _).2 hf.2.1), fun hm => hf.2.2 ?_⟩, ?_⟩
  ·have := hi.2.2 item hm
   exact (Ver.sort_mem _ _).1 this
  ·refine hi.1 p n ?_
   show has (Flt.norm (gather l _ _)) p n
   rw [norm_has, gather_has]
   exact ⟨z, hz, ⟨rfl, rfl⟩, hn⟩
theorem byItem_kept {l c : List It} (hc : ∀ x, x ∈ c ↔ KeptI l x) (hk : ∀ item, (∃ y, ByItem l item y) → ∃ w, Vec.Plain w ∧ ∀ y, Vec.Has w y ↔ ByItem l item y) (item v : V) : ByItem c item v ↔ ByItem l item v := by
 constructor
 ·rintro ⟨i, hi, rfl, h⟩
  exact (((hc i).1 hi).2.2 v).1 h
 ·intro h
  obtain ⟨w, hw, hy⟩ := hk item ⟨v, h⟩
  exact ⟨⟨item, w⟩, (hc _).2 ⟨hw, ⟨v, (hy v).2 h⟩, hy⟩, rfl, (hy v).2 h⟩
theorem joined (l : List It) (item : V) : ∃ w, Vec.Plain w ∧ ∀ y, Vec.Has w y ↔ ByItem l item y := by
 induction l with
 | nil =>
  refine ⟨_, Vec.zero_plain, fun y => ⟨fun h => ?_, fun ⟨i, hi, _⟩ => by cases hi⟩⟩
  rw [Vec.has_at] at h
  have h1 := h.1.2.2
  have h2 := h.2
  have hz : Vec.at_ (List.replicate 65 0) y.by_.toNat = 0 := by
   unfold Vec.at_
   rw [List.getElem?_replicate]
   split
   ·split <;> rfl
   ·rfl
  omega
 | cons i l ih =>
  obtain ⟨w, hw, hy⟩ := ih
  by_cases e : i.item = item
  ·refine ⟨Vec.join i.v w, Vec.join_plain _ _, fun y => ?_⟩
   rw [Vec.has_join, hy]
   constructor
   ·rintro (h | ⟨j, hj, h⟩)
    ·exact ⟨i, List.mem_cons_self .., e, h⟩
    ·exact ⟨j, List.mem_cons_of_mem _ hj, h⟩
   ·rintro ⟨j, hj, h1, h⟩
    rcases List.mem_cons.1 hj with rfl | hj
    ·exact Or.inl h
    ·exact Or.inr ⟨j, hj, h1, h⟩
  ·refine ⟨w, hw, fun y => ?_⟩
   rw [hy]
   constructor
   ·rintro ⟨j, hj, h⟩
    exact ⟨j, List.mem_cons_of_mem _ hj, h⟩
   ·rintro ⟨j, hj, h1, h⟩
    rcases List.mem_cons.1 hj with rfl | hj
    ·exact absurd h1 e
    ·exact ⟨j, hj, h1, h⟩
def vlt : List Int → List Int → Prop
 | [], _ => False
 | _ :: _, [] => False
 | a :: l, b :: m => b < a ∨ (a = b ∧ vlt l m)
def nlt : List V → List V → Prop
 | _, [] => False
 | [], _ :: _ => True
 | a :: l, b :: m => Ver.Before a b ∨ (a = b ∧ nlt l m)
theorem vlt_asymm : ∀ {a b : List Int}, vlt a b → ¬ vlt b a
 | [], _, h, _ => h
 | _ :: _, [], h, _ => h
 | a :: l, b :: m, h, k => by
  have h : b < a ∨ (a = b ∧ vlt l m) := h
  have k : a < b ∨ (b = a ∧ vlt m l) := k
  rcases h with h | ⟨h, h'⟩ <;> rcases k with k | ⟨k, k'⟩
  ·omega
  ·omega
  ·omega
  ·exact vlt_asymm h' k'
theorem vlt_irrefl (a : List Int) : ¬ vlt a a := fun h => vlt_asymm h h
theorem nlt_asymm : ∀ {a b : List V}, nlt a b → ¬ nlt b a
 | [], [], h, _ => h
 | _ :: _, [], h, _ => h
 | [], _ :: _, _, k => k
 | a :: l, b :: m, h, k => by
  have h : Ver.Before a b ∨ (a = b ∧ nlt l m) := h
  have k : Ver.Before b a ∨ (b = a ∧ nlt m l) := k
  rcases h with h | ⟨h, h'⟩ <;> rcases k with k | ⟨k, k'⟩
  ·exact Ver.before_asymm h k
  ·rw [k] at h; exact Ver.before_irrefl _ h
  ·rw [h] at k; exact Ver.before_irrefl _ k
  ·exact nlt_asymm h' k'
def FLt (x y : Fr) : Prop := vlt x.v y.v ∨ (x.v = y.v ∧ nlt x.no y.no)
def ILt (x y : It) : Prop := Ver.Before x.item y.item
theorem flt_asymm {x y : Fr} (h : FLt x y) : ¬ FLt y x := by
 rintro (k | ⟨k, k'⟩) <;> rcases h with h | ⟨h, h'⟩
 ·exact vlt_asymm h k
 ·rw [h] at k; exact vlt_irrefl _ k
 ·rw [k] at h; exact vlt_irrefl _ h
 ·exact nlt_asymm h' k'
theorem ilt_asymm {x y : It} (h : ILt x y) : ¬ ILt y x := Ver.before_asymm h
theorem order_one {α : Type} {R : α → α → Prop} (hR : ∀ x y, R x y → ¬ R y x) : ∀ {l m : List α}, l.Pairwise R → m.Pairwise R → (∀ x, x ∈ l ↔ x ∈ m) → l = m
 | [], [], _, _, _ => rfl
 | [], b :: m, _, _, h => by have := (h b).2 (List.mem_cons_self ..); cases this
 | a :: l, [], _, _, h => by have := (h a).1 (List.mem_cons_self ..); cases this
 | a :: l, b :: m, hl, hm, h => by
  have h1 := List.pairwise_cons.1 hl
  have h2 := List.pairwise_cons.1 hm
  have e : a = b := by
   refine Classical.byContradiction (fun e => ?_)
   have ha : a ∈ m := (List.mem_cons.1 ((h a).1 (List.mem_cons_self ..))).resolve_left e
   have hb : b ∈ l := (List.mem_cons.1 ((h b).2 (List.mem_cons_self ..))).resolve_left (fun k => e k.symm)
   exact hR _ _ (h1.1 b hb) (h2.1 a ha)
  subst e
  rw [order_one hR h1.2 h2.2 (fun x => ?_)]
  have hx := h x
  constructor
  ·intro hm'
   rcases List.mem_cons.1 (hx.1 (List.mem_cons_of_mem _ hm')) with rfl | k
   ·exact absurd (h1.1 x hm') (fun k => hR _ _ k k)
   ·exact k
  ·intro hm'
   rcases List.mem_cons.1 (hx.2 (List.mem_cons_of_mem _ hm')) with rfl | k
   ·exact absurd (h2.1 x hm') (fun k => hR _ _ k k)
   ·exact k
structure Canon (k c : K) : Prop where
 frags : ∀ x, x ∈ c.frags ↔ Kept k.frags x
 items : ∀ i, i ∈ c.items ↔ KeptI k.items i
 upF : c.frags.Pairwise FLt
 upI : c.items.Pairwise ILt
theorem canon_frags {l c : List Fr} (hc : ∀ x, x ∈ c ↔ Kept l x) (x : Fr) : x ∈ c ↔ Kept c x := by
 have hcand : ∀ x, x ∈ c → Cand c x := by
  intro x hx
  have h := ((hc x).1 hx).1
  refine ⟨h.1, h.2.1, h.2.2.1, h.2.2.2.1, h.2.2.2.2.1, fun p n => ⟨fun hn => ⟨x, hx, ⟨Vec.plain_clean h.2.1, h.2.2.1⟩, hn⟩, ?_⟩⟩
  rintro ⟨z, hz, hk, hn⟩
  have hz' := ((hc z).1 hz).1
  have : z = x := cand_one hz' h (by rw [← hk.1, Vec.plain_clean hz'.2.1]) (by rw [← hk.2, hz'.2.2.1])
  rw [← this]; exact hn
 have hback : ∀ x, Cand c x → x ∈ c := by
  intro x hx
  obtain ⟨p, n, hn⟩ := norm_some (by rw [hx.1]; exact hx.2.2.2.1)
  obtain ⟨z, hz, hk, _⟩ := (hx.2.2.2.2.2 p n).1 hn
  have hz' := hcand z hz
  have : x = z := cand_one hx hz' (by rw [← hk.1, Vec.plain_clean hz'.2.1]) (by rw [← hk.2, hz'.2.2.1])
  rw [this]; exact hz
 constructor
 ·intro hx
  refine ⟨hcand x hx, fun y hy hi => ?_⟩
  have h := (hc x).1 hx
  exact h.2 y ((hc y).1 (hback y hy)).1 hi
 ·exact fun h => hback x h.1
theorem canon_items {l c : List It} (hc : ∀ x, x ∈ c ↔ KeptI l x) (i : It) : i ∈ c ↔ KeptI c i := by
 have hb := byItem_kept hc (fun item _ => joined l item)
 rw [hc]
 unfold KeptI
 simp only [hb]
theorem canon_self {k c : K} (h : Canon k c) : Canon c c := ⟨canon_frags h.frags, canon_items h.items, h.upF, h.upI⟩
theorem canon_one {k m c d : K} (hc : Canon k c) (hd : Canon m d) (hf : ∀ x, Kept k.frags x ↔ Kept m.frags x) (hi : ∀ x, KeptI k.items x ↔ KeptI m.items x) : c = d := by
 have h1 : c.frags = d.frags := order_one (fun _ _ => flt_asymm) hc.upF hd.upF (fun x => by rw [hc.frags, hd.frags, hf])
 have h2 : c.items = d.items := order_one (fun _ _ => ilt_asymm) hc.upI hd.upI (fun x => by rw [hc.items, hd.items, hi])
 cases c; cases d; simp_all
theorem canon_contains {k c : K} (hk : SaneK k) (h : Canon k c) (item v : V) (f : List Cl) : Contains c item v f ↔ Contains k item v f := by
 unfold Contains
 rw [byItem_kept h.items (fun item _ => joined k.items item)]
 refine or_congr Iff.rfl (whole_same (fun x hx => kept_sane hk ((h.frags x).1 hx).1) hk (says_kept h.frags item v) f)
theorem canon_sane {k c : K} (hk : SaneK k) (h : Canon k c) : SaneK c := fun x hx => kept_sane hk ((h.frags x).1 hx).1
def union (a b : K) : K := ⟨a.frags ++ b.frags, a.items ++ b.items⟩
def except (k : K) (item : V) : K := ⟨k.frags.map fun x => ⟨x.f, x.v, Iset.put x.no item⟩, k.items.filter fun i => decide (i.item ≠ item)⟩
theorem except_sane {k : K} (h : SaneK k) (item : V) : SaneK (except k item) := by
 intro x hx
 obtain ⟨y, hy, rfl⟩ := List.mem_map.1 hx
 exact h y hy
theorem except_none (k : K) (item v : V) (f : List Cl) : ¬ Contains (except k item) item v f := by
 rintro (⟨i, hi, e, _⟩ | ⟨⟨x, hx, h⟩, _⟩)
 ·have := (List.mem_filter.1 hi).2
  simp [e] at this
 ·obtain ⟨y, hy, rfl⟩ := List.mem_map.1 hx
  exact h.2.2 (Iset.put_mem.2 (Or.inl rfl))
theorem except_other {k : K} (hk : SaneK k) {item a : V} (h : a ≠ item) (v : V) (f : List Cl) : Contains (except k item) a v f ↔ Contains k a v f := by
 unfold Contains
 have hi : ByItem (except k item).items a v ↔ ByItem k.items a v := by
  constructor
  ·rintro ⟨i, hi, h1, h2⟩
   exact ⟨i, (List.mem_filter.1 hi).1, h1, h2⟩
  ·rintro ⟨i, hi, h1, h2⟩
   refine ⟨i, List.mem_filter.2 ⟨hi, ?_⟩, h1, h2⟩
   simp only [decide_eq_true_eq]
   rw [h1]; exact h
 refine or_congr hi (whole_same (except_sane hk item) hk (fun p n => ?_) f)
 have hfit : ∀ x : Fr, Fits ⟨x.f, x.v, Iset.put x.no item⟩ a v ↔ Fits x a v := by
  intro x
  unfold Fits
  refine and_congr_right (fun _ => and_congr_right (fun _ => not_congr ?_))
  show a ∈ Iset.put x.no item ↔ a ∈ x.no
  rw [Iset.put_mem]
  exact ⟨fun k => k.resolve_left h, Or.inr⟩
 constructor
 ·rintro ⟨x, hx, h1, h2⟩
  obtain ⟨y, hy, rfl⟩ := List.mem_map.1 hx
  exact ⟨y, hy, (hfit y).1 h1, h2⟩
 ·rintro ⟨y, hy, h1, h2⟩
  exact ⟨_, List.mem_map.2 ⟨y, hy, rfl⟩, (hfit y).2 h1, h2⟩
theorem has_down {w : List Int} {x y : V} (hx : Ver.Right x) (hb : y.by_ = x.by_) (hn : x.n ≤ y.n) (h : Vec.Has w y) : Vec.Has w x := by
 rw [Vec.has_at] at h ⊢
 refine ⟨hx, ?_⟩
 rw [← hb]
 have := h.2
 omega
theorem says_down {l : List Fr} {item x y : V} (hx : Ver.Right x) (hb : y.by_ = x.by_) (hn : x.n ≤ y.n) {p : Tx} {n : Int} (h : Says l item y p n) : Says l item x p n := by
 obtain ⟨z, hz, hf, hh⟩ := h
 exact ⟨z, hz, ⟨hf.1, has_down hx hb hn hf.2.1, hf.2.2⟩, hh⟩
theorem whole_down {l : List Fr} {item x y : V} (hx : Ver.Right x) (hb : y.by_ = x.by_) (hn : x.n ≤ y.n) {f : List Cl} (h : ByWhole l item y f) : ByWhole l item x f := by
 obtain ⟨⟨z, hz, hf⟩, hs⟩ := h
 refine ⟨⟨z, hz, hf.1, has_down hx hb hn hf.2.1, hf.2.2⟩, ?_⟩
 rw [whole_says] at hs ⊢
 exact fun p n h => says_down hx hb hn (hs p n h)
theorem has_end {w : List Int} {x : V} (h : Vec.Has w x) : ∃ y ∈ Vec.ends w, y.by_ = x.by_ ∧ x.n ≤ y.n := by
 rw [Vec.has_at] at h
 have hr := h.1
 unfold Ver.Right at hr
 have hn := h.2
 refine ⟨⟨((x.by_.toNat : Nat) : Int), Vec.at_ w x.by_.toNat⟩, (Vec.ends_mem _ _).2 ⟨x.by_.toNat, by omega, by omega, rfl⟩, by simp; omega, hn⟩
def Spare (l : List Fr) (f : List Cl) (i : It) : Prop := ∀ y ∈ Vec.ends i.v, ByWhole l i.item y f
structure Compact (k : K) (f : List Cl) (c : K) : Prop where
 frags : ∀ x, x ∈ c.frags ↔ Kept k.frags x
 items : ∀ i, i ∈ c.items ↔ KeptI k.items i ∧ ¬ Spare c.frags f i
 upF : c.frags.Pairwise FLt
 upI : c.items.Pairwise ILt
theorem compact_contains {k c : K} (hk : SaneK k) {f : List Cl} (h : Compact k f c) (item v : V) : Contains c item v f ↔ Contains k item v f := by
 have hw : ByWhole c.frags item v f ↔ ByWhole k.frags item v f := whole_same (fun x hx => kept_sane hk ((h.frags x).1 hx).1) hk (says_kept h.frags item v) f
 constructor
 ·rintro (⟨i, hi, rfl, hv⟩ | hh)
  ·exact Or.inl ((((h.items i).1 hi).1.2.2 v).1 hv)
  ·exact Or.inr (hw.1 hh)
 ·rintro (hb | hh)
  ·obtain ⟨w, hwp, hy⟩ := joined k.items item
   by_cases hs : Spare c.frags f ⟨item, w⟩
   ·have hv := (hy v).2 hb
    obtain ⟨y, hy1, hy2, hy3⟩ := has_end hv
    exact Or.inr (whole_down hv.1 hy2 hy3 (hs y hy1))
   ·exact Or.inl ⟨⟨item, w⟩, (h.items _).2 ⟨⟨hwp, ⟨v, (hy v).2 hb⟩, hy⟩, hs⟩, rfl, (hy v).2 hb⟩
  ·exact Or.inr (hw.2 hh)
end Go.Proofs.YtpmolinmopgbdaaGreat.Know
