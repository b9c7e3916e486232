/- Filters of the document, as plain data: the sizes at a path, what is matched, the normal form, which filters are alike. No program is spoken of. -/
import Derived.Test.YtabnfaonlkipbaaGreatDoorCom1
namespace Go.Proofs.YtabnfaonlkipbaaGreatDoor.Flt

abbrev Tx := List UInt8

/-- A clause: paths that a prefix covers, of sizes in a range. -/
structure Cl where
  pre : Tx
  lo : Int
  hi : Int
deriving DecidableEq

def rg (c : Cl) : Sz.Rg := (c.lo, c.hi)
/-- P9.1: may a clause be? -/
def Right (c : Cl) : Prop := (c.pre = [] ∨ Pth.Right c.pre) ∧ 0 ≤ c.lo ∧ c.lo ≤ c.hi ∧ c.hi ≤ 200
instance (c : Cl) : Decidable (Right c) := inferInstanceAs (Decidable (_ ∧ _))

/-- The sizes at a path. -/
def sizes (f : List Cl) (p : Tx) : List Sz.Rg := (f.filter fun c => decide (Pth.Covers c.pre p)).map rg
/-- Does a filter match a file? -/
def Match (f : List Cl) (p : Tx) (size : Int) (dead : Bool) : Prop := ∃ c ∈ f, Pth.Covers c.pre p ∧ (dead = true ∨ (0 ≤ size ∧ size ≤ 200 ∧ c.lo ≤ size ∧ size ≤ c.hi))
/-- One prefix more, in its place. -/
def ins (out : List Tx) (p : Tx) : List Tx := if (out.dropWhile fun q => decide (q < p)).head? = some p then out else out.takeWhile (fun q => decide (q < p)) ++ p :: out.dropWhile fun q => decide (q < p)
def prefixes (f : List Cl) : List Tx := f.foldl (fun out c => ins out c.pre) []
def above (f : List Cl) (p : Tx) : List Cl := f.filter fun c => decide (c.pre ≠ p ∧ Pth.Covers c.pre p)
/-- What the clauses of a prefix have that those above it have not. -/
def piece (f : List Cl) (p : Tx) : List Sz.Rg := Sz.two 2 (sizes f p) (sizes (above f p) p)
def clauses (p : Tx) (l : List Sz.Rg) : List Cl := l.map fun r => ⟨p, r.1, r.2⟩
def norm (f : List Cl) : List Cl := (prefixes f).flatMap fun p => clauses p (piece f p)
def Alike (f g : List Cl) : Prop := ∀ p n, Sz.holds (sizes f p) n = Sz.holds (sizes g p) n

/-! ### Order -/
set_option maxRecDepth 100000 in
theorem tlt_irrefl (a : Tx) : ¬ a < a := List.lt_irrefl a
set_option maxRecDepth 100000 in
theorem tlt_trans {a b c : Tx} (h : a < b) (k : b < c) : a < c := List.lt_trans h k
set_option maxRecDepth 100000 in
theorem tlt_or {a b : Tx} (h : a ≠ b) : a < b ∨ b < a := by
  rcases List.le_total a b with h1 | h1
  · rcases List.le_iff_lt_or_eq.1 h1 with h2 | h2
    · exact Or.inl h2
    · exact absurd h2 h
  · rcases List.le_iff_lt_or_eq.1 h1 with h2 | h2
    · exact Or.inr h2
    · exact absurd h2.symm h

def Up (l : List Tx) : Prop := l.Pairwise (· < ·)

set_option maxRecDepth 100000 in
theorem ins_mem {out : List Tx} {p q : Tx} : q ∈ ins out p ↔ q = p ∨ q ∈ out := by
  have e : out.takeWhile (fun q => decide (q < p)) ++ out.dropWhile (fun q => decide (q < p)) = out := List.takeWhile_append_dropWhile
  unfold ins
  split
  · rename_i h
    have hp : p ∈ out := by
      rw [← e]
      exact List.mem_append.2 (Or.inr (List.mem_of_mem_head? (by rw [h]; rfl)))
    constructor
    · exact Or.inr
    · rintro (rfl | h)
      · exact hp
      · exact h
  · constructor
    · intro h
      rcases List.mem_append.1 h with h | h
      · exact Or.inr (by rw [← e]; exact List.mem_append.2 (Or.inl h))
      · rcases List.mem_cons.1 h with h | h
        · exact Or.inl h
        · exact Or.inr (by rw [← e]; exact List.mem_append.2 (Or.inr h))
    · rintro (h | h)
      · rw [h]; simp
      · rw [← e] at h
        rcases List.mem_append.1 h with h | h
        · exact List.mem_append.2 (Or.inl h)
        · exact List.mem_append.2 (Or.inr (List.mem_cons_of_mem _ h))

set_option maxRecDepth 100000 in
theorem take_lt : ∀ {l : List Tx} {p : Tx}, ∀ q ∈ l.takeWhile (fun q => decide (q < p)), q < p := by
  intro l p
  induction l with
  | nil => intro q hq; cases hq
  | cons x l ih =>
    intro q hq
    by_cases hx : x < p
    · rw [List.takeWhile_cons_of_pos (by simpa using hx)] at hq
      rcases List.mem_cons.1 hq with e | e
      · rw [e]; exact hx
      · exact ih q e
    · rw [List.takeWhile_cons_of_neg (by simpa using hx)] at hq
      cases hq

set_option maxRecDepth 100000 in
theorem drop_ge {l : List Tx} (h : Up l) {p : Tx} : ∀ q ∈ l.dropWhile (fun q => decide (q < p)), ¬ q < p := by
  induction l with
  | nil => intro q hq; cases hq
  | cons x l ih =>
    intro q hq
    have hl := (List.pairwise_cons.1 h)
    by_cases hx : x < p
    · rw [List.dropWhile_cons_of_pos (by simpa using hx)] at hq
      exact ih hl.2 q hq
    · rw [List.dropWhile_cons_of_neg (by simpa using hx)] at hq
      rcases List.mem_cons.1 hq with e | e
      · rw [e]; exact hx
      · exact fun hh => hx (tlt_trans (hl.1 q e) hh)

set_option maxRecDepth 100000 in
theorem ins_up {out : List Tx} (h : Up out) (p : Tx) : Up (ins out p) := by
  have e : out.takeWhile (fun q => decide (q < p)) ++ out.dropWhile (fun q => decide (q < p)) = out := List.takeWhile_append_dropWhile
  unfold ins
  split
  · exact h
  · rename_i hne
    have h' := h
    rw [← e] at h'
    have hp := List.pairwise_append.1 h'
    have hgt : ∀ q ∈ out.dropWhile (fun q => decide (q < p)), p < q := by
      cases hd : out.dropWhile (fun q => decide (q < p)) with
      | nil => intro q hq; cases hq
      | cons x r =>
        have hx : ¬ x < p := drop_ge h x (by rw [hd]; simp)
        have hxp : x ≠ p := fun e2 => hne (by rw [hd, e2]; rfl)
        have hpx : p < x := (tlt_or hxp).resolve_left hx
        have hpr := hp.2.1
        rw [hd] at hpr
        intro q hq
        rcases List.mem_cons.1 hq with e2 | e2
        · rw [e2]; exact hpx
        · exact tlt_trans hpx ((List.pairwise_cons.1 hpr).1 q e2)
    refine List.pairwise_append.2 ⟨hp.1, List.pairwise_cons.2 ⟨hgt, hp.2.1⟩, fun a ha b hb => ?_⟩
    rcases List.mem_cons.1 hb with e2 | e2
    · rw [e2]; exact take_lt a ha
    · exact tlt_trans (take_lt a ha) (hgt b e2)

set_option maxRecDepth 100000 in
theorem prefixes_aux (f : List Cl) : ∀ out : List Tx, Up out → Up (f.foldl (fun out c => ins out c.pre) out) ∧ ∀ q, q ∈ f.foldl (fun out c => ins out c.pre) out ↔ q ∈ out ∨ ∃ c ∈ f, c.pre = q := by
  induction f with
  | nil => intro out h; exact ⟨h, fun q => by simp⟩
  | cons c f ih =>
    intro out h
    obtain ⟨h1, h2⟩ := ih (ins out c.pre) (ins_up h c.pre)
    refine ⟨h1, fun q => ?_⟩
    rw [List.foldl_cons, h2 q, ins_mem]
    constructor
    · rintro ((h | h) | ⟨x, hx, h⟩)
      · exact Or.inr ⟨c, by simp, h.symm⟩
      · exact Or.inl h
      · exact Or.inr ⟨x, List.mem_cons_of_mem _ hx, h⟩
    · rintro (h | ⟨x, hx, h⟩)
      · exact Or.inl (Or.inr h)
      · rcases List.mem_cons.1 hx with e | e
        · exact Or.inl (Or.inl (by rw [← h, e]))
        · exact Or.inr ⟨x, e, h⟩

set_option maxRecDepth 100000 in
theorem prefixes_up (f : List Cl) : Up (prefixes f) := (prefixes_aux f [] List.Pairwise.nil).1
set_option maxRecDepth 100000 in
theorem prefixes_mem (f : List Cl) (q : Tx) : q ∈ prefixes f ↔ ∃ c ∈ f, c.pre = q := by
  have := (prefixes_aux f [] List.Pairwise.nil).2 q
  unfold prefixes
  rw [this]
  simp

/-! ### Sizes at paths -/
set_option maxRecDepth 100000 in
theorem sizes_holds (f : List Cl) (p : Tx) (n : Int) : Sz.holds (sizes f p) n = true ↔ (0 ≤ n ∧ n ≤ 200) ∧ ∃ c ∈ f, Pth.Covers c.pre p ∧ c.lo ≤ n ∧ n ≤ c.hi := by
  unfold Sz.holds sizes
  rw [Bool.and_eq_true, decide_eq_true_eq, List.any_eq_true]
  refine and_congr Iff.rfl ?_
  constructor
  · rintro ⟨r, hr, h⟩
    obtain ⟨c, hc, rfl⟩ := List.mem_map.1 hr
    obtain ⟨hc1, hc2⟩ := List.mem_filter.1 hc
    have h : c.lo ≤ n ∧ n ≤ c.hi := of_decide_eq_true h
    exact ⟨c, hc1, by simpa using hc2, h⟩
  · rintro ⟨c, hc, h1, h2⟩
    refine ⟨rg c, List.mem_map.2 ⟨c, List.mem_filter.2 ⟨hc, by simpa using h1⟩, rfl⟩, ?_⟩
    exact decide_eq_true h2

set_option maxRecDepth 100000 in
theorem covers_both {a b p : Tx} (ha : Pth.Covers a p) (hb : Pth.Covers b p) (hl : a.length ≤ b.length) : Pth.Covers a b := by
  rcases ha with rfl | rfl | ⟨a1, a2, a3⟩
  · exact Pth.covers_nil _
  · have := Pth.covers_len hb
    have hb2 : b.length = a.length := by omega
    rcases hb with rfl | rfl | ⟨b1, _, _⟩
    · have : a = [] := List.eq_nil_of_length_eq_zero (by rw [← hb2]; rfl)
      rw [this]; exact Pth.covers_refl _
    · exact Pth.covers_refl _
    · omega
  · rcases hb with rfl | rfl | ⟨b1, b2, b3⟩
    · have : a = [] := List.eq_nil_of_length_eq_zero (by simpa using hl)
      rw [this]; exact Pth.covers_refl _
    · exact Or.inr (Or.inr ⟨a1, a2, a3⟩)
    · by_cases e : a.length = b.length
      · have : a = b := by rw [← a2, ← b2, e]
        rw [this]; exact Pth.covers_refl _
      · have hlt : a.length < b.length := by omega
        refine Or.inr (Or.inr ⟨hlt, ?_, ?_⟩)
        · rw [← b2, List.take_take, Nat.min_eq_left (by omega)]; exact a2
        · rw [← b2, List.getElem?_take_of_lt hlt]; exact a3

set_option maxRecDepth 100000 in
/-- What stands above a prefix, by the sizes at other paths alone. -/
theorem above_holds (f : List Cl) (p : Tx) (n : Int) : Sz.holds (sizes (above f p) p) n = true ↔ ∃ q, Pth.Covers q p ∧ q ≠ p ∧ Sz.holds (sizes f q) n = true := by
  rw [sizes_holds]
  constructor
  · rintro ⟨hn, c, hc, h1, h2⟩
    obtain ⟨hc1, hc2⟩ := List.mem_filter.1 hc
    have hc2 : c.pre ≠ p ∧ Pth.Covers c.pre p := by simpa using hc2
    exact ⟨c.pre, h1, hc2.1, (sizes_holds f c.pre n).2 ⟨hn, c, hc1, Pth.covers_refl _, h2⟩⟩
  · rintro ⟨q, hq, hne, h⟩
    obtain ⟨hn, c, hc, h1, h2⟩ := (sizes_holds f q n).1 h
    have hcp := Pth.covers_trans h1 hq
    refine ⟨hn, c, List.mem_filter.2 ⟨hc, ?_⟩, hcp, h2⟩
    simp only [decide_eq_true_eq]
    refine ⟨fun e => ?_, hcp⟩
    exact hne (Pth.covers_anti hq (by rw [e] at h1; exact h1))

set_option maxRecDepth 100000 in
theorem piece_holds (f : List Cl) (p : Tx) (n : Int) (hn : 0 ≤ n ∧ n ≤ 200) : Sz.holds (piece f p) n = true ↔ Sz.holds (sizes f p) n = true ∧ ¬ ∃ q, Pth.Covers q p ∧ q ≠ p ∧ Sz.holds (sizes f q) n = true := by
  unfold piece
  rw [Sz.two_holds 2 _ _ n hn, ← above_holds]
  unfold Sz.pick
  cases Sz.holds (sizes f p) n <;> cases Sz.holds (sizes (above f p) p) n <;> simp

set_option maxRecDepth 100000 in
theorem alike_above {f g : List Cl} (h : Alike f g) (p : Tx) (n : Int) : Sz.holds (sizes (above f p) p) n = Sz.holds (sizes (above g p) p) n := by
  rw [Bool.eq_iff_iff, above_holds, above_holds]
  constructor
  · rintro ⟨q, h1, h2, h3⟩; exact ⟨q, h1, h2, by rw [← h]; exact h3⟩
  · rintro ⟨q, h1, h2, h3⟩; exact ⟨q, h1, h2, by rw [h]; exact h3⟩

set_option maxRecDepth 100000 in
theorem piece_same {f g : List Cl} (h : Alike f g) (p : Tx) : piece f p = piece g p := by
  unfold piece Sz.two
  congr 1
  refine List.map_congr_left (fun k _ => ?_)
  rw [h p, alike_above h p]

set_option maxRecDepth 100000 in
theorem two_none {k : Nat} {a b : List Sz.Rg} (h : ∀ n : Int, 0 ≤ n → n ≤ 200 → Sz.pick k (Sz.holds a n) (Sz.holds b n) = false) : Sz.two k a b = [] := by
  unfold Sz.two Sz.form
  rw [Sz.formR_none]
  intro x hx
  obtain ⟨i, hi, rfl⟩ := List.mem_map.1 hx
  have := List.mem_range.1 hi
  exact h _ (by omega) (by omega)

set_option maxRecDepth 100000 in
theorem piece_out {f : List Cl} {p : Tx} (h : p ∉ prefixes f) : piece f p = [] := by
  unfold piece
  refine two_none (fun n h0 h1 => ?_)
  unfold Sz.pick
  cases hs : Sz.holds (sizes f p) n
  · rfl
  · obtain ⟨hn, c, hc, hcp, h2⟩ := (sizes_holds f p n).1 hs
    have hne : c.pre ≠ p := fun e => h ((prefixes_mem f p).2 ⟨c, hc, e⟩)
    rw [(above_holds f p n).2 ⟨c.pre, hcp, hne, (sizes_holds f c.pre n).2 ⟨hn, c, hc, Pth.covers_refl _, h2⟩⟩]
    rfl

/-! ### The normal form -/
set_option maxRecDepth 100000 in
theorem norm_mem {f : List Cl} {c : Cl} : c ∈ norm f ↔ (c.lo, c.hi) ∈ piece f c.pre := by
  unfold norm clauses
  rw [List.mem_flatMap]
  constructor
  · rintro ⟨p, hp, h⟩
    obtain ⟨r, hr, rfl⟩ := List.mem_map.1 h
    exact hr
  · intro h
    refine ⟨c.pre, ?_, List.mem_map.2 ⟨(c.lo, c.hi), h, rfl⟩⟩
    refine Classical.byContradiction (fun hn => ?_)
    rw [piece_out hn] at h
    cases h

set_option maxRecDepth 100000 in
theorem holds_mem {l : List Sz.Rg} {n : Int} : Sz.holds l n = true ↔ (0 ≤ n ∧ n ≤ 200) ∧ ∃ r ∈ l, r.1 ≤ n ∧ n ≤ r.2 := by
  unfold Sz.holds
  rw [Bool.and_eq_true, decide_eq_true_eq, List.any_eq_true]
  simp

set_option maxRecDepth 100000 in
theorem norm_sizes (f : List Cl) (p : Tx) (n : Int) : Sz.holds (sizes (norm f) p) n = true ↔ (0 ≤ n ∧ n ≤ 200) ∧ ∃ q, Pth.Covers q p ∧ Sz.holds (piece f q) n = true := by
  rw [sizes_holds]
  refine and_congr_right (fun hn => ?_)
  constructor
  · rintro ⟨c, hc, h1, h2⟩
    exact ⟨c.pre, h1, holds_mem.2 ⟨hn, (c.lo, c.hi), norm_mem.1 hc, h2⟩⟩
  · rintro ⟨q, hq, h⟩
    obtain ⟨_, r, hr, h2⟩ := holds_mem.1 h
    exact ⟨⟨q, r.1, r.2⟩, norm_mem.2 hr, hq, h2⟩

set_option maxRecDepth 100000 in
/-- Of what covers a path and has something, the least. -/
theorem least {P : Tx → Prop} : ∀ (k : Nat) (q : Tx), q.length ≤ k → P q → ∃ q, P q ∧ ∀ r, P r → q.length ≤ r.length
  | 0, q, hk, h => ⟨q, h, fun r _ => by omega⟩
  | k + 1, q, hk, h => by
    by_cases hx : ∃ r, P r ∧ r.length < q.length
    · obtain ⟨r, hr, hl⟩ := hx
      exact least k r (by omega) hr
    · exact ⟨q, h, fun r hr => Nat.le_of_not_lt (fun hl => hx ⟨r, hr, hl⟩)⟩

set_option maxRecDepth 100000 in
theorem norm_alike (f : List Cl) : Alike (norm f) f := by
  intro p n
  rw [Bool.eq_iff_iff, norm_sizes]
  constructor
  · rintro ⟨hn, q, hq, h⟩
    obtain ⟨h1, _⟩ := (piece_holds f q n hn).1 h
    obtain ⟨_, c, hc, hcq, h2⟩ := (sizes_holds f q n).1 h1
    exact (sizes_holds f p n).2 ⟨hn, c, hc, Pth.covers_trans hcq hq, h2⟩
  · intro h
    have hn := ((sizes_holds f p n).1 h).1
    obtain ⟨q, ⟨hq, hqn⟩, hmin⟩ := least (P := fun q => Pth.Covers q p ∧ Sz.holds (sizes f q) n = true) p.length p (Nat.le_refl _) ⟨Pth.covers_refl _, h⟩
    refine ⟨hn, q, hq, (piece_holds f q n hn).2 ⟨hqn, ?_⟩⟩
    rintro ⟨r, hr, hne, hrn⟩
    have h1 := hmin r ⟨Pth.covers_trans hr hq, hrn⟩
    have h2 := Pth.covers_len hr
    rcases hr with rfl | rfl | ⟨h3, _, _⟩
    · exact hne (List.eq_nil_of_length_eq_zero (by simpa using h1)).symm
    · exact hne rfl
    · omega

set_option maxRecDepth 100000 in
theorem flatMap_keep {α β : Type} (h : α → List β) (l : List α) : l.flatMap h = (l.filter fun a => !(h a).isEmpty).flatMap h := by
  induction l with
  | nil => rfl
  | cons x l ih =>
    rw [List.flatMap_cons, ih]
    cases hx : h x with
    | nil => simp [hx]
    | cons y r => simp [hx]

set_option maxRecDepth 100000 in
theorem up_same : ∀ {l m : List Tx}, Up l → Up m → (∀ x, x ∈ l ↔ x ∈ m) → l = m := by
  intro l m hl hm h
  refine List.Perm.eq_of_pairwise (le := fun a b : Tx => a < b) (fun a b _ _ h1 h2 => absurd (tlt_trans h1 h2) (tlt_irrefl a)) hl hm ?_
  rw [List.perm_ext_iff_of_nodup (hl.imp (fun {a b} hab e => by subst e; exact tlt_irrefl _ hab)) (hm.imp (fun {a b} hab e => by subst e; exact tlt_irrefl _ hab))]
  exact h

set_option maxRecDepth 100000 in
theorem norm_same {f g : List Cl} (h : Alike f g) : norm f = norm g := by
  unfold norm
  rw [flatMap_keep, flatMap_keep (l := prefixes g)]
  have he : (fun p => clauses p (piece f p)) = fun p => clauses p (piece g p) := by
    funext p; rw [piece_same h]
  rw [he]
  congr 1
  refine up_same ((prefixes_up f).filter _) ((prefixes_up g).filter _) (fun x => ?_)
  rw [List.mem_filter, List.mem_filter, piece_same h x]
  refine and_congr_left (fun hx => ?_)
  have hg : piece g x ≠ [] := fun e => by rw [e] at hx; exact absurd hx (by simp [clauses])
  have hf : piece f x ≠ [] := by rw [piece_same h]; exact hg
  constructor
  · intro _
    refine Classical.byContradiction (fun hn => hg (piece_out hn))
  · intro _
    refine Classical.byContradiction (fun hn => hf (piece_out hn))

set_option maxRecDepth 100000 in
theorem alike_symm {f g : List Cl} (h : Alike f g) : Alike g f := fun p n => (h p n).symm
set_option maxRecDepth 100000 in
theorem alike_trans {f g k : List Cl} (h : Alike f g) (h2 : Alike g k) : Alike f k := fun p n => (h p n).trans (h2 p n)
set_option maxRecDepth 100000 in
theorem norm_norm (f : List Cl) : norm (norm f) = norm f := norm_same (norm_alike f)
set_option maxRecDepth 100000 in
theorem alike_iff (f g : List Cl) : Alike f g ↔ norm f = norm g :=
  ⟨norm_same, fun h => alike_trans (alike_symm (norm_alike f)) (by rw [h]; exact norm_alike g)⟩

set_option maxRecDepth 100000 in
/-- Asked at all prefixes. -/
theorem alike_at (f g : List Cl) : Alike f g ↔ ∀ p ∈ prefixes f ++ prefixes g ++ [[]], ∀ n, Sz.holds (sizes f p) n = Sz.holds (sizes g p) n := by
  constructor
  · intro h p _ n; exact h p n
  · intro h
    -- of the prefixes that cover a path, the longest
    have hmost : ∀ p : Tx, ∃ q ∈ prefixes f ++ prefixes g ++ [[]], Pth.Covers q p ∧ ∀ r ∈ prefixes f ++ prefixes g ++ [[]], Pth.Covers r p → r.length ≤ q.length := by
      intro p
      have : ∀ l : List Tx, (∃ r ∈ l, Pth.Covers r p) → ∃ q ∈ l, Pth.Covers q p ∧ ∀ r ∈ l, Pth.Covers r p → r.length ≤ q.length := by
        intro l
        induction l with
        | nil => rintro ⟨r, hr, _⟩; cases hr
        | cons x l ih =>
          intro hx
          by_cases hl : ∃ r ∈ l, Pth.Covers r p
          · obtain ⟨q, hq, hc, hm⟩ := ih hl
            by_cases hxc : Pth.Covers x p ∧ q.length < x.length
            · refine ⟨x, by simp, hxc.1, fun r hr hrc => ?_⟩
              rcases List.mem_cons.1 hr with e | e
              · rw [e]; exact Nat.le_refl _
              · have := hm r e hrc; omega
            · refine ⟨q, List.mem_cons_of_mem _ hq, hc, fun r hr hrc => ?_⟩
              rcases List.mem_cons.1 hr with e | e
              · rw [e] at hrc ⊢
                exact Nat.le_of_not_lt (fun hlt => hxc ⟨hrc, hlt⟩)
              · exact hm r e hrc
          · obtain ⟨r, hr, hrc⟩ := hx
            rcases List.mem_cons.1 hr with e | e
            · refine ⟨x, by simp, by rw [← e]; exact hrc, fun y hy hyc => ?_⟩
              rcases List.mem_cons.1 hy with e2 | e2
              · rw [e2]; exact Nat.le_refl _
              · exact absurd ⟨y, e2, hyc⟩ hl
            · exact absurd ⟨r, e, hrc⟩ hl
      exact this _ ⟨[], by simp, Pth.covers_nil _⟩
    intro p n
    obtain ⟨q, hq, hqp, hm⟩ := hmost p
    have hsame : ∀ k : List Cl, (∀ c ∈ k, c.pre ∈ prefixes f ++ prefixes g ++ [[]]) → Sz.holds (sizes k p) n = Sz.holds (sizes k q) n := by
      intro k hk
      rw [Bool.eq_iff_iff, sizes_holds, sizes_holds]
      refine and_congr_right (fun _ => ?_)
      constructor
      · rintro ⟨c, hc, h1, h2⟩
        exact ⟨c, hc, covers_both h1 hqp (hm _ (hk c hc) h1), h2⟩
      · rintro ⟨c, hc, h1, h2⟩
        exact ⟨c, hc, Pth.covers_trans h1 hqp, h2⟩
    rw [hsame f (fun c hc => by simp only [List.mem_append]; exact Or.inl (Or.inl ((prefixes_mem f _).2 ⟨c, hc, rfl⟩))), hsame g (fun c hc => by simp only [List.mem_append]; exact Or.inl (Or.inr ((prefixes_mem g _).2 ⟨c, hc, rfl⟩)))]
    exact h q hq n

set_option maxRecDepth 100000 in
theorem norm_right {f : List Cl} (h : ∀ c ∈ f, Right c) : ∀ c ∈ norm f, Right c := by
  intro c hc
  have hp := norm_mem.1 hc
  have hin : c.pre ∈ prefixes f := by
    refine Classical.byContradiction (fun hn => ?_)
    rw [piece_out hn] at hp
    cases hp
  obtain ⟨c', hc', e⟩ := (prefixes_mem f _).1 hin
  have hb := Sz.formR_bd _ 0 none (by simp) (fun lo h => by cases h) _ hp
  refine ⟨by rw [← e]; exact (h c' hc').1, hb.1, hb.2.1, hb.2.2⟩

set_option maxRecDepth 100000 in
/-- A filter that may be, and its normal form, match the same files. -/
theorem norm_match {f : List Cl} (h : ∀ c ∈ f, Right c) (p : Tx) (size : Int) (dead : Bool) : Match (norm f) p size dead ↔ Match f p size dead := by
  cases dead
  · have hiff : ∀ k : List Cl, Match k p size false ↔ Sz.holds (sizes k p) size = true := by
      intro k
      rw [sizes_holds]
      constructor
      · rintro ⟨c, hc, h1, h2⟩
        obtain ⟨a, b, x, y⟩ := h2.resolve_left (by simp)
        exact ⟨⟨a, b⟩, c, hc, h1, x, y⟩
      · rintro ⟨⟨a, b⟩, c, hc, h1, x, y⟩
        exact ⟨c, hc, h1, Or.inr ⟨a, b, x, y⟩⟩
    rw [hiff, hiff, norm_alike f p size]
  · constructor
    · rintro ⟨c, hc, h1, _⟩
      have hp := norm_mem.1 hc
      have hin : c.pre ∈ prefixes f := by
        refine Classical.byContradiction (fun hn => ?_)
        rw [piece_out hn] at hp
        cases hp
      obtain ⟨c', hc', e⟩ := (prefixes_mem f _).1 hin
      exact ⟨c', hc', by rw [e]; exact h1, Or.inl rfl⟩
    · rintro ⟨c, hc, h1, _⟩
      obtain ⟨q, ⟨c0, hc0, hq, hq1⟩, hmin⟩ := least (P := fun q => ∃ c ∈ f, c.pre = q ∧ Pth.Covers q p) c.pre.length c.pre (Nat.le_refl _) ⟨c, hc, rfl, h1⟩
      have hr := (h c0 hc0).2
      have hn : 0 ≤ c0.lo ∧ c0.lo ≤ 200 := by omega
      have hp : Sz.holds (piece f q) c0.lo = true := by
        rw [piece_holds f q _ hn]
        refine ⟨(sizes_holds f q _).2 ⟨hn, c0, hc0, by rw [hq]; exact Pth.covers_refl _, by omega, by omega⟩, ?_⟩
        rintro ⟨r, hrq, hne, hrn⟩
        obtain ⟨_, c1, hc1, h3, _⟩ := (sizes_holds f r _).1 hrn
        have h4 := hmin c1.pre ⟨c1, hc1, rfl, Pth.covers_trans h3 (Pth.covers_trans hrq hq1)⟩
        have h5 := Pth.covers_len h3
        have h6 := Pth.covers_len hrq
        rcases hrq with rfl | rfl | ⟨h7, _, _⟩
        · exact hne (List.eq_nil_of_length_eq_zero (by have h8 : ([] : Tx).length = 0 := rfl; omega)).symm
        · exact hne rfl
        · omega
      obtain ⟨_, x, hx, _⟩ := holds_mem.1 hp
      exact ⟨⟨q, x.1, x.2⟩, norm_mem.2 hx, hq1, Or.inl rfl⟩
end Go.Proofs.YtabnfaonlkipbaaGreatDoor.Flt
