import Derived.Test.YtpafpegcodempaaGreatCom5
import Derived.Test.YtpafpegcodempaaGreatCom3
import Derived.Test.YtpafpegcodempaaGreatCom4
import Derived.Test.YtpafpegcodempaaGreatCom2
import Derived.Lib.Hide
import Derived.OwnWalk
import Derived.Laws.BitsAllLaws
import Derived.Deep.Slices
import Derived.Lib.Strings
import Derived.Laws.IdiomCopy
import Derived.Laws.OwnMore
import Derived.Lib.SlicesCompact
import Derived.Tactics
set_option maxRecDepth 100000
set_option linter.all false
namespace Go.Proofs.YtpafpegcodempaaGreat.Flt
abbrev Tx := List UInt8
structure Cl where
 pre : Tx
 lo : Int
 hi : Int
deriving DecidableEq
def rg (c : Cl) : Sz.Rg := (c.lo, c.hi)
def Right (c : Cl) : Prop := (c.pre = [] ∨ Pth.Right c.pre) ∧ 0 ≤ c.lo ∧ c.lo ≤ c.hi ∧ c.hi ≤ 200
instance (c : Cl) : Decidable (Right c) := inferInstanceAs (Decidable (_ ∧ _))
def sizes (f : List Cl) (p : Tx) : List Sz.Rg := (f.filter fun c => decide (Pth.Covers c.pre p)).map rg
def Match (f : List Cl) (p : Tx) (size : Int) (dead : Bool) : Prop := ∃ c ∈ f, Pth.Covers c.pre p ∧ (dead = true ∨ (0 ≤ size ∧ size ≤ 200 ∧ c.lo ≤ size ∧ size ≤ c.hi))
def ins (out : List Tx) (p : Tx) : List Tx := if (out.dropWhile fun q => decide (q < p)).head? = some p then out else out.takeWhile (fun q => decide (q < p)) ++ p :: out.dropWhile fun q => decide (q < p)
def prefixes (f : List Cl) : List Tx := f.foldl (fun out c => ins out c.pre) []
def above (f : List Cl) (p : Tx) : List Cl := f.filter fun c => decide (c.pre ≠ p ∧ Pth.Covers c.pre p)
def piece (f : List Cl) (p : Tx) : List Sz.Rg := Sz.two 2 (sizes f p) (sizes (above f p) p)
def clauses (p : Tx) (l : List Sz.Rg) : List Cl := l.map fun r => ⟨p, r.1, r.2⟩
def norm (f : List Cl) : List Cl := (prefixes f).flatMap fun p => clauses p (piece f p)
def Alike (f g : List Cl) : Prop := ∀ p n, Sz.holds (sizes f p) n = Sz.holds (sizes g p) n
theorem tlt_irrefl (a : Tx) : ¬ a < a := List.lt_irrefl a
theorem tlt_trans {a b c : Tx} (h : a < b) (k : b < c) : a < c := List.lt_trans h k
theorem tlt_or {a b : Tx} (h : a ≠ b) : a < b ∨ b < a := by
 rcases List.le_total a b with h1 | h1
 ·rcases List.le_iff_lt_or_eq.1 h1 with h2 | h2
  ·exact Or.inl h2
  ·exact absurd h2 h
 ·rcases List.le_iff_lt_or_eq.1 h1 with h2 | h2
  ·exact Or.inr h2
  ·exact absurd h2.symm h
def Up (l : List Tx) : Prop := l.Pairwise (· < ·)
theorem ins_mem {out : List Tx} {p q : Tx} : q ∈ ins out p ↔ q = p ∨ q ∈ out := by
 have e : out.takeWhile (fun q => decide (q < p)) ++ out.dropWhile (fun q => decide (q < p)) = out := List.takeWhile_append_dropWhile
 unfold ins
 split
 ·rename_i h
  have hp : p ∈ out := by
   rw [← e]
   exact List.mem_append.2 (Or.inr (List.mem_of_mem_head? (by rw [h]; rfl)))
  constructor
  ·exact Or.inr
  ·rintro (rfl | h)
   ·exact hp
   ·exact h
 ·constructor
  ·intro h
   rcases List.mem_append.1 h with h | h
   ·exact Or.inr (by rw [← e]; exact List.mem_append.2 (Or.inl h))
   ·rcases List.mem_cons.1 h with h | h
    ·exact Or.inl h
    ·exact Or.inr (by rw [← e]; exact List.mem_append.2 (Or.inr h))
  ·rintro (h | h)
   ·rw [h]; simp
   ·rw [← e] at h
    rcases List.mem_append.1 h with h | h
    ·exact List.mem_append.2 (Or.inl h)
    ·exact List.mem_append.2 (Or.inr (List.mem_cons_of_mem _ h))
theorem take_lt : ∀ {l : List Tx} {p : Tx}, ∀ q ∈ l.takeWhile (fun q => decide (q < p)), q < p := by
 intro l p
 induction l with
 | nil => intro q hq; cases hq
 | cons x l ih =>
  intro q hq
  by_cases hx : x < p
  ·rw [List.takeWhile_cons_of_pos (by simpa using hx)] at hq
   rcases List.mem_cons.1 hq with e | e
   ·rw [e]; exact hx
   ·exact ih q e
  ·rw [List.takeWhile_cons_of_neg (by simpa using hx)] at hq
   cases hq
theorem drop_ge {l : List Tx} (h : Up l) {p : Tx} : ∀ q ∈ l.dropWhile (fun q => decide (q < p)), ¬ q < p := by
 induction l with
 | nil => intro q hq; cases hq
 | cons x l ih =>
  intro q hq
  have hl := (List.pairwise_cons.1 h)
  by_cases hx : x < p
  ·rw [List.dropWhile_cons_of_pos (by simpa using hx)] at hq
   exact ih hl.2 q hq
  ·rw [List.dropWhile_cons_of_neg (by simpa using hx)] at hq
   rcases List.mem_cons.1 hq with e | e
   ·rw [e]; exact hx
   ·exact fun hh => hx (tlt_trans (hl.1 q e) hh)
theorem ins_up {out : List Tx} (h : Up out) (p : Tx) : Up (ins out p) := by
 have e : out.takeWhile (fun q => decide (q < p)) ++ out.dropWhile (fun q => decide (q < p)) = out := List.takeWhile_append_dropWhile
 unfold ins
 split
 ·exact h
 ·rename_i hne
  have h' := h
  rw [← e] at h'
  have hp := List.pairwise_append.1 h'
  have hgt : ∀ q ∈ out.dropWhile (fun q => decide (q < p)), p < q := by
   cases hd : out.dropWhile (fun q => decide (q < p)) with
   | nil => intro q hq; cases hq
   | cons x r =>
    have hx : ¬ x < p := drop_ge h x (by rw [hd]; simp)
    have hxp : x ≠ p := fun e2 => hne (by rw [hd, e2]; rfl)
    have hpx : p < x := (tlt_or hxp).resolve_left hx
    have hpr := hp.2.1
    rw [hd] at hpr
    intro q hq
    rcases List.mem_cons.1 hq with e2 | e2
    ·rw [e2]; exact hpx
    ·exact tlt_trans hpx ((List.pairwise_cons.1 hpr).1 q e2)
  refine List.pairwise_append.2 ⟨hp.1, List.pairwise_cons.2 ⟨hgt, hp.2.1⟩, fun a ha b hb => ?_⟩
  rcases List.mem_cons.1 hb with e2 | e2
  ·rw [e2]; exact take_lt a ha
  ·exact tlt_trans (take_lt a ha) (hgt b e2)
theorem prefixes_aux (f : List Cl) : ∀ out : List Tx, Up out → Up (f.foldl (fun out c => ins out c.pre) out) ∧ ∀ q, q ∈ f.foldl (fun out c => ins out c.pre) out ↔ q ∈ out ∨ ∃ c ∈ f, c.pre = q := by
 induction f with
 | nil => intro out h; exact ⟨h, fun q => by simp⟩
 | cons c f ih =>
  intro out h
  obtain ⟨h1, h2⟩ := ih (ins out c.pre) (ins_up h c.pre)
  refine ⟨h1, fun q => ?_⟩
  rw [List.foldl_cons, h2 q, ins_mem]
  constructor
  ·rintro ((h | h) | ⟨x, hx, h⟩)
   ·exact Or.inr ⟨c, by simp, h.symm⟩
   ·exact Or.inl h
   ·exact Or.inr ⟨x, List.mem_cons_of_mem _ hx, h⟩
  ·rintro (h | ⟨x, hx, h⟩)
   ·exact Or.inl (Or.inr h)
   ·rcases List.mem_cons.1 hx with e | e
    ·exact Or.inl (Or.inl (by rw [← h, e]))
    ·exact Or.inr ⟨x, e, h⟩
theorem prefixes_up (f : List Cl) : Up (prefixes f) := (prefixes_aux f [] List.Pairwise.nil).1
theorem prefixes_mem (f : List Cl) (q : Tx) : q ∈ prefixes f ↔ ∃ c ∈ f, c.pre = q := by
 have := (prefixes_aux f [] List.Pairwise.nil).2 q
 unfold prefixes
 rw [this]
 simp
theorem sizes_holds (f : List Cl) (p : Tx) (n : Int) : Sz.holds (sizes f p) n = true ↔ (0 ≤ n ∧ n ≤ 200) ∧ ∃ c ∈ f, Pth.Covers c.pre p ∧ c.lo ≤ n ∧ n ≤ c.hi := by
 unfold Sz.holds sizes
 rw [Bool.and_eq_true, decide_eq_true_eq, List.any_eq_true]
 refine and_congr Iff.rfl ?_
 constructor
 ·rintro ⟨r, hr, h⟩
  obtain ⟨c, hc, rfl⟩ := List.mem_map.1 hr
  obtain ⟨hc1, hc2⟩ := List.mem_filter.1 hc
  have h : c.lo ≤ n ∧ n ≤ c.hi := of_decide_eq_true h
  exact ⟨c, hc1, by simpa using hc2, h⟩
 ·rintro ⟨c, hc, h1, h2⟩
  refine ⟨rg c, List.mem_map.2 ⟨c, List.mem_filter.2 ⟨hc, by simpa using h1⟩, rfl⟩, ?_⟩
  exact decide_eq_true h2
theorem above_holds (f : List Cl) (p : Tx) (n : Int) : Sz.holds (sizes (above f p) p) n = true ↔ ∃ q, Pth.Covers q p ∧ q ≠ p ∧ Sz.holds (sizes f q) n = true := by
 rw [sizes_holds]
 constructor
 ·rintro ⟨hn, c, hc, h1, h2⟩
  obtain ⟨hc1, hc2⟩ := List.mem_filter.1 hc
  have hc2 : c.pre ≠ p ∧ Pth.Covers c.pre p := by simpa using hc2
  exact ⟨c.pre, h1, hc2.1, (sizes_holds f c.pre n).2 ⟨hn, c, hc1, Pth.covers_refl _, h2⟩⟩
 ·rintro ⟨q, hq, hne, h⟩
  obtain ⟨hn, c, hc, h1, h2⟩ := (sizes_holds f q n).1 h
  have hcp := Pth.covers_trans h1 hq
  refine ⟨hn, c, List.mem_filter.2 ⟨hc, ?_⟩, hcp, h2⟩
  simp only [decide_eq_true_eq]
  refine ⟨fun e => ?_, hcp⟩
  exact hne (Pth.covers_anti hq (by rw [e] at h1; exact h1))
theorem piece_holds (f : List Cl) (p : Tx) (n : Int) (hn : 0 ≤ n ∧ n ≤ 200) : Sz.holds (piece f p) n = true ↔ Sz.holds (sizes f p) n = true ∧ ¬ ∃ q, Pth.Covers q p ∧ q ≠ p ∧ Sz.holds (sizes f q) n = true := by
 unfold piece
 rw [Sz.two_holds 2 _ _ n hn, ← above_holds]
 unfold Sz.pick
 cases Sz.holds (sizes f p) n <;> cases Sz.holds (sizes (above f p) p) n <;> simp
theorem alike_above {f g : List Cl} (h : Alike f g) (p : Tx) (n : Int) : Sz.holds (sizes (above f p) p) n = Sz.holds (sizes (above g p) p) n := by
 rw [Bool.eq_iff_iff, above_holds, above_holds]
 constructor
 ·rintro ⟨q, h1, h2, h3⟩; exact ⟨q, h1, h2, by rw [← h]; exact h3⟩
 ·rintro ⟨q, h1, h2, h3⟩; exact ⟨q, h1, h2, by rw [h]; exact h3⟩
theorem piece_same {f g : List Cl} (h : Alike f g) (p : Tx) : piece f p = piece g p := by
 unfold piece Sz.two
 congr 1
 refine List.map_congr_left (fun k _ => ?_)
 rw [h p, alike_above h p]
theorem two_none {k : Nat} {a b : List Sz.Rg} (h : ∀ n : Int, 0 ≤ n → n ≤ 200 → Sz.pick k (Sz.holds a n) (Sz.holds b n) = false) : Sz.two k a b = [] := by
 unfold Sz.two Sz.form
 rw [Sz.formR_none]
 intro x hx
 obtain ⟨i, hi, rfl⟩ := List.mem_map.1 hx
 have := List.mem_range.1 hi
 exact h _ (by omega) (by omega)
theorem piece_out {f : List Cl} {p : Tx} (h : p ∉ prefixes f) : piece f p = [] := by
 unfold piece
 refine two_none (fun n h0 h1 => ?_)
 unfold Sz.pick
 cases hs : Sz.holds (sizes f p) n
 ·rfl
 ·obtain ⟨hn, c, hc, hcp, h2⟩ := (sizes_holds f p n).1 hs
  have hne : c.pre ≠ p := fun e => h ((prefixes_mem f p).2 ⟨c, hc, e⟩)
  rw [(above_holds f p n).2 ⟨c.pre, hcp, hne, (sizes_holds f c.pre n).2 ⟨hn, c, hc, Pth.covers_refl _, h2⟩⟩]
  rfl
theorem norm_mem {f : List Cl} {c : Cl} : c ∈ norm f ↔ (c.lo, c.hi) ∈ piece f c.pre := by
 unfold norm clauses
 rw [List.mem_flatMap]
 constructor
 ·rintro ⟨p, hp, h⟩
  obtain ⟨r, hr, rfl⟩ := List.mem_map.1 h
  exact hr
 ·intro h
  refine ⟨c.pre, ?_, List.mem_map.2 ⟨(c.lo, c.hi), h, rfl⟩⟩
  refine Classical.byContradiction (fun hn => ?_)
  rw [piece_out hn] at h
  cases h
theorem holds_mem {l : List Sz.Rg} {n : Int} : Sz.holds l n = true ↔ (0 ≤ n ∧ n ≤ 200) ∧ ∃ r ∈ l, r.1 ≤ n ∧ n ≤ r.2 := by
 unfold Sz.holds
 rw [Bool.and_eq_true, decide_eq_true_eq, List.any_eq_true]
 simp
theorem norm_sizes (f : List Cl) (p : Tx) (n : Int) : Sz.holds (sizes (norm f) p) n = true ↔ (0 ≤ n ∧ n ≤ 200) ∧ ∃ q, Pth.Covers q p ∧ Sz.holds (piece f q) n = true := by
 rw [sizes_holds]
 refine and_congr_right (fun hn => ?_)
 constructor
 ·rintro ⟨c, hc, h1, h2⟩
  exact ⟨c.pre, h1, holds_mem.2 ⟨hn, (c.lo, c.hi), norm_mem.1 hc, h2⟩⟩
 ·rintro ⟨q, hq, h⟩
  obtain ⟨_, r, hr, h2⟩ := holds_mem.1 h
  exact ⟨⟨q, r.1, r.2⟩, norm_mem.2 hr, hq, h2⟩
theorem least {P : Tx → Prop} : ∀ (k : Nat) (q : Tx), q.length ≤ k → P q → ∃ q, P q ∧ ∀ r, P r → q.length ≤ r.length
 | 0, q, hk, h => ⟨q, h, fun r _ => by omega⟩
 | k + 1, q, hk, h => by
  by_cases hx : ∃ r, P r ∧ r.length < q.length
  ·obtain ⟨r, hr, hl⟩ := hx
   exact least k r (by omega) hr
  ·exact ⟨q, h, fun r hr => Nat.le_of_not_lt (fun hl => hx ⟨r, hr, hl⟩)⟩
theorem norm_alike (f : List Cl) : Alike (norm f) f := by
 intro p n
 rw [Bool.eq_iff_iff, norm_sizes]
 constructor
 ·rintro ⟨hn, q, hq, h⟩
  obtain ⟨h1, _⟩ := (piece_holds f q n hn).1 h
  obtain ⟨_, c, hc, hcq, h2⟩ := (sizes_holds f q n).1 h1
  exact (sizes_holds f p n).2 ⟨hn, c, hc, Pth.covers_trans hcq hq, h2⟩
 ·intro h
  have hn := ((sizes_holds f p n).1 h).1
  obtain ⟨q, ⟨hq, hqn⟩, hmin⟩ := least (P := fun q => Pth.Covers q p ∧ Sz.holds (sizes f q) n = true) p.length p (Nat.le_refl _) ⟨Pth.covers_refl _, h⟩
  refine ⟨hn, q, hq, (piece_holds f q n hn).2 ⟨hqn, ?_⟩⟩
  rintro ⟨r, hr, hne, hrn⟩
  have h1 := hmin r ⟨Pth.covers_trans hr hq, hrn⟩
  have h2 := Pth.covers_len hr
  rcases hr with rfl | rfl | ⟨h3, _, _⟩
  ·exact hne (List.eq_nil_of_length_eq_zero (by simpa using h1)).symm
  ·exact hne rfl
  ·omega
theorem flatMap_keep {α β : Type} (h : α → List β) (l : List α) : l.flatMap h = (l.filter fun a => !(h a).isEmpty).flatMap h := by
 induction l with
 | nil => rfl
 | cons x l ih =>
  rw [List.flatMap_cons, ih]
  cases hx : h x with
  | nil => simp [hx]
  | cons y r => simp [hx]
theorem up_same : ∀ {l m : List Tx}, Up l → Up m → (∀ x, x ∈ l ↔ x ∈ m) → l = m := by
 intro l m hl hm h
 refine List.Perm.eq_of_pairwise (le := fun a b : Tx => a < b) (fun a b _ _ h1 h2 => absurd (tlt_trans h1 h2) (tlt_irrefl a)) hl hm ?_
 rw [List.perm_ext_iff_of_nodup (hl.imp (fun {a b} hab e => by subst e; exact tlt_irrefl _ hab)) (hm.imp (fun {a b} hab e => by subst e; exact tlt_irrefl _ hab))]
 exact h
theorem norm_same {f g : List Cl} (h : Alike f g) : norm f = norm g := by
 unfold norm
 rw [flatMap_keep, flatMap_keep (l := prefixes g)]
 have he : (fun p => clauses p (piece f p)) = fun p => clauses p (piece g p) := by
  funext p; rw [piece_same h]
 rw [he]
 congr 1
 refine up_same ((prefixes_up f).filter _) ((prefixes_up g).filter _) (fun x => ?_)
 rw [List.mem_filter, List.mem_filter, piece_same h x]
 refine and_congr_left (fun hx => ?_)
 have hg : piece g x ≠ [] := fun e => by rw [e] at hx; exact absurd hx (by simp [clauses])
 have hf : piece f x ≠ [] := by rw [piece_same h]; exact hg
 constructor
 ·intro _
  refine Classical.byContradiction (fun hn => hg (piece_out hn))
 ·intro _
  refine Classical.byContradiction (fun hn => hf (piece_out hn))
theorem norm_norm (f : List Cl) : norm (norm f) = norm f := norm_same (norm_alike f)
end Go.Proofs.YtpafpegcodempaaGreat.Flt
namespace Go.Proofs.YtpafpegcodempaaGreat
open Go.RowKit
def rgV (r : Sz.Rg) : List Value := [.int .i64 r.1, .int .i64 r.2]
abbrev Rgs (w : World) (F : Nat → Prop) (v : Value) (l : List Sz.Rg) : Prop := Rws 2 rgV w F v l
def Bd (r : Sz.Rg) : Prop := -9223372036854775808 ≤ r.1 ∧ r.1 ≤ 9223372036854775807 ∧ -9223372036854775808 ≤ r.2 ∧ r.2 ≤ 9223372036854775807
theorem rg_len (r : Sz.Rg) : (rgV r).length = 2 := rfl
theorem rg_one (r : Sz.Rg) : ∀ u ∈ rgV r, u.oneCell' = true := by
 intro u hu
 unfold rgV at hu
 simp only [List.mem_cons, List.not_mem_nil, or_false] at hu
 rcases hu with rfl | rfl <;> rfl
structure SizesOk : Prop where
 norm : ∀ {w : World} {F : Nat → Prop} {v : Value} {l : List Sz.Rg}, Rgs w F v l → l.length ≤ 100000 → (∀ r ∈ l, Bd r) → Calls Tryz.prog 359 #[v] w fun e w' => ∃ v', e = .returned v' ∧ Rgs w' (NewIn w w') v' (Sz.norm l) ∧ Below w.heap.size w w'
 join : ∀ {w : World} {F G : Nat → Prop} {u v : Value} {a b : List Sz.Rg}, Rgs w F u a → Rgs w G v b → a.length ≤ 100000 → b.length ≤ 100000 → (∀ r ∈ a, Bd r) → (∀ r ∈ b, Bd r) → Calls Tryz.prog 352 #[u, v] w fun e w' => ∃ v', e = .returned v' ∧ Rgs w' (NewIn w w') v' (Sz.two 0 a b) ∧ Below w.heap.size w w'
 meet : ∀ {w : World} {F G : Nat → Prop} {u v : Value} {a b : List Sz.Rg}, Rgs w F u a → Rgs w G v b → a.length ≤ 100000 → b.length ≤ 100000 → (∀ r ∈ a, Bd r) → (∀ r ∈ b, Bd r) → Calls Tryz.prog 206 #[u, v] w fun e w' => ∃ v', e = .returned v' ∧ Rgs w' (NewIn w w') v' (Sz.two 1 a b) ∧ Below w.heap.size w w'
 minus : ∀ {w : World} {F G : Nat → Prop} {u v : Value} {a b : List Sz.Rg}, Rgs w F u a → Rgs w G v b → a.length ≤ 100000 → b.length ≤ 100000 → (∀ r ∈ a, Bd r) → (∀ r ∈ b, Bd r) → Calls Tryz.prog 290 #[u, v] w fun e w' => ∃ v', e = .returned v' ∧ Rgs w' (NewIn w w') v' (Sz.two 2 a b) ∧ Below w.heap.size w w'
theorem Rgs.at {w : World} {F : Nat → Prop} {b o : Nat} {n cap : Nat} {l : List Sz.Rg} (h : Rgs w F (.slice (some ⟨b, o, none⟩) n cap) l) {i : Nat} {x : Sz.Rg} (hx : l[i]? = some x) :
  w.cell? ⟨b, o + i * 2, none⟩ = some (.int .i64 x.1) ∧ w.cell? ⟨b, o + i * 2 + 1, none⟩ = some (.int .i64 x.2) := by
 obtain ⟨A, c, e, -, hat⟩ := h
 injection e with e1 e2 e3
 obtain ⟨b', o', e, -, -, hc⟩ := hat (by obtain ⟨hl, _⟩ := List.getElem?_eq_some_iff.1 hx; omega)
 rw [e] at e1
 injection e1 with e1
 injection e1 with e1 e2
 subst e1 e2
 exact ⟨hc i x hx 0 _ rfl, hc i x hx 1 _ rfl⟩
theorem Rgs.slice {w : World} {F : Nat → Prop} {v : Value} {l : List Sz.Rg} (h : Rgs w F v l) : ∃ A cap, v = .slice A l.length cap ∧ l.length ≤ cap := by
 obtain ⟨A, c, e, hc, hat⟩ := h
 exact ⟨A, c, e, hc⟩
theorem two_bd (k : Nat) (a b : List Sz.Rg) : (∀ r ∈ Sz.two k a b, Bd r) ∧ (Sz.two k a b).length ≤ 202 := by
 refine ⟨fun r hr => ?_, ?_⟩
 ·have := Sz.formR_bd _ 0 none (by simp) (fun lo h => by cases h) r hr
  unfold Bd; omega
 ·have := Sz.formR_len ((List.range 201).map fun (i : Nat) => Sz.pick k (Sz.holds a (i : Int)) (Sz.holds b (i : Int))) 0 none
  rw [List.length_map, List.length_range] at this
  exact this
open Go.RowKit
theorem Cells.below {w w' : World} {F : Nat → Prop} {v : Value} {us : List Value} (h : Cells w F v us) (k : Below w.heap.size w w') : Cells w' F v us := h.kept (Kept.ofBelow k (fun _ => False)) (fun _ _ h => h)
theorem below_drews' (w : World) (n : Nat) : Below w.heap.size w (w.drewN n) := ⟨rfl, rfl, rfl, Nat.le_refl _, fun _ _ => rfl⟩
theorem strInfo : (Tryz.prog.info? 9).map (fun i => (i.zero, i.size, i.bytes)) = some (some (.string ⟨#[]⟩), 1, 16) := by kernel_rfl
theorem own_below {w w' : World} {base t size n : Nat} {v : Value} {xs : List Value} (h : w.ownsRow base t size v n xs) (k : Below w.heap.size w w') : w'.ownsRow base t size v n xs :=
 h.kept (Kept.ofBelow k (fun i => i = w.heap.size)).grown (Or.inr (fun e => by have := (h.lt _ e).2; omega))
def TextsOwn (w : World) (out : List (List UInt8)) (v : Value) (wr : World) : Prop := wr.ownsRow w.heap.size 9 1 v out.length (texts out) ∧ Below w.heap.size w wr
theorem texts_start (w : World) : TextsOwn w [] (.slice none 0 0) w := ⟨World.ownsRow_nil _ _ _ _, Below.refl _ _⟩
theorem TextsOwn.below {w w1 w2 : World} {out : List (List UInt8)} {v : Value} (h : TextsOwn w out v w1) (k : Below w1.heap.size w1 w2) : TextsOwn w out v w2 := ⟨own_below h.1 k, h.2.trans (k.mono h.2.size)⟩
theorem texts_more {w wr w2 : World} {out : List (List UInt8)} {v v' : Value} {o : Obj} {x : List UInt8} (h : TextsOwn w out v wr) (hown : w2.ownsRow w.heap.size 9 1 v' (out.length + 1) (texts out ++ [.string (mk x)])) (hg : (wr.alloc o).grownBy w2 v.ownBlock) :
  TextsOwn w (out ++ [x]) v' w2 := by
 obtain ⟨h1, h2⟩ := h
 refine ⟨?_, (h2.alloc h2.size o).grown hg (by have := h2.size; simp; omega) (fun k hk => (h1.lt k hk).1)⟩
 rw [List.length_append]
 simpa [texts] using hown
theorem TextsOwn.cells {w w' : World} {out : List (List UInt8)} {v : Value} (h : TextsOwn w out v w') : Cells w' (NewIn w w') v (texts out) := Cells.ofOwn h.1 (fun _ _ h1 h2 => ⟨h1, h2⟩)
open Go.RowKit
theorem idx (s : ByteArray) (k : Nat) (h : k < s.size) : ∃ c : UInt8, s.data.toList[k]? = some c ∧ ∀ V : World, (Instr.index 9 (.string s) (.int .i64 (k : Int))).run Tryz.prog V = .ok (.int .u8 (c.toNat : Int)) V := by
 refine ⟨s[k]'h, ?_, fun V => by go_simp⟩
 rw [List.getElem?_eq_getElem (by rw [← Lib.size_eq]; exact h), Array.getElem_toList]
 rfl
open Go.RowKit
structure PathOk : Prop where
 check : ∀ (s : List UInt8) (w : World), s.length ≤ 100000 → Calls Tryz.prog 340 #[.string (mk s)] w fun e w' => e = .returned (.int .i64 (if Pth.Right s then 0 else 13)) ∧ Below w.heap.size w w'
 names : ∀ (s : List UInt8) (w : World), s.length ≤ 100000 → Calls Tryz.prog 375 #[.string (mk s)] w fun e w' => ∃ v, e = .returned (.tuple #[v, .int .i64 (if Pth.Right s then 0 else 13)]) ∧ Cells w' (NewIn w w') v (texts (if Pth.Right s then Pth.split s else [])) ∧ Below w.heap.size w w'
 parent : ∀ (a : List UInt8) (w : World), a.length ≤ 100000 → Calls Tryz.prog 294 #[.string (mk a)] w fun e w' => e = .returned (.string (mk (Pth.parent a))) ∧ Below w.heap.size w w'
open Go.RowKit
def clV (c : Flt.Cl) : List Value := [.string (mk c.pre), .int .i64 c.lo, .int .i64 c.hi]
abbrev Cls (w : World) (F : Nat → Prop) (v : Value) (l : List Flt.Cl) : Prop := Rws 3 clV w F v l
def Flt.Bd (c : Flt.Cl) : Prop := c.pre.length ≤ 100000 ∧ Go.Proofs.YtpafpegcodempaaGreat.Bd (Flt.rg c)
theorem cl_len (c : Flt.Cl) : (clV c).length = 3 := rfl
theorem cl_one (c : Flt.Cl) : ∀ u ∈ clV c, u.oneCell' = true := by
 intro u hu
 unfold clV at hu
 simp only [List.mem_cons, List.not_mem_nil, or_false] at hu
 rcases hu with rfl | rfl | rfl <;> rfl
def Flt.first : List Flt.Cl → Int
 | [] => 0
 | c :: l => if c.pre ≠ [] ∧ ¬ Pth.Right c.pre then 13 else if Flt.Right c then Flt.first l else 2
def Flt.check (f : List Flt.Cl) : Int := if 8 < f.length then 4 else Flt.first f
def Flt.hit (p : List UInt8) (size : Int) (dead : Bool) (c : Flt.Cl) : Bool := decide (Pth.Covers c.pre p) && (dead || decide (0 ≤ size ∧ size ≤ 200 ∧ c.lo ≤ size ∧ size ≤ c.hi))
def Flt.whole : List Flt.Cl := [⟨[], 0, 200⟩]
theorem Flt.ins_len (out : List Flt.Tx) (p : Flt.Tx) : (Flt.ins out p).length ≤ out.length + 1 := by
 unfold Flt.ins
 split
 ·omega
 ·have e := congrArg List.length (List.takeWhile_append_dropWhile (p := fun q => decide (q < p)) (l := out))
  rw [List.length_append] at e
  rw [List.length_append, List.length_cons]
  omega
theorem Flt.prefixes_len (f : List Flt.Cl) : (Flt.prefixes f).length ≤ f.length := by
 have : ∀ (f : List Flt.Cl) (out : List Flt.Tx), (f.foldl (fun out c => Flt.ins out c.pre) out).length ≤ out.length + f.length := by
  intro f
  induction f with
  | nil => intro out; simp
  | cons c f ih =>
   intro out
   have h1 := ih (Flt.ins out c.pre)
   have h2 := Flt.ins_len out c.pre
   rw [List.foldl_cons, List.length_cons]
   omega
 have := this f []
 simpa [Flt.prefixes] using this
theorem Flt.piece_len (f : List Flt.Cl) (p : Flt.Tx) : (Flt.piece f p).length ≤ 202 := (two_bd 2 _ _).2
theorem Flt.flat_len {α β : Type} (h : α → List β) (k : Nat) : ∀ (l : List α), (∀ x ∈ l, (h x).length ≤ k) → (l.flatMap h).length ≤ l.length * k
 | [], _ => by simp
 | x :: l, hk => by
  have h1 := hk x (by simp)
  have h2 := Flt.flat_len h k l (fun y hy => hk y (List.mem_cons_of_mem _ hy))
  rw [List.flatMap_cons, List.length_append, List.length_cons, Nat.add_one_mul]
  omega
theorem Flt.norm_len (f : List Flt.Cl) : (Flt.norm f).length ≤ f.length * 202 := by
 have h1 := Flt.flat_len (fun p => Flt.clauses p (Flt.piece f p)) 202 (Flt.prefixes f) (fun p _ => by unfold Flt.clauses; rw [List.length_map]; exact Flt.piece_len f p)
 have h2 := Flt.prefixes_len f
 unfold Flt.norm
 exact Nat.le_trans h1 (Nat.mul_le_mul_right _ h2)
theorem Flt.right_bd {c : Flt.Cl} (h : Flt.Right c) : Go.Proofs.YtpafpegcodempaaGreat.Bd (Flt.rg c) := by
 obtain ⟨-, h1, h2, h3⟩ := h
 unfold Go.Proofs.YtpafpegcodempaaGreat.Bd Flt.rg
 simp only
 omega
structure FilterOk : Prop where
 check : ∀ {w : World} {F : Nat → Prop} {v : Value} {f : List Flt.Cl}, Cls w F v f → f.length ≤ 100000 → (∀ c ∈ f, Flt.Bd c) → Calls Tryz.prog 366 #[v] w fun e w' => e = .returned (.int .i64 (Flt.check f)) ∧ Below w.heap.size w w'
 all : ∀ (w : World), Calls Tryz.prog 113 #[] w fun e w' => ∃ v', e = .returned v' ∧ Cls w' (NewIn w w') v' Flt.whole ∧ Below w.heap.size w w'
 norm : ∀ {w : World} {F : Nat → Prop} {v : Value} {f : List Flt.Cl}, Cls w F v f → f.length ≤ 100000 → (∀ c ∈ f, Flt.Right c) → (∀ c ∈ f, Flt.Bd c) → Calls Tryz.prog 203 #[v] w fun e w' => ∃ v', e = .returned v' ∧ Cls w' (NewIn w w') v' (Flt.norm f) ∧ Below w.heap.size w w'
 equal : ∀ {w : World} {F G : Nat → Prop} {u v : Value} {f g : List Flt.Cl}, Cls w F u f → Cls w G v g → f.length ≤ 100000 → g.length ≤ 100000 → Calls Tryz.prog 109 #[u, v] w fun e w' => e = .returned (.bool (decide (f = g))) ∧ Below w.heap.size w w'
theorem Cls.at {w : World} {F : Nat → Prop} {b o : Nat} {n cap : Nat} {l : List Flt.Cl} (h : Cls w F (.slice (some ⟨b, o, none⟩) n cap) l) {i : Nat} {x : Flt.Cl} (hx : l[i]? = some x) :
  w.cell? ⟨b, o + i * 3, none⟩ = some (.string (mk x.pre)) ∧ w.cell? ⟨b, o + i * 3 + 1, none⟩ = some (.int .i64 x.lo) ∧ w.cell? ⟨b, o + i * 3 + 2, none⟩ = some (.int .i64 x.hi) := by
 obtain ⟨A, c, e, -, hat⟩ := h
 injection e with e1 e2 e3
 obtain ⟨b', o', e, -, -, hc⟩ := hat (by obtain ⟨hl, _⟩ := List.getElem?_eq_some_iff.1 hx; omega)
 rw [e] at e1
 injection e1 with e1
 injection e1 with e1 e2
 subst e1 e2
 exact ⟨hc i x hx 0 _ rfl, hc i x hx 1 _ rfl, hc i x hx 2 _ rfl⟩
abbrev clA (c : Flt.Cl) : Value := .agg #[.string (mk c.pre), .int .i64 c.lo, .int .i64 c.hi]
end Go.Proofs.YtpafpegcodempaaGreat
namespace Go.Proofs.YtpafpegcodempaaGreat.Pck
def cl (c : Flt.Cl) : List UInt8 := txt c.pre ++ (num c.lo ++ num c.hi)
def flt (f : List Flt.Cl) : List UInt8 := lst cl f
def rdCl : Rdr Flt.Cl := bnd rt fun p => bnd rn fun a => bnd rn fun b => ret ⟨p, a, b⟩
def rdFlt : Rdr (List Flt.Cl) := list rdCl
def OkFlt (f : List Flt.Cl) : Prop := f.length ≤ 64 ∧ ∀ c ∈ f, Flt.Right c
instance (f : List Flt.Cl) : Decidable (OkFlt f) := inferInstanceAs (Decidable (_ ∧ _))
def clR (c : Flt.Cl) : List UInt8 := txt c.pre ++ (numR c.lo ++ numR c.hi)
def SmC (c : Flt.Cl) : Prop := c.pre.length ≤ 1000 ∧ Flt.Bd c
theorem clR_len (c : Flt.Cl) (h : SmC c) : (clR c).length ≤ 1027 := by
 have h1 := txt_len c.pre
 have h2 := numR_len c.lo
 have h3 := numR_len c.hi
 have h4 := h.1
 unfold clR
 simp only [List.length_append]
 omega
theorem clR_is {c : Flt.Cl} (h : Flt.Right c) : clR c = cl c := by
 obtain ⟨-, h1, h2, h3⟩ := h
 unfold clR cl
 rw [numR_is h1, numR_is (by omega)]
theorem right_pre {c : Flt.Cl} (h : Flt.Right c) : c.pre.length ≤ 40 := by
 rcases h.1 with h1 | h1
 ·rw [h1]; simp
 ·exact h1.2.1
theorem takes_cl {c : Flt.Cl} (h : Flt.Right c) : Takes rdCl (cl c) c := by
 have hp := right_pre h
 obtain ⟨-, h1, h2, h3⟩ := h
 have := Takes.bnd (k := fun p => bnd rn fun a => bnd rn fun b => ret (⟨p, a, b⟩ : Flt.Cl)) (Takes.txt (t := c.pre) (by omega)) (Takes.bnd (Takes.num h1 (by omega)) (Takes.bnd (Takes.num (n := c.hi) (by omega) (by omega)) (Takes.ret _)))
 rw [List.append_nil] at this
 exact this
theorem cl_le {c : Flt.Cl} (h : Flt.Right c) : (cl c).length ≤ 67 := by
 have a := txt_len c.pre
 have b := num_len c.lo
 have d := num_len c.hi
 have e := right_pre h
 unfold cl
 simp only [List.length_append]
 omega
theorem flt_le {f : List Flt.Cl} (h : OkFlt f) : (flt f).length ≤ 4873 := by
 have h1 : (flt f).length ≤ 9 + f.length * (67 + 9) := lst_le f (fun c hc => cl_le (h.2 c hc))
 have h2 : f.length * (67 + 9) ≤ 64 * (67 + 9) := Nat.mul_le_mul_right _ h.1
 omega
theorem takes_flt {f : List Flt.Cl} (h : OkFlt f) : Takes rdFlt (flt f) f :=
 list_backs (fun c hc => ⟨takes_cl (h.2 c hc), by have := cl_le (h.2 c hc); omega⟩) (by have := h.1; omega)
theorem rdCl_never : Never rdCl := by show (rdCl [] 0).2.2 ≠ 0; decide +kernel
theorem rdFlt_len (l : List UInt8) (e : Int) : (rdFlt l e).1.length ≤ l.length := list_len rdCl_never l e
def NnC (m : Nat) (c : Flt.Cl) : Prop := c.pre.length ≤ m ∧ (0 ≤ c.lo ∧ c.lo ≤ 9223372036854775807) ∧ 0 ≤ c.hi ∧ c.hi ≤ 9223372036854775807
theorem rdCl_nn (l : List UInt8) (e : Int) : NnC l.length (rdCl l e).1 := ⟨(rt_left _ _).1, rn_nonneg _ _, rn_nonneg _ _⟩
theorem rdFlt_nn (l : List UInt8) (e : Int) : ∀ c ∈ (rdFlt l e).1, NnC l.length c := list_all (m := l.length) (fun t ht => by
 obtain ⟨h1, h2⟩ := rdCl_nn t 0
 exact ⟨Nat.le_trans h1 ht, h2⟩) l e (Nat.le_refl _)
theorem nnC_bd {c : Flt.Cl} {m : Nat} (h : NnC m c) (hm : m ≤ 100000) : Flt.Bd c := by
 obtain ⟨h1, h2, h3⟩ := h
 refine ⟨by omega, ?_⟩
 unfold Go.Proofs.YtpafpegcodempaaGreat.Bd Flt.rg
 simp only
 omega
theorem rdCl_left (l : List UInt8) (e : Int) : (rdCl l e).2.1.length ≤ l.length := Nat.le_trans (rn_left _ _) (Nat.le_trans (rn_left _ _) (rt_left _ _).2)
theorem check_one (c : Flt.Cl) : Flt.check [c] = 0 ↔ Flt.Right c := by
 unfold Flt.check
 rw [if_neg (by simp)]
 unfold Flt.first
 constructor
 ·intro h
  split at h
  ·exact absurd h (by decide)
  ·split at h
   ·assumption
   ·exact absurd h (by decide)
 ·intro h
  have h1 : ¬ (c.pre ≠ [] ∧ ¬ Pth.Right c.pre) := by
   rintro ⟨a, b⟩
   rcases h.1 with h2 | h2
   ·exact a h2
   ·exact b h2
  rw [if_neg h1, if_pos h]
  rfl
end Go.Proofs.YtpafpegcodempaaGreat.Pck
namespace Go.Proofs.YtpafpegcodempaaGreat
open Go.RowKit
def Near (w : World) (v v' : Value) : Prop := v'.ownBlock = v.ownBlock ∨ ∀ g, v'.ownBlock = some g → w.heap.size ≤ g
theorem Near.refl (w : World) (v : Value) : Near w v v := Or.inl rfl
theorem Near.apart {w w' : World} {u v v' : Value} {base t size n : Nat} {xs : List Value} (h : Near w' v v') (ha : ∀ g, u.ownBlock = some g → v.ownBlock ≠ some g) (hu : w.ownsRow base t size u n xs) (hs : w.heap.size ≤ w'.heap.size) : ∀ g, u.ownBlock = some g → v'.ownBlock ≠ some g := by
 intro g hg e
 rcases h with h | h
 ·exact ha g hg (h ▸ e)
 ·have := (hu.lt g hg).2
  have := h g e
  omega
section
variable {P : Program} {α : Type} {k : Nat} {f : α → List Value}
theorem append_near {w : World} (base : Nat) (t ty e : TypeId) (i : TypeInfo) (z : Value) (size bytes : Nat) (ht : P.underlying t = some (.slice e)) (hi : P.info? e = some i) (hz : i.zero = some z)
    (hsize : i.size = size) (hby : i.bytes = bytes) (hzs : z.cells.size = size) (hsz : 0 < size) {v : Value} {n : Nat} {xs : List Value} (hown : w.ownsRow base e size v n xs)
    (a : Addr) (m c : Nat) (news : List Value) (hl : news.length = m * size) (hnews : ∀ j u, news[j]? = some u → w.cell? (a.add j) = some u) (h1 : ∀ u ∈ news, u.oneCell' = true)
    (h63 : n + m ≤ maxLen) (hbytes : (n + m) * bytes ≤ 140737488355328) {v' : Value} {w' : World} (hr : (Builtin.append_ #[t, t] ty #[v, .slice (some a) m c]).run P w = .ok v' w') : Near w v v' := by
  have hsmall : n + m ≤ 9223372036854775807 := by simp only [maxLen] at h63; omega
  rcases hown.2 with ⟨rfl, rfl⟩ | ⟨g, cap, cur, rfl, hbg, hg, hnc, hcm, hcs, htake⟩
  · obtain ⟨v2, w2, r1, r2, -, -⟩ := run_append_own w w.heap.size t ty e i z size bytes ht hi hz hsize hby hzs hsz (.slice none 0 0) 0 [] (World.ownsRow_nil _ _ _ _) a m c news hl hnews h1 h63 hbytes (Nat.le_refl _)
    rw [hr] at r1
    injection r1 with e1 e2
    subst e1
    exact Or.inr (fun g hg => (r2.lt g hg).1)
  · subst hsize
    subst hby
    by_cases hroom : n + m ≤ cap
    · have hfit : n * i.size + news.length ≤ cur.size := by rw [hl, hcs, ← Nat.add_mul]; exact Nat.mul_le_mul_right _ hroom
      have r1 := run_append_room (P := P) w t ty e i ht hi g n cap cur hg a m c news hl hnews h1 hroom hfit
      rw [hr] at r1
      injection r1 with e1 e2
      subst e1
      exact Or.inl rfl
    · have r1 := run_append_grow (P := P) w t ty e i z ht hi hz ⟨g, 0, none⟩ n cap xs hown.1 (hown.cells (g := g) rfl) a m c news hl hnews (by omega) (by omega) (growslice_fits (by omega) hbytes)
      rw [hr] at r1
      injection r1 with e1 e2
      subst e1
      exact Or.inr (fun g' hg' => by have : w.heap.size = g' := by simpa [Value.ownBlock] using hg'
                                     omega)
theorem join_near {w : World} (base : Nat) (t ty e : TypeId) (i : TypeInfo) (z : Value) (bytes : Nat) (ht : P.underlying t = some (.slice e)) (hi : P.info? e = some i) (hz : i.zero = some z) (hsize : i.size = k) (hby : i.bytes = bytes) (hzs : z.cells.size = k) (hsz : 0 < k)
  {v xv : Value} {n : Nat} {xs : List Value} {F : Nat → Prop} {l : List α} (hown : w.ownsRow base e k v n xs) (hx : Rws k f w F xv l) (hk : ∀ x ∈ l, (f x).length = k) (h1 : ∀ x ∈ l, ∀ u ∈ f x, u.oneCell' = true)
  (h63 : n + l.length ≤ maxLen) (hbytes : (n + l.length) * bytes ≤ 140737488355328) (hbase : base ≤ w.heap.size) :
  ∃ v' w', (Builtin.append_ #[t, t] ty #[v, xv]).run P w = .ok v' w' ∧ w'.ownsRow base e k v' (n + l.length) (xs ++ l.flatMap f) ∧ w.grownBy w' v.ownBlock ∧ Near w v v' := by
 obtain ⟨v', w', r1, r2, r3⟩ := join_rows (P := P) base t ty e i z bytes ht hi hz hsize hby hzs hsz hown hx hk h1 h63 hbytes hbase
 refine ⟨v', w', r1, r2, r3, ?_⟩
 obtain ⟨A, c, rfl, hc, hat⟩ := hx
 have hone : ∀ u ∈ l.flatMap f, u.oneCell' = true := by
  intro u hu
  obtain ⟨x, hx, hu⟩ := List.mem_flatMap.1 hu
  exact h1 x hx u hu
 have hgo : ∀ ad : Addr, A = some ad → (∀ j u, (l.flatMap f)[j]? = some u → w.cell? (ad.add j) = some u) → Near w v v' := by
  rintro ad rfl hnews
  exact append_near base t ty e i z k bytes ht hi hz hsize hby hzs hsz hown ad l.length c (l.flatMap f) (rows_len l hk) hnews hone h63 hbytes r1
 by_cases h0 : 0 < l.length
 ·obtain ⟨b, o, rfl, -, hbl, hcell⟩ := hat h0
  refine hgo _ rfl (fun j u hu => ?_)
  obtain ⟨m, x, r, e1, e2, rfl⟩ := rows_of l hk j u hu
  rw [Go.WideShapes.add_plain, ← Nat.add_assoc]
  exact hcell m x e1 r u e2
 ·have hl : l = [] := List.eq_nil_of_length_eq_zero (by omega)
  subst hl
  cases A with
  | none =>
   have r4 := join_nothing (P := P) base t ty e i k c ht hi v n xs hown
   rw [show ([] : List α).length = 0 from rfl, r4] at r1
   injection r1 with e1 e2
   exact Or.inl (by rw [e1])
  | some ad => exact hgo ad rfl (fun j u hu => by simp at hu)
theorem wp_joins {ops : Array Oper} {rest : List Oper} {o : Oper} {a : Act} {w : World} {Q : Exit → Act → World → Prop} (hgd : o.guard = none) (s x : Operand) (t : TypeId)
  (ho : o.op = .call { callee := .builtin .append, args := #[s, x], argTypes := #[t, t] }) (base : Nat) (e : TypeId) (i : TypeInfo) (z : Value) (bytes : Nat) (ht : P.underlying t = some (.slice e)) (hi : P.info? e = some i) (hz : i.zero = some z)
  (hsize : i.size = k) (hby : i.bytes = bytes) (hzs : z.cells.size = k) (hsz : 0 < k) {v xv : Value} {n : Nat} {xs : List Value} {F : Nat → Prop} {l : List α} (hs : a.eval s = v) (hx : a.eval x = xv)
  (hown : w.ownsRow base e k v n xs) (hr : Rws k f w F xv l) (hk : ∀ x ∈ l, (f x).length = k) (h1 : ∀ x ∈ l, ∀ u ∈ f x, u.oneCell' = true) (h63 : n + l.length ≤ maxLen) (hbytes : (n + l.length) * bytes ≤ 140737488355328) (hbase : base ≤ w.heap.size)
  (h : ∀ v' w', w'.ownsRow base e k v' (n + l.length) (xs ++ l.flatMap f) → w.grownBy w' v.ownBlock → Near w v v' → wpList P ops Q rest (a.put o.dst v') w') : wpList P ops Q (o :: rest) a w :=
 wpList_plain hgd fun _ hK => by
  obtain ⟨v', w', r1, r2, r3, r4⟩ := join_near (P := P) base t o.type e i z bytes ht hi hz hsize hby hzs hsz hown hr hk h1 h63 hbytes hbase
  unfold Oper.wp execOp
  simp only [ho, resolve, invoke, builtin, Sem.run_bind, Sem.run_pure, Result.andThen_ok, List.map_toArray, List.map_cons, List.map_nil, hs, hx, r1]
  exact hK _ _ (h v' w' r2 r3 r4)
theorem step_near {ops : Array Oper} {o : Oper} {a : Act} {w : World} {K : Act → World → Prop} {Q : Exit → Act → World → Prop} {E : Prop} (hgd : o.guard = none) (s x : Operand) (t : TypeId)
  (ho : o.op = .call { callee := .builtin .append, args := #[s, x], argTypes := #[t, t] }) (base : Nat) (e : TypeId) (i : TypeInfo) (z : Value) (bytes : Nat) (ht : P.underlying t = some (.slice e)) (hi : P.info? e = some i) (hz : i.zero = some z)
  (hsize : i.size = k) (hby : i.bytes = bytes) (hzs : z.cells.size = k) (hsz : 0 < k) {v xv : Value} {n : Nat} {xs : List Value} {F : Nat → Prop} {l : List α} (hs : a.eval s = v) (hx : a.eval x = xv)
  (hown : w.ownsRow base e k v n xs) (hr : Rws k f w F xv l) (hk : ∀ x ∈ l, (f x).length = k) (h1 : ∀ x ∈ l, ∀ u ∈ f x, u.oneCell' = true) (h63 : n + l.length ≤ maxLen) (hbytes : (n + l.length) * bytes ≤ 140737488355328) (hbase : base ≤ w.heap.size)
  (h : ∀ v' w', w'.ownsRow base e k v' (n + l.length) (xs ++ l.flatMap f) → w.grownBy w' v.ownBlock → Near w v v' → K (a.put o.dst v') w') :
  if Region.wanted o (yielded ops a.tmps) = true then Oper.wp P o a w K Q else E := by
 rw [if_pos (by simp [Region.wanted, hgd])]
 obtain ⟨v', w', r1, r2, r3, r4⟩ := join_near (P := P) base t o.type e i z bytes ht hi hz hsize hby hzs hsz hown hr hk h1 h63 hbytes hbase
 unfold Oper.wp execOp
 simp only [ho, resolve, invoke, builtin, Sem.run_bind, Sem.run_pure, Result.andThen_ok, List.map_toArray, List.map_cons, List.map_nil, hs, hx, r1]
 exact h v' w' r2 r3 r4
end
theorem own_left {w w' : World} {base t size n : Nat} {v : Value} {xs : List Value} {r : Option Nat} (h : w.ownsRow base t size v n xs) (hg : w.grownBy w' r) (hne : ∀ g, v.ownBlock = some g → r ≠ some g) : w'.ownsRow base t size v n xs := by
 refine ⟨h.1, ?_⟩
 rcases h.2 with h2 | ⟨g, cap, cur, rfl, hb, hgb, rest⟩
 ·exact .inl h2
 ·have hlt := (h.lt g rfl).2
  exact .inr ⟨g, cap, cur, rfl, hb, (hg.block g hlt (fun e => hne g rfl e.symm)).trans hgb, rest⟩
open Go.RowKit
section
variable {w : World} {base e size n cap g : Nat} {xs : List Value}
theorem own_front (h : w.ownsRow base e size (.slice (some ⟨g, 0, none⟩) n cap) n xs) {m : Nat} (hm : m ≤ n) : w.ownsRow base e size (.slice (some ⟨g, 0, none⟩) m cap) m (xs.take (m * size)) := by
 have hle : m * size ≤ n * size := Nat.mul_le_mul_right _ hm
 refine ⟨by rw [List.length_take, h.1]; omega, ?_⟩
 rcases h.2 with ⟨h', _⟩ | ⟨g', cap', cur, h', hb, hg, hnc, hcm, hcs, htake⟩
 ·simp at h'
 ·simp only [Value.slice.injEq, Option.some.injEq, Addr.mk.injEq, and_true, true_and] at h'
  obtain ⟨rfl, rfl⟩ := h'
  refine .inr ⟨g, cap, cur, rfl, hb, hg, Nat.le_trans hm hnc, hcm, hcs, ?_⟩
  rw [← htake, List.take_take, Nat.min_eq_left hle]
theorem own_beyond (h : w.ownsRow base e size (.slice (some ⟨g, 0, none⟩) n cap) n xs) {j : Nat} (hj : n * size ≤ j) (u : Value) :
  (w.setCell ⟨g, j, none⟩ u).ownsRow base e size (.slice (some ⟨g, 0, none⟩) n cap) n xs ∧ w.grownBy (w.setCell ⟨g, j, none⟩ u) (some g) := by
 have := h.stored j u
 rw [List.set_eq_of_length_le (by rw [h.1]; exact hj)] at this
 exact this
theorem own_beyonds : ∀ (vs : List Value) (j : Nat) (w : World), w.ownsRow base e size (.slice (some ⟨g, 0, none⟩) n cap) n xs → n * size ≤ j →
  (w.setCells g j vs).ownsRow base e size (.slice (some ⟨g, 0, none⟩) n cap) n xs ∧ w.grownBy (w.setCells g j vs) (some g)
 | [], j, w, h, _ => ⟨h, gb_refl _ _⟩
 | v :: vs, j, w, h, hj => by
  obtain ⟨h1, h2⟩ := own_beyond h hj v
  obtain ⟨h3, h4⟩ := own_beyonds vs (j + 1) _ h1 (by omega)
  exact ⟨h3, gb_trans h2 h4⟩
theorem own_clear {P : Program} {t : TypeId} {z : Value} (h : w.ownsRow base e size (.slice (some ⟨g, 0, none⟩) n cap) n xs) {m : Nat} (hm : m < n) (ht : P.underlying t = some (.slice e)) (hv : ∀ w, (zeroValue e).run P w = .ok z w) (hz : z.cells.size = size) (h1 : ∀ u ∈ z.cells.toList, u.oneCell' = true) (c : Nat) :
  ∃ w', (∀ ty, (Builtin.clear_ #[t] ty #[.slice (some ⟨g, m * size, none⟩) (n - m) c]).run P w = .ok (.tuple #[]) w') ∧ w'.ownsRow base e size (.slice (some ⟨g, 0, none⟩) m cap) m (xs.take (m * size)) ∧ w.grownBy w' (some g) := by
 have hlen : (Builtin.zeroCells z.cells (n - m)).toList.length = (n - m) * size := by simp [Builtin.zeroCells, hz]
 have hrow : m * size + (n - m) * size = n * size := by rw [← Nat.add_mul]; congr 1; omega
 have hone : ∀ u ∈ (Builtin.zeroCells z.cells (n - m)).toList, u.oneCell' = true := by
  intro u hu
  unfold Builtin.zeroCells at hu
  rw [Array.toList_map, List.mem_map] at hu
  obtain ⟨i, hi, rfl⟩ := hu
  have hi : i < (n - m) * z.cells.size := by simpa using hi
  have hpos : 0 < z.cells.size := by
   rcases Nat.eq_zero_or_pos z.cells.size with h0 | h0
   ·rw [h0] at hi; omega
   ·exact h0
  have hlt : i % z.cells.size < z.cells.size := Nat.mod_lt _ hpos
  refine h1 _ ?_
  rw [getElem!_pos z.cells _ hlt]
  exact Array.getElem_mem_toList _
 have hst := run_storeCells_cells (P := P) g (m * size) (Builtin.zeroCells z.cells (n - m)).toList 0 w (fun j hj => by
   rw [hlen] at hj
   rw [Nat.add_zero, h.cellAt (m * size + j) (by omega)]
   have : m * size + j < xs.length := by rw [h.1]; omega
   simp [this]) (fun j _ => h.frozenAt _) hone
 rw [Nat.add_zero] at hst
 obtain ⟨r1, r2⟩ := own_beyonds (Builtin.zeroCells z.cells (n - m)).toList (m * size) w (own_front h (Nat.le_of_lt hm)) (Nat.le_refl _)
 refine ⟨_, fun ty => ?_, r1, r2⟩
 obtain ⟨k, hk⟩ : ∃ k, n - m = k + 1 := ⟨n - m - 1, by omega⟩
 rw [hk] at hst ⊢
 simp [Builtin.clear_, run_underlying ht, hv, hst]
end
theorem getI_of {α : Type} [Inhabited α] {l : List α} {i : Nat} {x : α} (h : l[i]? = some x) : l.toArray[i]! = x := by
 obtain ⟨hl, e⟩ := List.getElem?_eq_some_iff.1 h
 rw [getElem!_pos l.toArray i (by simpa using hl)]
 simpa using e
theorem getI_to {α : Type} [Inhabited α] (d : Array α) {i : Nat} (h : i < d.size) : d.toList[i]? = some d[i]! := by
 rw [Array.getElem?_toList, Array.getElem?_eq_getElem h, getElem!_pos d i h]
end Go.Proofs.YtpafpegcodempaaGreat
