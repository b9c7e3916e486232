import Derived.Test.YtpafpegcodempaaCom3
import Derived.Test.YtpafpegcodempaaCom1
import Derived.Test.YtpafpegcodempaaRows
import Derived.WalkKit
import Derived.ProofKit
import Derived.OpenShut
import Derived.ShutString
import Derived.SizedLaws
import Derived.Carry
import Derived.Sort.Grow
import Derived.Deep.Quiet
import Derived.Deep.QuietTactic
set_option maxRecDepth 100000
set_option linter.all false
namespace Go.Proofs.Ytpafpegcodempaa
open Go.RowKit
def flT (s : List UInt8) : Fl := ⟨0, mk s, true⟩
def flN (n : Int) : Fl := ⟨n, ⟨#[]⟩, false⟩
def fl3 (f : Fl) : List Value := [.int .i64 f.num, .string f.txt, .bool f.isT]
theorem fl3_len (f : Fl) : (fl3 f).length = 3 := rfl
theorem fl3_one (f : Fl) : ∀ u ∈ fl3 f, u.oneCell' = true := by
 intro u hu
 unfold fl3 at hu
 simp only [List.mem_cons, List.not_mem_nil, or_false] at hu
 rcases hu with rfl | rfl | rfl <;> rfl
theorem flT_bytes (s : List UInt8) : (flT s).bytes = Leb.enc s.length ++ s := by
 unfold Fl.bytes Fl.head Fl.body flT numOf strOf
 simp only [if_true, mk_data, mk_len, Int.toNat_natCast]
theorem fieldInfo : (Try.prog.info? 72).map (fun i => (i.zero, i.size, i.bytes)) = some (some (.agg #[.int .i64 0, .string ⟨#[]⟩, .bool false]), 3, 32) := by kernel_rfl
theorem Rws.made {α : Type} {k : Nat} {f : α → List Value} (w : World) (t : TypeId) (l : List α) (hk : ∀ x ∈ l, (f x).length = k) :
  Rws k f (w.alloc (.cells (l.flatMap f).toArray t)) (fun i => i = w.heap.size) (.slice (some ⟨w.heap.size, 0, Option.none⟩) l.length l.length) l := by
 refine ⟨_, _, rfl, Nat.le_refl _, fun _ => ⟨w.heap.size, 0, rfl, rfl, by simp, fun i x hx j u hu => ?_⟩⟩
 have hr := rows_at l hk i x hx j u hu
 rw [(Row.made w _ _).at, Nat.zero_add]
 simpa using hr
theorem fields_at {w : World} {F : Nat → Prop} {b cap : Nat} {fs : List Fl} (h : Rws 3 fl3 w F (.slice (some ⟨b, 0, none⟩) fs.length cap) fs) (h0 : 0 < fs.length) : FieldsAt w b 0 fs := by
 intro i f hf
 obtain ⟨A, c, e, -, hat⟩ := h
 injection e with e1 e2 e3
 obtain ⟨b', o', e, -, -, hc⟩ := hat h0
 rw [e] at e1
 injection e1 with e1
 injection e1 with e1 e2
 subst e1 e2
 exact ⟨hc i f hf 0 _ rfl, hc i f hf 1 _ rfl, hc i f hf 2 _ rfl⟩
theorem gb_kept {F : Nat → Prop} {a w w' : World} {r : Option Nat} (h : a.grownBy w r) (k : Kept F w w') (hF : ∀ i, F i → a.heap.size ≤ i) : a.grownBy w' r :=
 ⟨k.os.trans h.os, k.tape.trans h.tape, k.output.trans h.output, Nat.le_trans h.size k.size, fun i hi hn => (k.block i (Nat.lt_of_lt_of_le hi h.size) (fun hf => by have := hF i hf; omega)).trans (h.block i hi hn)⟩
end Go.Proofs.Ytpafpegcodempaa
namespace Go.Proofs.Ytpafpegcodempaa.Ver
structure V where
 by_ : Int
 n : Int
deriving DecidableEq
structure S where
 time : Int
 v : V
deriving DecidableEq
def Right (v : V) : Prop := 1 ≤ v.by_ ∧ v.by_ ≤ 64 ∧ 1 ≤ v.n
def RightS (s : S) : Prop := Right s.v ∧ 1 ≤ s.time
def Before (a b : V) : Prop := a.by_ < b.by_ ∨ (a.by_ = b.by_ ∧ a.n < b.n)
def Older (a b : S) : Prop := a.time < b.time ∨ (a.time = b.time ∧ Before a.v b.v)
instance (v : V) : Decidable (Right v) := inferInstanceAs (Decidable (_ ∧ _))
instance (s : S) : Decidable (RightS s) := inferInstanceAs (Decidable (_ ∧ _))
instance (a b : V) : Decidable (Before a b) := inferInstanceAs (Decidable (_ ∨ _))
instance (a b : S) : Decidable (Older a b) := inferInstanceAs (Decidable (_ ∨ _))
theorem v_ext {a b : V} (h : a.by_ = b.by_) (k : a.n = b.n) : a = b := by cases a; cases b; simp_all
theorem before_irrefl (a : V) : ¬ Before a a := by unfold Before; omega
theorem before_trans {a b c : V} (h : Before a b) (k : Before b c) : Before a c := by unfold Before at *; omega
theorem before_or {a b : V} (h : a ≠ b) : Before a b ∨ Before b a := by
 by_cases h1 : a.by_ = b.by_
 ·by_cases h2 : a.n = b.n
  ·exact absurd (v_ext h1 h2) h
  ·unfold Before; omega
 ·unfold Before; omega
theorem before_asymm {a b : V} (h : Before a b) : ¬ Before b a := fun k => before_irrefl a (before_trans h k)
def Up (l : List V) : Prop := l.Pairwise Before
def put (l : List V) (v : V) : List V := if (l.dropWhile fun x => decide (Before x v)).head? = some v then l else l.takeWhile (fun x => decide (Before x v)) ++ v :: l.dropWhile fun x => decide (Before x v)
def sort (l : List V) : List V := l.foldl put []
theorem up_same : ∀ {l m : List V}, Up l → Up m → (∀ x, x ∈ l ↔ x ∈ m) → l = m
 | [], [], _, _, _ => rfl
 | [], b :: m, _, _, h => by have := (h b).2 (by simp); cases this
 | a :: l, [], _, _, h => by have := (h a).1 (by simp); cases this
 | a :: l, b :: m, hl, hm, h => by
  have h1 := List.pairwise_cons.1 hl
  have h2 := List.pairwise_cons.1 hm
  have e : a = b := by
   refine Classical.byContradiction (fun e => ?_)
   have ha : a ∈ m := ((List.mem_cons.1 ((h a).1 (by simp))).resolve_left e)
   have hb : b ∈ l := ((List.mem_cons.1 ((h b).2 (by simp))).resolve_left (fun k => e k.symm))
   exact before_asymm (h1.1 b hb) (h2.1 a ha)
  subst e
  rw [up_same h1.2 h2.2 (fun x => ?_)]
  have hx := h x
  constructor
  ·intro hm'
   rcases List.mem_cons.1 (hx.1 (List.mem_cons_of_mem _ hm')) with rfl | k
   ·exact absurd (h1.1 x hm') (before_irrefl x)
   ·exact k
  ·intro hm'
   rcases List.mem_cons.1 (hx.2 (List.mem_cons_of_mem _ hm')) with rfl | k
   ·exact absurd (h2.1 x hm') (before_irrefl x)
   ·exact k
theorem put_mem {l : List V} {v x : V} : x ∈ put l v ↔ x = v ∨ x ∈ l := by
 have e : l.takeWhile (fun x => decide (Before x v)) ++ l.dropWhile (fun x => decide (Before x v)) = l := List.takeWhile_append_dropWhile
 unfold put
 split
 ·rename_i h
  have hp : v ∈ l := by
   rw [← e]
   exact List.mem_append.2 (Or.inr (List.mem_of_mem_head? (by rw [h]; rfl)))
  constructor
  ·exact Or.inr
  ·rintro (rfl | h)
   ·exact hp
   ·exact h
 ·rw [List.mem_append, List.mem_cons]
  constructor
  ·rintro (h | h | h)
   ·exact Or.inr (by rw [← e]; exact List.mem_append.2 (Or.inl h))
   ·exact Or.inl h
   ·exact Or.inr (by rw [← e]; exact List.mem_append.2 (Or.inr h))
  ·rintro (h | h)
   ·exact Or.inr (Or.inl h)
   ·rw [← e] at h
    rcases List.mem_append.1 h with h | h
    ·exact Or.inl h
    ·exact Or.inr (Or.inr h)
theorem take_lt {l : List V} {v : V} : ∀ x ∈ l.takeWhile (fun x => decide (Before x v)), Before x v := by
 intro x hx
 induction l with
 | nil => cases hx
 | cons a l ih =>
  rw [List.takeWhile_cons] at hx
  by_cases ha : Before a v
  ·rw [if_pos (decide_eq_true ha)] at hx
   rcases List.mem_cons.1 hx with rfl | hx
   ·exact ha
   ·exact ih hx
  ·rw [if_neg (by simpa using ha)] at hx; cases hx
theorem drop_ge {l : List V} (h : Up l) {v : V} : ∀ x ∈ l.dropWhile (fun x => decide (Before x v)), ¬ Before x v := by
 intro x hx
 induction l with
 | nil => cases hx
 | cons a l ih =>
  have h1 := List.pairwise_cons.1 h
  rw [List.dropWhile_cons] at hx
  by_cases ha : Before a v
  ·rw [if_pos (decide_eq_true ha)] at hx
   exact ih h1.2 hx
  ·rw [if_neg (by simpa using ha)] at hx
   rcases List.mem_cons.1 hx with rfl | hx
   ·exact ha
   ·exact fun k => ha (before_trans (h1.1 x hx) k)
theorem put_up {l : List V} (h : Up l) (v : V) : Up (put l v) := by
 have e : l.takeWhile (fun x => decide (Before x v)) ++ l.dropWhile (fun x => decide (Before x v)) = l := List.takeWhile_append_dropWhile
 unfold put
 split
 ·exact h
 ·rename_i hne
  have h0 : Up (l.takeWhile (fun x => decide (Before x v)) ++ l.dropWhile (fun x => decide (Before x v))) := by rw [e]; exact h
  obtain ⟨h1, h2, h3⟩ := List.pairwise_append.1 h0
  have hgt : ∀ x ∈ l.dropWhile (fun x => decide (Before x v)), Before v x := by
   intro x hx
   have hn := drop_ge h x hx
   by_cases ex : x = v
   ·exfalso
    subst ex
    cases hd : l.dropWhile (fun y => decide (Before y x)) with
    | nil => rw [hd] at hx; cases hx
    | cons a t =>
     rw [hd] at hne hx h2
     have hax : a ≠ x := fun k => hne (by rw [k]; rfl)
     have ht : x ∈ t := (List.mem_cons.1 hx).resolve_left (fun k => hax k.symm)
     exact drop_ge h a (by rw [hd]; simp) ((List.pairwise_cons.1 h2).1 x ht)
   ·exact (before_or ex).resolve_left hn
  refine List.pairwise_append.2 ⟨h1, List.pairwise_cons.2 ⟨hgt, h2⟩, fun x hx y hy => ?_⟩
  rcases List.mem_cons.1 hy with rfl | hy
  ·exact take_lt x hx
  ·exact before_trans (take_lt x hx) (hgt y hy)
theorem sort_aux (l : List V) : ∀ out : List V, Up out → Up (l.foldl put out) ∧ ∀ x, x ∈ l.foldl put out ↔ x ∈ out ∨ x ∈ l := by
 induction l with
 | nil => intro out h; exact ⟨h, fun x => by simp⟩
 | cons a l ih =>
  intro out h
  obtain ⟨h1, h2⟩ := ih (put out a) (put_up h a)
  refine ⟨h1, fun x => ?_⟩
  rw [List.foldl_cons, h2 x, put_mem, List.mem_cons]
  constructor
  ·rintro ((h | h) | h)
   ·exact Or.inr (Or.inl h)
   ·exact Or.inl h
   ·exact Or.inr (Or.inr h)
  ·rintro (h | h | h)
   ·exact Or.inl (Or.inr h)
   ·exact Or.inl (Or.inl h)
   ·exact Or.inr h
theorem sort_up (l : List V) : Up (sort l) := (sort_aux l [] List.Pairwise.nil).1
theorem sort_mem (l : List V) (x : V) : x ∈ sort l ↔ x ∈ l := by
 have := (sort_aux l [] List.Pairwise.nil).2 x
 unfold sort
 rw [this]
 simp
theorem sort_is {l m : List V} (h : Up m) (hm : ∀ x, x ∈ m ↔ x ∈ l) : sort l = m := up_same (sort_up l) h (fun x => (sort_mem l x).trans (hm x).symm)
theorem put_len (l : List V) (v : V) : (put l v).length ≤ l.length + 1 := by
 have e : l.takeWhile (fun x => decide (Before x v)) ++ l.dropWhile (fun x => decide (Before x v)) = l := List.takeWhile_append_dropWhile
 have e2 := congrArg List.length e
 rw [List.length_append] at e2
 unfold put
 split
 ·omega
 ·rw [List.length_append, List.length_cons]; omega
theorem sort_take (l : List V) (i : Nat) (x : V) (hx : l[i]? = some x) : sort (l.take (i + 1)) = put (sort (l.take i)) x := by
 obtain ⟨hl, he⟩ := List.getElem?_eq_some_iff.1 hx
 unfold sort
 rw [List.take_succ_eq_append_getElem hl, he, List.foldl_append]
 rfl
theorem sort_len (l : List V) : (sort l).length ≤ l.length := by
 have : ∀ (l out : List V), (l.foldl put out).length ≤ out.length + l.length := by
  intro l
  induction l with
  | nil => intro out; simp
  | cons a l ih =>
   intro out
   have h1 := ih (put out a)
   have h2 := put_len out a
   rw [List.foldl_cons, List.length_cons]
   omega
 have := this l []
 simpa [sort] using this
theorem put_cut : ∀ (l : List V) (k : V) (n : Nat), (∀ x ∈ l.take n, Before x k) → (∀ x, l[n]? = some x → ¬ Before x k) → n ≤ l.length →
  l.takeWhile (fun q => decide (Before q k)) = l.take n ∧ l.dropWhile (fun q => decide (Before q k)) = l.drop n
 | l, k, 0, _, h2, _ => by
  cases l with
  | nil => exact ⟨rfl, rfl⟩
  | cons y l =>
   have hy := h2 y rfl
   exact ⟨by rw [List.takeWhile_cons, if_neg (by simpa using hy)]; rfl, by rw [List.dropWhile_cons, if_neg (by simpa using hy)]; rfl⟩
 | [], k, n + 1, _, _, hn => by simp at hn
 | y :: l, k, n + 1, h1, h2, hn => by
  have hy := h1 y (by simp)
  obtain ⟨r1, r2⟩ := put_cut l k n (fun x hx => h1 x (by simp [hx])) (fun x hx => h2 x (by simpa using hx)) (by simpa using hn)
  exact ⟨by rw [List.takeWhile_cons, if_pos (by simpa using hy), r1]; rfl, by rw [List.dropWhile_cons, if_pos (by simpa using hy), r2]; rfl⟩
theorem put_at {l : List V} {k : V} {n : Nat} (h1 : ∀ x ∈ l.take n, Before x k) (h2 : ∀ x, l[n]? = some x → ¬ Before x k) (hn : n ≤ l.length) : put l k = if l[n]? = some k then l else l.take n ++ [k] ++ l.drop n := by
 obtain ⟨r1, r2⟩ := put_cut l k n h1 h2 hn
 unfold put
 rw [r1, r2, List.head?_drop]
 simp
end Go.Proofs.Ytpafpegcodempaa.Ver
namespace Go.Proofs.Ytpafpegcodempaa.Vec
open Ver (V Right)
def at_ (v : List Int) (i : Nat) : Int := if 1 ≤ i ∧ i ≤ 64 then max ((v[i]?).getD 0) 0 else 0
def num (v : List Int) (by_ : Int) : Int := if 1 ≤ by_ ∧ by_ ≤ 64 then at_ v by_.toNat else 0
def make (f : Nat → Int) : List Int := (List.range 65).map f
def clean (v : List Int) : List Int := make (at_ v)
def Has (v : List Int) (x : V) : Prop := Right x ∧ x.n ≤ num v x.by_
instance (v : List Int) (x : V) : Decidable (Has v x) := inferInstanceAs (Decidable (_ ∧ _))
def Covers (a b : List Int) : Prop := ∀ i, i < 65 → at_ b i ≤ at_ a i
instance (a b : List Int) : Decidable (Covers a b) := inferInstanceAs (Decidable (∀ i, i < 65 → _))
def join (a b : List Int) : List Int := make fun i => max (at_ a i) (at_ b i)
def up (v : List Int) (x : V) : List Int := if Right x ∧ at_ v x.by_.toNat < x.n then v.set x.by_.toNat x.n else v
def add (v : List Int) (x : V) : List Int := up (clean v) x
def ofl (l : List V) : List Int := l.foldl up (List.replicate 65 0)
def ends (v : List Int) : List V := ((List.range 65).filter fun i => decide (0 < at_ v i)).map fun (i : Nat) => ⟨(i : Int), at_ v i⟩
def Plain (v : List Int) : Prop := v.length = 65 ∧ ∀ i, i < 65 → v[i]? = some (at_ v i)
theorem make_len (f : Nat → Int) : (make f).length = 65 := by simp [make]
theorem make_at (f : Nat → Int) (i : Nat) (h : i < 65) : (make f)[i]? = some (f i) := by
 unfold make
 rw [List.getElem?_map, List.getElem?_range h]; rfl
theorem at_nonneg (v : List Int) (i : Nat) : 0 ≤ at_ v i := by unfold at_; split <;> omega
theorem at_zero (v : List Int) (i : Nat) (h : ¬ (1 ≤ i ∧ i ≤ 64)) : at_ v i = 0 := if_neg h
theorem at_make (f : Nat → Int) (i : Nat) (h : 1 ≤ i ∧ i ≤ 64) (h0 : 0 ≤ f i) : at_ (make f) i = f i := by
 unfold at_
 rw [if_pos h, make_at f i (by omega)]
 show max (f i) 0 = f i
 omega
theorem make_plain (f : Nat → Int) (h : ∀ i, 0 ≤ f i) (hz : f 0 = 0) : Plain (make f) := by
 refine ⟨make_len f, fun i hi => ?_⟩
 rw [make_at f i hi]
 by_cases hr : 1 ≤ i ∧ i ≤ 64
 ·rw [at_make f i hr (h i)]
 ·rw [at_zero _ _ hr]
  have : i = 0 := by omega
  rw [this, hz]
theorem at_clean (v : List Int) (i : Nat) : at_ (clean v) i = at_ v i := by
 by_cases h : 1 ≤ i ∧ i ≤ 64
 ·exact at_make _ i h (at_nonneg v i)
 ·rw [at_zero _ _ h, at_zero _ _ h]
theorem clean_plain (v : List Int) : Plain (clean v) := make_plain _ (at_nonneg v) (at_zero v 0 (by omega))
theorem plain_ext {a b : List Int} (ha : Plain a) (hb : Plain b) (h : ∀ i, at_ a i = at_ b i) : a = b := by
 refine List.ext_getElem? (fun i => ?_)
 by_cases hi : i < 65
 ·rw [ha.2 i hi, hb.2 i hi, h]
 ·rw [List.getElem?_eq_none (by rw [ha.1]; omega), List.getElem?_eq_none (by rw [hb.1]; omega)]
theorem plain_clean {v : List Int} (h : Plain v) : clean v = v := plain_ext (clean_plain v) h (at_clean v)
theorem up_len (v : List Int) (x : V) : (up v x).length = v.length := by
 unfold up
 split
 ·exact List.length_set
 ·rfl
theorem up_yes {v : List Int} {x : V} (h : Right x ∧ at_ v x.by_.toNat < x.n) : up v x = v.set x.by_.toNat x.n := if_pos h
theorem up_no {v : List Int} {x : V} (h : ¬ (Right x ∧ at_ v x.by_.toNat < x.n)) : up v x = v := if_neg h
theorem at_set_self {v : List Int} (hv : v.length = 65) {i : Nat} {n : Int} (hi : 1 ≤ i ∧ i ≤ 64) (hn : 0 ≤ n) : at_ (v.set i n) i = n := by
 unfold at_
 rw [if_pos hi, List.getElem?_set_self (by omega)]
 show max n 0 = n
 omega
theorem at_set_ne {v : List Int} {i k : Nat} {n : Int} (h : k ≠ i) : at_ (v.set k n) i = at_ v i := by
 unfold at_
 rw [List.getElem?_set_ne h]
theorem at_up {v : List Int} (hv : v.length = 65) (x : V) (i : Nat) : at_ (up v x) i = if Right x ∧ x.by_.toNat = i then max (at_ v i) x.n else at_ v i := by
 by_cases hx : Right x
 ·have hr := hx
  unfold Right at hr
  by_cases hi : x.by_.toNat = i
  ·rw [if_pos ⟨hx, hi⟩]
   subst hi
   by_cases hn : at_ v x.by_.toNat < x.n
   ·rw [up_yes ⟨hx, hn⟩, at_set_self hv (by omega) (by omega)]
    omega
   ·rw [up_no (fun h => hn h.2)]
    omega
  ·rw [if_neg (fun h => hi h.2)]
   by_cases hn : at_ v x.by_.toNat < x.n
   ·rw [up_yes ⟨hx, hn⟩, at_set_ne hi]
   ·rw [up_no (fun h => hn h.2)]
 ·rw [up_no (fun h => hx h.1), if_neg (fun h => hx h.1)]
theorem up_plain {v : List Int} (h : Plain v) (x : V) : Plain (up v x) := by
 refine ⟨by rw [up_len, h.1], fun i hi => ?_⟩
 rw [at_up h.1]
 unfold up
 by_cases hx : Right x ∧ at_ v x.by_.toNat < x.n
 ·rw [if_pos hx]
  by_cases e : x.by_.toNat = i
  ·subst e
   rw [if_pos ⟨hx.1, rfl⟩, List.getElem?_set_self (by rw [h.1]; omega)]
   congr 1
   omega
  ·rw [if_neg (fun k => e k.2), List.getElem?_set_ne e, h.2 i hi]
 ·rw [if_neg hx, h.2 i hi]
  congr 1
  by_cases e : Right x ∧ x.by_.toNat = i
  ·rw [if_pos e]
   obtain ⟨e1, rfl⟩ := e
   have : ¬ at_ v x.by_.toNat < x.n := fun k => hx ⟨e1, k⟩
   omega
  ·rw [if_neg e]
theorem add_plain (v : List Int) (x : V) : Plain (add v x) := up_plain (clean_plain v) x
theorem zero_plain : Plain (List.replicate 65 0) := by
 refine ⟨List.length_replicate, fun i hi => ?_⟩
 have e : (List.replicate 65 (0 : Int))[i]? = some 0 := by rw [List.getElem?_replicate, if_pos hi]
 rw [e]
 unfold at_
 rw [e]
 split <;> rfl
theorem fold_plain : ∀ (l : List V) {v : List Int}, Plain v → Plain (l.foldl up v)
 | [], v, h => h
 | x :: l, v, h => fold_plain l (up_plain h x)
theorem ofl_plain (l : List V) : Plain (ofl l) := fold_plain l zero_plain
theorem ofl_take (l : List V) (i : Nat) (x : V) (hx : l[i]? = some x) : ofl (l.take (i + 1)) = up (ofl (l.take i)) x := by
 obtain ⟨hl, he⟩ := List.getElem?_eq_some_iff.1 hx
 unfold ofl
 rw [List.take_succ_eq_append_getElem hl, he, List.foldl_append]
 rfl
theorem fold_at (i : Nat) : ∀ (l : List V) {v : List Int}, Plain v → ∀ m, at_ (l.foldl up v) i ≤ m ↔ at_ v i ≤ m ∧ ∀ x ∈ l, Right x → x.by_.toNat = i → x.n ≤ m
 | [], v, h, m => by simp
 | y :: l, v, h, m => by
  rw [List.foldl_cons, fold_at i l (up_plain h y) m, at_up h.1]
  constructor
  ·rintro ⟨h1, h2⟩
   by_cases hy : Right y ∧ y.by_.toNat = i
   ·rw [if_pos hy] at h1
    refine ⟨by omega, fun x hx hr he => ?_⟩
    rcases List.mem_cons.1 hx with rfl | hx
    ·omega
    ·exact h2 x hx hr he
   ·rw [if_neg hy] at h1
    refine ⟨h1, fun x hx hr he => ?_⟩
    rcases List.mem_cons.1 hx with rfl | hx
    ·exact absurd ⟨hr, he⟩ hy
    ·exact h2 x hx hr he
  ·rintro ⟨h1, h2⟩
   refine ⟨?_, fun x hx => h2 x (List.mem_cons_of_mem _ hx)⟩
   by_cases hy : Right y ∧ y.by_.toNat = i
   ·rw [if_pos hy]
    have := h2 y (by simp) hy.1 hy.2
    omega
   ·rw [if_neg hy]; exact h1
theorem ends_mem (v : List Int) (x : V) : x ∈ ends v ↔ ∃ i, i < 65 ∧ 0 < at_ v i ∧ x = ⟨(i : Int), at_ v i⟩ := by
 unfold ends
 rw [List.mem_map]
 constructor
 ·rintro ⟨i, hi, rfl⟩
  obtain ⟨h1, h2⟩ := List.mem_filter.1 hi
  exact ⟨i, List.mem_range.1 h1, by simpa using h2, rfl⟩
 ·rintro ⟨i, h1, h2, rfl⟩
  exact ⟨i, List.mem_filter.2 ⟨List.mem_range.2 h1, by simpa using h2⟩, rfl⟩
theorem ofl_ends (v : List Int) : ofl (ends v) = clean v := by
 refine plain_ext (ofl_plain _) (clean_plain v) (fun i => ?_)
 rw [at_clean]
 have hz : at_ (List.replicate 65 0) i = 0 := by
  unfold at_
  rw [List.getElem?_replicate]
  split
  ·split <;> rfl
  ·rfl
 have h0 := at_nonneg v i
 apply Int.le_antisymm
 ·unfold ofl
  rw [fold_at i _ zero_plain, hz]
  refine ⟨h0, fun x hx hr he => ?_⟩
  obtain ⟨k, hk, h1, rfl⟩ := (ends_mem v x).1 hx
  have : k = i := by simpa using he
  subst this
  exact Int.le_refl _
 ·by_cases hp : 0 < at_ v i
  ·have hi : 1 ≤ i ∧ i ≤ 64 := Classical.byContradiction (fun h => by rw [at_zero v i h] at hp; omega)
   have := (fold_at i (ends v) zero_plain (at_ (ofl (ends v)) i)).1 (Int.le_refl _)
   exact this.2 ⟨(i : Int), at_ v i⟩ ((ends_mem v _).2 ⟨i, by omega, hp, rfl⟩) ⟨by simp; omega, by simp; omega, by simp; omega⟩ (by simp)
  ·have := at_nonneg (ofl (ends v)) i
   omega
end Go.Proofs.Ytpafpegcodempaa.Vec
namespace Go.Proofs.Ytpafpegcodempaa.Vec
open Ver (V Right)
def part (f : Nat → Int) (v : List Int) (k : Nat) : List Int := (make f).take k ++ v.drop k
theorem part_zero (f : Nat → Int) (v : List Int) : part f v 0 = v := by unfold part; rw [List.take_zero, List.drop_zero]; rfl
theorem part_all (f : Nat → Int) {v : List Int} (h : v.length = 65) : part f v 65 = make f := by
 unfold part
 rw [List.take_of_length_le (by rw [make_len]; omega), List.drop_of_length_le (by omega), List.append_nil]
theorem part_len (f : Nat → Int) {v : List Int} (h : v.length = 65) {k : Nat} (hk : k ≤ 65) : (part f v k).length = 65 := by
 unfold part
 rw [List.length_append, List.length_take, List.length_drop, make_len, h]
 omega
theorem part_lt (f : Nat → Int) (v : List Int) {k i : Nat} (hk : k ≤ 65) (hi : i < k) : (part f v k)[i]? = some (f i) := by
 unfold part
 rw [List.getElem?_append_left (by rw [List.length_take, make_len]; omega), List.getElem?_take, if_pos hi, make_at f i (by omega)]
theorem part_ge (f : Nat → Int) (v : List Int) {k i : Nat} (hk : k ≤ 65) (hi : k ≤ i) : (part f v k)[i]? = v[i]? := by
 unfold part
 rw [List.getElem?_append_right (by rw [List.length_take, make_len]; omega), List.length_take, make_len, List.getElem?_drop]
 congr 1
 omega
theorem part_set (f : Nat → Int) {v : List Int} (h : v.length = 65) {k : Nat} (hk : k < 65) : (part f v k).set k (f k) = part f v (k + 1) := by
 apply List.ext_getElem?
 intro i
 by_cases hi : i = k
 ·subst hi
  rw [List.getElem?_set_self (by rw [part_len f h (by omega)]; omega), part_lt f v (by omega) (by omega)]
 ·rw [List.getElem?_set_ne (fun e => hi e.symm)]
  by_cases h2 : i < k
  ·rw [part_lt f v (by omega) h2, part_lt f v (by omega) (by omega)]
  ·rw [part_ge f v (by omega) (by omega), part_ge f v (by omega) (by omega)]
theorem clean_set (v : List Int) : (make (fun i => max ((v[i]?).getD 0) 0)).set 0 0 = clean v := by
 apply List.ext_getElem?
 intro i
 by_cases h65 : i < 65
 ·rw [show clean v = make (at_ v) from rfl, make_at _ i h65]
  by_cases hi : i = 0
  ·subst hi
   rw [List.getElem?_set_self (by rw [make_len]; omega), at_zero v 0 (by omega)]
  ·rw [List.getElem?_set_ne (fun e => hi e.symm), make_at _ i h65]
   unfold at_
   rw [if_pos (by omega)]
 ·rw [List.getElem?_eq_none (by rw [List.length_set, make_len]; omega), List.getElem?_eq_none (by rw [(clean_plain v).1]; omega)]
theorem clean_get (v : List Int) {i : Nat} (h : i < 65) : (clean v)[i]? = some (at_ v i) := make_at _ i h
theorem clean_len (v : List Int) : (clean v).length = 65 := make_len _
theorem up_max {v : List Int} (h : Plain v) {x : V} (hx : Right x) {n : Int} (hn : v[x.by_.toNat]? = some n) : v.set x.by_.toNat (max n x.n) = up v x := by
 have hr := hx
 unfold Right at hr
 have e : n = at_ v x.by_.toNat := by
  have := h.2 x.by_.toNat (by omega)
  rw [hn] at this
  injection this
 by_cases hl : at_ v x.by_.toNat < x.n
 ·rw [up_yes ⟨hx, hl⟩, show max n x.n = x.n by omega]
 ·rw [up_no (fun k => hl k.2), show max n x.n = n by omega]
  apply List.ext_getElem?
  intro i
  by_cases hi : i = x.by_.toNat
  ·subst hi
   rw [List.getElem?_set_self (by rw [h.1]; omega), hn]
  ·rw [List.getElem?_set_ne (fun e => hi e.symm)]
def endsK (v : List Int) (k : Nat) : List V := ((List.range k).filter fun i => decide (0 < at_ v i)).map fun (i : Nat) => ⟨(i : Int), at_ v i⟩
theorem endsK_zero (v : List Int) : endsK v 0 = [] := rfl
theorem endsK_all (v : List Int) : endsK v 65 = ends v := rfl
theorem endsK_more (v : List Int) (k : Nat) (h : 0 < at_ v k) : endsK v (k + 1) = endsK v k ++ [⟨(k : Int), at_ v k⟩] := by
 unfold endsK
 rw [List.range_succ, List.filter_append, List.map_append]
 congr 1
 simp [h]
theorem endsK_same (v : List Int) (k : Nat) (h : ¬ 0 < at_ v k) : endsK v (k + 1) = endsK v k := by
 unfold endsK
 rw [List.range_succ, List.filter_append, List.map_append]
 simp [h]
theorem endsK_one (v : List Int) : endsK v 1 = [] := by
 rw [endsK_same v 0 (by rw [at_zero v 0 (by omega)]; omega), endsK_zero]
theorem endsK_len (v : List Int) (k : Nat) : (endsK v k).length ≤ k := by
 unfold endsK
 rw [List.length_map]
 exact Nat.le_trans (List.length_filter_le ..) (by rw [List.length_range]; exact Nat.le_refl _)
theorem num_nat (v : List Int) {k : Nat} (hk : k < 65) : num v (k : Int) = at_ v k := by
 unfold num
 by_cases h : 1 ≤ (k : Int) ∧ (k : Int) ≤ 64
 ·rw [if_pos h, Int.toNat_natCast]
 ·rw [if_neg h, at_zero v k (by omega)]
instance (v : List Int) : Decidable (Plain v) := inferInstanceAs (Decidable (_ ∧ _))
theorem at_le {v : List Int} (h : ∀ n ∈ v, n ≤ 9223372036854775807) (i : Nat) : at_ v i ≤ 9223372036854775807 := by
 unfold at_
 split
 ·cases hn : v[i]? with
  | none => show max (0 : Int) 0 ≤ _; omega
  | some n =>
   have := h n (List.mem_of_getElem? hn)
   show max n 0 ≤ _
   omega
 ·omega
end Go.Proofs.Ytpafpegcodempaa.Vec
namespace Go.Proofs.Ytpafpegcodempaa
open Go.RowKit
section
variable {α : Type} {t k : Nat} {f : α → List Value} {w wr w1 w2 : World} {out : List α} {v v' : Value}
theorem row_below {base t size n : Nat} {v : Value} {xs : List Value} (h : w.ownsRow base t size v n xs) (k : Below w.heap.size w w1) : w1.ownsRow base t size v n xs :=
 h.kept (Kept.ofBelow k (fun i => i = w.heap.size)).grown (Or.inr (fun e => by have := (h.lt _ e).2; omega))
def RowsOwn (t k : Nat) (f : α → List Value) (w : World) (out : List α) (v : Value) (wr : World) : Prop := wr.ownsRow w.heap.size t k v out.length (out.flatMap f) ∧ Below w.heap.size w wr
theorem RowsOwn.start (t k : Nat) (f : α → List Value) (w : World) : RowsOwn t k f w [] (.slice none 0 0) w := ⟨World.ownsRow_nil _ _ _ _, Below.refl _ _⟩
theorem RowsOwn.first (h : Below w.heap.size w wr) : RowsOwn t k f w [] (.slice none 0 0) wr := ⟨World.ownsRow_nil _ _ _ _, h⟩
theorem RowsOwn.below (h : RowsOwn t k f w out v w1) (hb : Below w1.heap.size w1 w2) : RowsOwn t k f w out v w2 := ⟨row_below h.1 hb, h.2.trans (hb.mono h.2.size)⟩
theorem row_lower {a b t size n : Nat} {v : Value} {xs : List Value} (h : w.ownsRow b t size v n xs) (hab : a ≤ b) : w.ownsRow a t size v n xs := by
 refine ⟨h.1, ?_⟩
 rcases h.2 with h2 | ⟨g, cap, cur, hv, hb, r⟩
 ·exact Or.inl h2
 ·exact Or.inr ⟨g, cap, cur, hv, Nat.le_trans hab hb, r⟩
theorem RowsOwn.since (h : RowsOwn t k f w1 out v w2) (hb : Below w.heap.size w w1) : RowsOwn t k f w out v w2 := ⟨row_lower h.1 hb.size, hb.trans (h.2.mono hb.size)⟩
theorem RowsOwn.more {x : α} {o : Obj} (h : RowsOwn t k f w out v wr) (hown : w2.ownsRow w.heap.size t k v' (out.length + 1) (out.flatMap f ++ f x)) (hg : (wr.alloc o).grownBy w2 v.ownBlock) : RowsOwn t k f w (out ++ [x]) v' w2 := by
 obtain ⟨h1, h2⟩ := h
 refine ⟨?_, (h2.alloc h2.size o).grown hg (by have := h2.size; simp; omega) (fun k hk => (h1.lt k hk).1)⟩
 rw [List.length_append, List.flatMap_append]
 simpa using hown
theorem RowsOwn.rows (h : RowsOwn t k f w out v wr) (hk : ∀ x ∈ out, (f x).length = k) : Rws k f wr (NewIn w wr) v out := Rws.ofOwn h.1 rfl hk (fun _ _ h1 h2 => ⟨h1, h2⟩)
theorem Rws.block {F : Nat → Prop} {v : Value} {l : List α} (h : Rws k f w F v l) (h0 : 0 < l.length) : ∃ b o cap, v = .slice (some ⟨b, o, Option.none⟩) l.length cap ∧ l.length ≤ cap ∧ F b ∧ b < w.heap.size := by
 obtain ⟨A, c, e, hc, hat⟩ := h
 obtain ⟨b, o, rfl, hb, hl, -⟩ := hat h0
 exact ⟨b, o, c, e, hc, hb, hl⟩
theorem Rws.parts {F : Nat → Prop} {v : Value} {l : List α} (h : Rws k f w F v l) : ∃ A cap, v = .slice A l.length cap ∧ l.length ≤ cap := by
 obtain ⟨A, c, e, hc, hat⟩ := h
 exact ⟨A, c, e, hc⟩
end
section
variable {α : Type} {t k : Nat} {f : α → List Value} {w wr w2 : World} {l m : List α} {v v' : Value} {o : Obj}
theorem RowsOwn.front (hg : (wr.alloc o).grownBy w2 (Value.slice (some ⟨wr.heap.size, 0, none⟩) 0 0).ownBlock) (hown : w2.ownsRow wr.heap.size t k v (0 + l.length) ([] ++ l.flatMap f)) : RowsOwn t k f wr l v w2 := by
 refine ⟨by simpa using hown, ((Below.refl wr.heap.size wr).alloc (Nat.le_refl _) o).grown hg (by simp) (fun k hk => ?_)⟩
 have : wr.heap.size = k := by simpa [Value.ownBlock] using hk
 omega
theorem RowsOwn.rest (h : RowsOwn t k f w l v wr) (hg : wr.grownBy w2 v.ownBlock) (hown : w2.ownsRow w.heap.size t k v' (l.length + m.length) (l.flatMap f ++ m.flatMap f)) : RowsOwn t k f w (l ++ m) v' w2 :=
 ⟨by rw [List.length_append, List.flatMap_append]; exact hown, h.2.grown hg h.2.size (fun k hk => (h.1.lt k hk).1)⟩
end
open Go.ChangeShapes Go.WideShapes Go.ChangeAt Go.RowKit
theorem own : ownKnob Try.prog.godebug = none := by kernel_rfl
theorem laidOut : laidOutB Try.prog = true := by kernel_rfl
section
variable {H : Type} {enc : TypeId × Value → H}
theorem args_stay {W W' : World} (hb : Below W.heap.size W W') : ∀ (ts : List TypeId) (vs : List Value) (ds : List (DataW H)) (ps : List MemPlace),
  (∀ t ∈ ts, Try.prog.readableRec t = true ∧ t < Try.prog.types.size) → (∀ p ∈ ps, p.block < W.heap.size) →
  DataW.TrodAll enc Try.prog W 0 (fun _ => true) true ts vs ds ps → DataW.TrodAll enc Try.prog W' 0 (fun b => decide (b < W.heap.size)) true ts vs ds ps
 | [], vs, ds, ps, _, _, h => by
  obtain ⟨rfl, rfl, rfl⟩ := trodAll_nil h
  exact trodAll_mk0
 | t :: ts, vs, ds, ps, ht, hp, h => by
  obtain ⟨v, vs', d, ds', p, q, rfl, rfl, rfl, h1, h2⟩ := trodAll_cons h
  obtain ⟨r1, r2⟩ := ht t (by simp)
  exact trodAll_cons_mk (Below.trod laidOut r1 r2 h1 hb (fun x hx => hp x (by simp [hx]))) (args_stay hb ts vs' ds' q (fun u hu => ht u (by simp [hu])) (fun x hx => hp x (by simp [hx])) h2)
theorem law_done {f : Func} {s : ChangeSpec} {W W' : World} {args : Array Value} {ds gs : List (DataW H)} {before : List MemPlace} (hres : f.resultTypes = #[4]) (hv : s.vars = [])
  (hW : DataW.Whole enc Try.prog f.params.toList s.vars false W args.toList ds gs before) (hfn : s.fn H (ds ++ gs) = { results := [.lit (.bool true)], args := ds })
  (hr : ∀ t ∈ f.params.toList, Try.prog.readableRec t = true ∧ t < Try.prog.types.size) (hb : Below W.heap.size W W') :
  s.post enc Try.prog f false true false false W args (.bool true) W' := by
 have hlt : ∀ p ∈ before, p.block < W.heap.size := fun p hp => hW.lt p hp
 have hW0 := hW
 obtain ⟨p, q, hA, hV, hpq, _, _⟩ := hW
 rw [hv] at hV
 obtain ⟨rfl, rfl⟩ := trodVars_none hV
 rw [List.append_nil] at hpq
 subst hpq
 refine ⟨ds, [], before, [], before, [], hW0, ?_, ?_, ?_, hb.frame _, fun h => by cases h⟩
 ·rw [hfn, hres]
  exact trodAll_mk1 (shut_bool Try.underlying4 true)
 ·rw [hfn]
  exact args_stay hb _ _ _ _ hr hlt hA
 ·rw [hfn, hv]
  rfl
end
open Go.RowKit
def verV (v : Ver.V) : List Value := [.int .i64 v.by_, .int .i64 v.n]
def stpV (s : Ver.S) : List Value := [.int .i64 s.v.by_, .int .i64 s.v.n, .int .i64 s.time]
def numV (n : Int) : List Value := [.int .i64 n]
abbrev verA (v : Ver.V) : Value := .agg #[.int .i64 v.by_, .int .i64 v.n]
abbrev Vrs (w : World) (F : Nat → Prop) (v : Value) (l : List Ver.V) : Prop := Rws 2 verV w F v l
abbrev Sts (w : World) (F : Nat → Prop) (v : Value) (l : List Ver.S) : Prop := Rws 3 stpV w F v l
abbrev Nums (w : World) (F : Nat → Prop) (v : Value) (l : List Int) : Prop := Rws 1 numV w F v l
def Ver.I64 (n : Int) : Prop := -9223372036854775808 ≤ n ∧ n ≤ 9223372036854775807
def Ver.Bd (v : Ver.V) : Prop := Ver.I64 v.by_ ∧ Ver.I64 v.n
def Ver.BdS (s : Ver.S) : Prop := Ver.Bd s.v ∧ Ver.I64 s.time
instance (n : Int) : Decidable (Ver.I64 n) := inferInstanceAs (Decidable (_ ∧ _))
instance (v : Ver.V) : Decidable (Ver.Bd v) := inferInstanceAs (Decidable (_ ∧ _))
instance (s : Ver.S) : Decidable (Ver.BdS s) := inferInstanceAs (Decidable (_ ∧ _))
def Ver.checkV (v : Ver.V) : Int := if Ver.Right v then 0 else 2
def Ver.zero : Ver.S := ⟨0, 0, 0⟩
theorem ver_len (v : Ver.V) : (verV v).length = 2 := rfl
theorem num_len (n : Int) : (numV n).length = 1 := rfl
theorem ver_one (v : Ver.V) : ∀ u ∈ verV v, u.oneCell' = true := by
 intro u hu
 unfold verV at hu
 simp only [List.mem_cons, List.not_mem_nil, or_false] at hu
 rcases hu with rfl | rfl <;> rfl
def Laid (w w' : World) : Prop := ∃ q os, w' = Sort.grow (w.drewN q) os
theorem Laid.refl (w : World) : Laid w w := ⟨0, #[], by rw [Sort.grow_empty]; rfl⟩
theorem Laid.new (w : World) (o : Obj) : Laid w (w.alloc o) := ⟨0, #[o], by rw [Sort.alloc_eq_grow]; rfl⟩
theorem Laid.trans {a b c : World} (h : Laid a b) (k : Laid b c) : Laid a c := by
 obtain ⟨q, os, rfl⟩ := h
 obtain ⟨q2, os2, rfl⟩ := k
 refine ⟨q + q2, os ++ os2, ?_⟩
 show Sort.grow (Sort.grow ((a.drewN q).drewN q2) os) os2 = _
 rw [Sort.grow_grow, World.drewN_drewN]
theorem Laid.below {w w' : World} (h : Laid w w') : Below w.heap.size w w' := by
 obtain ⟨q, os, rfl⟩ := h
 exact ⟨rfl, rfl, rfl, by rw [Sort.size_grow]; exact Nat.le_add_right _ _, fun i hi => Sort.heap_grow_old (w.drewN q) os hi⟩
structure VersOk : Prop where
 check : ∀ {w : World} (v : Ver.V), Ver.Bd v → Calls Try.prog 53 #[verA v] w fun e w' => e = .returned (.int .i64 (Ver.checkV v)) ∧ Laid w w'
 before : ∀ {w : World} (a b : Ver.V), Calls Try.prog 77 #[verA a, verA b] w fun e w' => e = .returned (.bool (decide (Ver.Before a b))) ∧ Laid w w'
 sort : ∀ {w : World} {F : Nat → Prop} {v : Value} {l : List Ver.V}, Vrs w F v l → l.length ≤ 1000000 → Calls Try.prog 58 #[v] w fun e w' => ∃ v', e = .returned v' ∧ Vrs w' (NewIn w w') v' (Ver.sort l) ∧ Below w.heap.size w w'
section
variable {w : World} {F : Nat → Prop} {b o n cap : Nat}
theorem Vrs.at {l : List Ver.V} (h : Vrs w F (.slice (some ⟨b, o, none⟩) n cap) l) {i : Nat} {x : Ver.V} (hx : l[i]? = some x) :
  w.cell? ⟨b, o + i * 2, none⟩ = some (.int .i64 x.by_) ∧ w.cell? ⟨b, o + i * 2 + 1, none⟩ = some (.int .i64 x.n) := by
 obtain ⟨A, c, e, -, hat⟩ := h
 injection e with e1 e2 e3
 obtain ⟨b', o', e, -, -, hc⟩ := hat (by obtain ⟨hl, _⟩ := List.getElem?_eq_some_iff.1 hx; omega)
 rw [e] at e1
 injection e1 with e1
 injection e1 with e1 e2
 subst e1 e2
 exact ⟨hc i x hx 0 _ rfl, hc i x hx 1 _ rfl⟩
theorem Sts.at {l : List Ver.S} (h : Sts w F (.slice (some ⟨b, o, none⟩) n cap) l) {i : Nat} {x : Ver.S} (hx : l[i]? = some x) :
  w.cell? ⟨b, o + i * 3, none⟩ = some (.int .i64 x.v.by_) ∧ w.cell? ⟨b, o + i * 3 + 1, none⟩ = some (.int .i64 x.v.n) ∧ w.cell? ⟨b, o + i * 3 + 2, none⟩ = some (.int .i64 x.time) := by
 obtain ⟨A, c, e, -, hat⟩ := h
 injection e with e1 e2 e3
 obtain ⟨b', o', e, -, -, hc⟩ := hat (by obtain ⟨hl, _⟩ := List.getElem?_eq_some_iff.1 hx; omega)
 rw [e] at e1
 injection e1 with e1
 injection e1 with e1 e2
 subst e1 e2
 exact ⟨hc i x hx 0 _ rfl, hc i x hx 1 _ rfl, hc i x hx 2 _ rfl⟩
theorem Nums.at {l : List Int} (h : Nums w F (.slice (some ⟨b, o, none⟩) n cap) l) {i : Nat} {x : Int} (hx : l[i]? = some x) : w.cell? ⟨b, o + i, none⟩ = some (.int .i64 x) := by
 obtain ⟨A, c, e, -, hat⟩ := h
 injection e with e1 e2 e3
 obtain ⟨b', o', e, -, -, hc⟩ := hat (by obtain ⟨hl, _⟩ := List.getElem?_eq_some_iff.1 hx; omega)
 rw [e] at e1
 injection e1 with e1
 injection e1 with e1 e2
 subst e1 e2
 have := hc i x hx 0 _ rfl
 rwa [Nat.mul_one, Nat.add_zero] at this
end
open Go.RowKit
def InB (w w' : World) : Prop := Below w.heap.size w w'
theorem InB.refl (w : World) : InB w w := Below.refl _ _
theorem InB.below {w w' : World} (h : InB w w') : Below w.heap.size w w' := h
theorem InB.drew {w w' : World} (h : InB w w') : InB w w'.drew := Below.drew h
theorem InB.trans {a b c : World} (h : InB a b) (k : Below b.heap.size b c) : InB a c := Below.trans h (k.mono h.below.size)
section
variable {P : Program} {ops : Array Oper} {C : World → Prop} {Q : Act → Prop} {o : Oper} {rest : List Oper} {a : Act}
structure WQ (P : Program) (ops : Array Oper) (C : World → Prop) (Q : Act → Prop) (l : List Oper) (a : Act) : Prop where
 out : wpQuiet P ops C Q l a
theorem wp_region_below {id : Nat} {Q : Exit → Act → World → Prop} {a : Act} {w : World} {l : List Oper} (hm : P.follows .mixedOrders = true) (hB : Region.lexB .any l.toArray = true)
  (h : WQ P l.toArray (InB w) (fun a' => ∀ w', InB w w' → Q .normal a' w') l a) : (Code.region id l.toArray true).wp P Q a w :=
 wp_region_quiet (C := InB w) hm hB ⟨rfl, rfl, rfl, Nat.le_refl _, fun _ _ => rfl⟩ (by simpa using h.out)
theorem wq_nil (h : Q a) : WQ P ops C Q [] a := ⟨wpQuiet_nil h⟩
theorem wq_skip (hw : Region.wanted o (yielded ops a.tmps) = false) (k : WQ P ops C Q rest (a.put o.dst undef)) : WQ P ops C Q (o :: rest) a := by
 refine ⟨?_⟩
 unfold wpQuiet
 rw [if_neg (by rw [hw]; decide)]
 exact k.out
theorem wq_take {v : Value} (hw : Region.wanted o (yielded ops a.tmps) = true) (h : ∀ w, C w → (execOp a.eval o).run P w = .ok (.value v) w) (k : WQ P ops C Q rest (a.put o.dst v)) : WQ P ops C Q (o :: rest) a := by
 refine ⟨?_⟩
 unfold wpQuiet
 rw [if_pos hw]
 refine ⟨v, fun w hC => ?_, k.out⟩
 unfold Oper.quietAt
 rw [h w hC]
 exact ⟨rfl, rfl⟩
theorem wq_td {v : Value} (k : WQ P ops C Q rest (a.put o.dst v)) (hw : Region.wanted o (yielded ops a.tmps) = true := by kernel_rfl) (h : ∀ w, C w → (execOp a.eval o).run P w = .ok (.value v) w := by intro w hSw; go_simp; first | done | with_reducible rfl) : WQ P ops C Q (o :: rest) a := wq_take hw h k
theorem wq_call {v : Value} {f : FuncId} {args : Array Value} (hw : Region.wanted o (yielded ops a.tmps) = true) (h : ∀ w, C w → (execOp a.eval o).run P w = .ok (.enter f args) w) (hc : ∀ w, C w → Calls P f args w fun e w' => e = .returned v ∧ C w') (k : WQ P ops C Q rest (a.put o.dst v)) : WQ P ops C Q (o :: rest) a := by
 refine ⟨?_⟩
 unfold wpQuiet
 rw [if_pos hw]
 refine ⟨v, fun w hC => ?_, k.out⟩
 unfold Oper.quietAt
 rw [h w hC]
 exact ⟨rfl, hc w hC⟩
end
theorem inB_calls {P : Program} {f : FuncId} {args : Array Value} {W w : World} {v : Value} (hC : InB W w) (h : Calls P f args w fun e w' => e = .returned v ∧ Below w.heap.size w w') : Calls P f args w fun e w' => e = .returned v ∧ InB W w' :=
 h.mono fun _ _ ⟨he, hb⟩ => ⟨he, hC.trans hb⟩
end Go.Proofs.Ytpafpegcodempaa
