import Derived.Test.YtkacfmaogiblfaaUom3
import Derived.Test.YtkacfmaogiblfaaUom1
import Derived.Test.YtkacfmaogiblfaaRows
import Derived.WalkKit
import Derived.ProofKit
import Derived.OpenShut
import Derived.ShutString
import Derived.SizedLaws
import Derived.Carry
import Derived.Sort.Grow
import Derived.Deep.Quiet
import Derived.Deep.QuietTactic
import Derived.Deep.WholeRow
import Derived.Deep.MidRow
set_option maxRecDepth 100000
set_option linter.all false
namespace Go.Proofs.Ytkacfmaogiblfaa.Vec
open Ver (V Right)
def at_ (v : List Int) (i : Nat) : Int := if 1 ≤ i ∧ i ≤ 64 then max ((v[i]?).getD 0) 0 else 0
def num (v : List Int) (by_ : Int) : Int := if 1 ≤ by_ ∧ by_ ≤ 64 then at_ v by_.toNat else 0
def make (f : Nat → Int) : List Int := (List.range 65).map f
def clean (v : List Int) : List Int := make (at_ v)
def Has (v : List Int) (x : V) : Prop := Right x ∧ x.n ≤ num v x.by_
instance (v : List Int) (x : V) : Decidable (Has v x) := inferInstanceAs (Decidable (_ ∧ _))
def Covers (a b : List Int) : Prop := ∀ i, i < 65 → at_ b i ≤ at_ a i
instance (a b : List Int) : Decidable (Covers a b) := inferInstanceAs (Decidable (∀ i, i < 65 → _))
def join (a b : List Int) : List Int := make fun i => max (at_ a i) (at_ b i)
def meet (a b : List Int) : List Int := make fun i => min (at_ a i) (at_ b i)
def up (v : List Int) (x : V) : List Int := if Right x ∧ at_ v x.by_.toNat < x.n then v.set x.by_.toNat x.n else v
def add (v : List Int) (x : V) : List Int := up (clean v) x
def ofl (l : List V) : List Int := l.foldl up (List.replicate 65 0)
def ends (v : List Int) : List V := ((List.range 65).filter fun i => decide (0 < at_ v i)).map fun (i : Nat) => ⟨(i : Int), at_ v i⟩
def Plain (v : List Int) : Prop := v.length = 65 ∧ ∀ i, i < 65 → v[i]? = some (at_ v i)
theorem make_len (f : Nat → Int) : (make f).length = 65 := by simp [make]
theorem make_at (f : Nat → Int) (i : Nat) (h : i < 65) : (make f)[i]? = some (f i) := by
 unfold make
 rw [List.getElem?_map, List.getElem?_range h]; rfl
theorem at_nonneg (v : List Int) (i : Nat) : 0 ≤ at_ v i := by unfold at_; split <;> omega
theorem at_zero (v : List Int) (i : Nat) (h : ¬ (1 ≤ i ∧ i ≤ 64)) : at_ v i = 0 := if_neg h
theorem at_make (f : Nat → Int) (i : Nat) (h : 1 ≤ i ∧ i ≤ 64) (h0 : 0 ≤ f i) : at_ (make f) i = f i := by
 unfold at_
 rw [if_pos h, make_at f i (by omega)]
 show max (f i) 0 = f i
 omega
theorem make_plain (f : Nat → Int) (h : ∀ i, 0 ≤ f i) (hz : f 0 = 0) : Plain (make f) := by
 refine ⟨make_len f, fun i hi => ?_⟩
 rw [make_at f i hi]
 by_cases hr : 1 ≤ i ∧ i ≤ 64
 ·rw [at_make f i hr (h i)]
 ·rw [at_zero _ _ hr]
  have : i = 0 := by omega
  rw [this, hz]
theorem clean_plain (v : List Int) : Plain (clean v) := make_plain _ (at_nonneg v) (at_zero v 0 (by omega))
theorem up_len (v : List Int) (x : V) : (up v x).length = v.length := by
 unfold up
 split
 ·exact List.length_set
 ·rfl
theorem up_yes {v : List Int} {x : V} (h : Right x ∧ at_ v x.by_.toNat < x.n) : up v x = v.set x.by_.toNat x.n := if_pos h
theorem up_no {v : List Int} {x : V} (h : ¬ (Right x ∧ at_ v x.by_.toNat < x.n)) : up v x = v := if_neg h
theorem at_set_self {v : List Int} (hv : v.length = 65) {i : Nat} {n : Int} (hi : 1 ≤ i ∧ i ≤ 64) (hn : 0 ≤ n) : at_ (v.set i n) i = n := by
 unfold at_
 rw [if_pos hi, List.getElem?_set_self (by omega)]
 show max n 0 = n
 omega
theorem at_set_ne {v : List Int} {i k : Nat} {n : Int} (h : k ≠ i) : at_ (v.set k n) i = at_ v i := by
 unfold at_
 rw [List.getElem?_set_ne h]
theorem at_up {v : List Int} (hv : v.length = 65) (x : V) (i : Nat) : at_ (up v x) i = if Right x ∧ x.by_.toNat = i then max (at_ v i) x.n else at_ v i := by
 by_cases hx : Right x
 ·have hr := hx
  unfold Right at hr
  by_cases hi : x.by_.toNat = i
  ·rw [if_pos ⟨hx, hi⟩]
   subst hi
   by_cases hn : at_ v x.by_.toNat < x.n
   ·rw [up_yes ⟨hx, hn⟩, at_set_self hv (by omega) (by omega)]
    omega
   ·rw [up_no (fun h => hn h.2)]
    omega
  ·rw [if_neg (fun h => hi h.2)]
   by_cases hn : at_ v x.by_.toNat < x.n
   ·rw [up_yes ⟨hx, hn⟩, at_set_ne hi]
   ·rw [up_no (fun h => hn h.2)]
 ·rw [up_no (fun h => hx h.1), if_neg (fun h => hx h.1)]
theorem up_plain {v : List Int} (h : Plain v) (x : V) : Plain (up v x) := by
 refine ⟨by rw [up_len, h.1], fun i hi => ?_⟩
 rw [at_up h.1]
 unfold up
 by_cases hx : Right x ∧ at_ v x.by_.toNat < x.n
 ·rw [if_pos hx]
  by_cases e : x.by_.toNat = i
  ·subst e
   rw [if_pos ⟨hx.1, rfl⟩, List.getElem?_set_self (by rw [h.1]; omega)]
   congr 1
   omega
  ·rw [if_neg (fun k => e k.2), List.getElem?_set_ne e, h.2 i hi]
 ·rw [if_neg hx, h.2 i hi]
  congr 1
  by_cases e : Right x ∧ x.by_.toNat = i
  ·rw [if_pos e]
   obtain ⟨e1, rfl⟩ := e
   have : ¬ at_ v x.by_.toNat < x.n := fun k => hx ⟨e1, k⟩
   omega
  ·rw [if_neg e]
theorem add_plain (v : List Int) (x : V) : Plain (add v x) := up_plain (clean_plain v) x
theorem zero_plain : Plain (List.replicate 65 0) := by
 refine ⟨List.length_replicate, fun i hi => ?_⟩
 have e : (List.replicate 65 (0 : Int))[i]? = some 0 := by rw [List.getElem?_replicate, if_pos hi]
 rw [e]
 unfold at_
 rw [e]
 split <;> rfl
theorem fold_plain : ∀ (l : List V) {v : List Int}, Plain v → Plain (l.foldl up v)
 | [], v, h => h
 | x :: l, v, h => fold_plain l (up_plain h x)
theorem ofl_plain (l : List V) : Plain (ofl l) := fold_plain l zero_plain
theorem ofl_take (l : List V) (i : Nat) (x : V) (hx : l[i]? = some x) : ofl (l.take (i + 1)) = up (ofl (l.take i)) x := by
 obtain ⟨hl, he⟩ := List.getElem?_eq_some_iff.1 hx
 unfold ofl
 rw [List.take_succ_eq_append_getElem hl, he, List.foldl_append]
 rfl
theorem ends_mem (v : List Int) (x : V) : x ∈ ends v ↔ ∃ i, i < 65 ∧ 0 < at_ v i ∧ x = ⟨(i : Int), at_ v i⟩ := by
 unfold ends
 rw [List.mem_map]
 constructor
 ·rintro ⟨i, hi, rfl⟩
  obtain ⟨h1, h2⟩ := List.mem_filter.1 hi
  exact ⟨i, List.mem_range.1 h1, by simpa using h2, rfl⟩
 ·rintro ⟨i, h1, h2, rfl⟩
  exact ⟨i, List.mem_filter.2 ⟨List.mem_range.2 h1, by simpa using h2⟩, rfl⟩
end Go.Proofs.Ytkacfmaogiblfaa.Vec
namespace Go.Proofs.Ytkacfmaogiblfaa.Vec
open Ver (V Right)
def part (f : Nat → Int) (v : List Int) (k : Nat) : List Int := (make f).take k ++ v.drop k
theorem part_zero (f : Nat → Int) (v : List Int) : part f v 0 = v := by unfold part; rw [List.take_zero, List.drop_zero]; rfl
theorem part_all (f : Nat → Int) {v : List Int} (h : v.length = 65) : part f v 65 = make f := by
 unfold part
 rw [List.take_of_length_le (by rw [make_len]; omega), List.drop_of_length_le (by omega), List.append_nil]
theorem part_len (f : Nat → Int) {v : List Int} (h : v.length = 65) {k : Nat} (hk : k ≤ 65) : (part f v k).length = 65 := by
 unfold part
 rw [List.length_append, List.length_take, List.length_drop, make_len, h]
 omega
theorem part_lt (f : Nat → Int) (v : List Int) {k i : Nat} (hk : k ≤ 65) (hi : i < k) : (part f v k)[i]? = some (f i) := by
 unfold part
 rw [List.getElem?_append_left (by rw [List.length_take, make_len]; omega), List.getElem?_take, if_pos hi, make_at f i (by omega)]
theorem part_ge (f : Nat → Int) (v : List Int) {k i : Nat} (hk : k ≤ 65) (hi : k ≤ i) : (part f v k)[i]? = v[i]? := by
 unfold part
 rw [List.getElem?_append_right (by rw [List.length_take, make_len]; omega), List.length_take, make_len, List.getElem?_drop]
 congr 1
 omega
theorem part_set (f : Nat → Int) {v : List Int} (h : v.length = 65) {k : Nat} (hk : k < 65) : (part f v k).set k (f k) = part f v (k + 1) := by
 apply List.ext_getElem?
 intro i
 by_cases hi : i = k
 ·subst hi
  rw [List.getElem?_set_self (by rw [part_len f h (by omega)]; omega), part_lt f v (by omega) (by omega)]
 ·rw [List.getElem?_set_ne (fun e => hi e.symm)]
  by_cases h2 : i < k
  ·rw [part_lt f v (by omega) h2, part_lt f v (by omega) (by omega)]
  ·rw [part_ge f v (by omega) (by omega), part_ge f v (by omega) (by omega)]
theorem clean_set (v : List Int) : (make (fun i => max ((v[i]?).getD 0) 0)).set 0 0 = clean v := by
 apply List.ext_getElem?
 intro i
 by_cases h65 : i < 65
 ·rw [show clean v = make (at_ v) from rfl, make_at _ i h65]
  by_cases hi : i = 0
  ·subst hi
   rw [List.getElem?_set_self (by rw [make_len]; omega), at_zero v 0 (by omega)]
  ·rw [List.getElem?_set_ne (fun e => hi e.symm), make_at _ i h65]
   unfold at_
   rw [if_pos (by omega)]
 ·rw [List.getElem?_eq_none (by rw [List.length_set, make_len]; omega), List.getElem?_eq_none (by rw [(clean_plain v).1]; omega)]
theorem clean_get (v : List Int) {i : Nat} (h : i < 65) : (clean v)[i]? = some (at_ v i) := make_at _ i h
theorem clean_len (v : List Int) : (clean v).length = 65 := make_len _
theorem up_max {v : List Int} (h : Plain v) {x : V} (hx : Right x) {n : Int} (hn : v[x.by_.toNat]? = some n) : v.set x.by_.toNat (max n x.n) = up v x := by
 have hr := hx
 unfold Right at hr
 have e : n = at_ v x.by_.toNat := by
  have := h.2 x.by_.toNat (by omega)
  rw [hn] at this
  injection this
 by_cases hl : at_ v x.by_.toNat < x.n
 ·rw [up_yes ⟨hx, hl⟩, show max n x.n = x.n by omega]
 ·rw [up_no (fun k => hl k.2), show max n x.n = n by omega]
  apply List.ext_getElem?
  intro i
  by_cases hi : i = x.by_.toNat
  ·subst hi
   rw [List.getElem?_set_self (by rw [h.1]; omega), hn]
  ·rw [List.getElem?_set_ne (fun e => hi e.symm)]
def endsK (v : List Int) (k : Nat) : List V := ((List.range k).filter fun i => decide (0 < at_ v i)).map fun (i : Nat) => ⟨(i : Int), at_ v i⟩
theorem endsK_all (v : List Int) : endsK v 65 = ends v := rfl
theorem endsK_more (v : List Int) (k : Nat) (h : 0 < at_ v k) : endsK v (k + 1) = endsK v k ++ [⟨(k : Int), at_ v k⟩] := by
 unfold endsK
 rw [List.range_succ, List.filter_append, List.map_append]
 congr 1
 simp [h]
theorem endsK_same (v : List Int) (k : Nat) (h : ¬ 0 < at_ v k) : endsK v (k + 1) = endsK v k := by
 unfold endsK
 rw [List.range_succ, List.filter_append, List.map_append]
 simp [h]
theorem endsK_len (v : List Int) (k : Nat) : (endsK v k).length ≤ k := by
 unfold endsK
 rw [List.length_map]
 exact Nat.le_trans (List.length_filter_le ..) (by rw [List.length_range]; exact Nat.le_refl _)
instance (v : List Int) : Decidable (Plain v) := inferInstanceAs (Decidable (_ ∧ _))
theorem at_le {v : List Int} (h : ∀ n ∈ v, n ≤ 9223372036854775807) (i : Nat) : at_ v i ≤ 9223372036854775807 := by
 unfold at_
 split
 ·cases hn : v[i]? with
  | none => show max (0 : Int) 0 ≤ _; omega
  | some n =>
   have := h n (List.mem_of_getElem? hn)
   show max n 0 ≤ _
   omega
 ·omega
end Go.Proofs.Ytkacfmaogiblfaa.Vec
namespace Go.Proofs.Ytkacfmaogiblfaa
open Go.RowKit
section
variable {α : Type} {t k : Nat} {f : α → List Value} {w wr w1 w2 : World} {out : List α} {v v' : Value}
theorem row_below {base t size n : Nat} {v : Value} {xs : List Value} (h : w.ownsRow base t size v n xs) (k : Below w.heap.size w w1) : w1.ownsRow base t size v n xs :=
 h.kept (Kept.ofBelow k (fun i => i = w.heap.size)).grown (Or.inr (fun e => by have := (h.lt _ e).2; omega))
def RowsOwn (t k : Nat) (f : α → List Value) (w : World) (out : List α) (v : Value) (wr : World) : Prop := wr.ownsRow w.heap.size t k v out.length (out.flatMap f) ∧ Below w.heap.size w wr
theorem RowsOwn.start (t k : Nat) (f : α → List Value) (w : World) : RowsOwn t k f w [] (.slice none 0 0) w := ⟨World.ownsRow_nil _ _ _ _, Below.refl _ _⟩
theorem RowsOwn.first (h : Below w.heap.size w wr) : RowsOwn t k f w [] (.slice none 0 0) wr := ⟨World.ownsRow_nil _ _ _ _, h⟩
theorem RowsOwn.below (h : RowsOwn t k f w out v w1) (hb : Below w1.heap.size w1 w2) : RowsOwn t k f w out v w2 := ⟨row_below h.1 hb, h.2.trans (hb.mono h.2.size)⟩
theorem RowsOwn.more {x : α} {o : Obj} (h : RowsOwn t k f w out v wr) (hown : w2.ownsRow w.heap.size t k v' (out.length + 1) (out.flatMap f ++ f x)) (hg : (wr.alloc o).grownBy w2 v.ownBlock) : RowsOwn t k f w (out ++ [x]) v' w2 := by
 obtain ⟨h1, h2⟩ := h
 refine ⟨?_, (h2.alloc h2.size o).grown hg (by have := h2.size; simp; omega) (fun k hk => (h1.lt k hk).1)⟩
 rw [List.length_append, List.flatMap_append]
 simpa using hown
theorem RowsOwn.rows (h : RowsOwn t k f w out v wr) (hk : ∀ x ∈ out, (f x).length = k) : Rws k f wr (NewIn w wr) v out := Rws.ofOwn h.1 rfl hk (fun _ _ h1 h2 => ⟨h1, h2⟩)
theorem Rws.block {F : Nat → Prop} {v : Value} {l : List α} (h : Rws k f w F v l) (h0 : 0 < l.length) : ∃ b o cap, v = .slice (some ⟨b, o, Option.none⟩) l.length cap ∧ l.length ≤ cap ∧ F b ∧ b < w.heap.size := by
 obtain ⟨A, c, e, hc, hat⟩ := h
 obtain ⟨b, o, rfl, hb, hl, -⟩ := hat h0
 exact ⟨b, o, c, e, hc, hb, hl⟩
theorem Rws.parts {F : Nat → Prop} {v : Value} {l : List α} (h : Rws k f w F v l) : ∃ A cap, v = .slice A l.length cap ∧ l.length ≤ cap := by
 obtain ⟨A, c, e, hc, hat⟩ := h
 exact ⟨A, c, e, hc⟩
end
section
variable {α : Type} {t k : Nat} {f : α → List Value} {w wr w2 : World} {l m : List α} {v v' : Value} {o : Obj}
theorem RowsOwn.front (hg : (wr.alloc o).grownBy w2 (Value.slice (some ⟨wr.heap.size, 0, none⟩) 0 0).ownBlock) (hown : w2.ownsRow wr.heap.size t k v (0 + l.length) ([] ++ l.flatMap f)) : RowsOwn t k f wr l v w2 := by
 refine ⟨by simpa using hown, ((Below.refl wr.heap.size wr).alloc (Nat.le_refl _) o).grown hg (by simp) (fun k hk => ?_)⟩
 have : wr.heap.size = k := by simpa [Value.ownBlock] using hk
 omega
theorem RowsOwn.rest (h : RowsOwn t k f w l v wr) (hg : wr.grownBy w2 v.ownBlock) (hown : w2.ownsRow w.heap.size t k v' (l.length + m.length) (l.flatMap f ++ m.flatMap f)) : RowsOwn t k f w (l ++ m) v' w2 :=
 ⟨by rw [List.length_append, List.flatMap_append]; exact hown, h.2.grown hg h.2.size (fun k hk => (h.1.lt k hk).1)⟩
end
open Go.ChangeShapes Go.WideShapes Go.ChangeAt Go.RowKit
theorem own : ownKnob Try.prog.godebug = none := by kernel_rfl
theorem laidOut : laidOutB Try.prog = true := by kernel_rfl
section
variable {H : Type} {enc : TypeId × Value → H}
theorem args_stay {W W' : World} (hb : Below W.heap.size W W') : ∀ (ts : List TypeId) (vs : List Value) (ds : List (DataW H)) (ps : List MemPlace),
  (∀ t ∈ ts, Try.prog.readableRec t = true ∧ t < Try.prog.types.size) → (∀ p ∈ ps, p.block < W.heap.size) →
  DataW.TrodAll enc Try.prog W 0 (fun _ => true) true ts vs ds ps → DataW.TrodAll enc Try.prog W' 0 (fun b => decide (b < W.heap.size)) true ts vs ds ps
 | [], vs, ds, ps, _, _, h => by
  obtain ⟨rfl, rfl, rfl⟩ := trodAll_nil h
  exact trodAll_mk0
 | t :: ts, vs, ds, ps, ht, hp, h => by
  obtain ⟨v, vs', d, ds', p, q, rfl, rfl, rfl, h1, h2⟩ := trodAll_cons h
  obtain ⟨r1, r2⟩ := ht t (by simp)
  exact trodAll_cons_mk (Below.trod laidOut r1 r2 h1 hb (fun x hx => hp x (by simp [hx]))) (args_stay hb ts vs' ds' q (fun u hu => ht u (by simp [hu])) (fun x hx => hp x (by simp [hx])) h2)
theorem law_done {f : Func} {s : ChangeSpec} {W W' : World} {args : Array Value} {ds gs : List (DataW H)} {before : List MemPlace} (hres : f.resultTypes = #[4]) (hv : s.vars = [])
  (hW : DataW.Whole enc Try.prog f.params.toList s.vars false W args.toList ds gs before) (hfn : s.fn H (ds ++ gs) = { results := [.lit (.bool true)], args := ds })
  (hr : ∀ t ∈ f.params.toList, Try.prog.readableRec t = true ∧ t < Try.prog.types.size) (hb : Below W.heap.size W W') :
  s.post enc Try.prog f false true false false W args (.bool true) W' := by
 have hlt : ∀ p ∈ before, p.block < W.heap.size := fun p hp => hW.lt p hp
 have hW0 := hW
 obtain ⟨p, q, hA, hV, hpq, _, _⟩ := hW
 rw [hv] at hV
 obtain ⟨rfl, rfl⟩ := trodVars_none hV
 rw [List.append_nil] at hpq
 subst hpq
 refine ⟨ds, [], before, [], before, [], hW0, ?_, ?_, ?_, hb.frame _, fun h => by cases h⟩
 ·rw [hfn, hres]
  exact trodAll_mk1 (shut_bool Try.underlying4 true)
 ·rw [hfn]
  exact args_stay hb _ _ _ _ hr hlt hA
 ·rw [hfn, hv]
  rfl
end
open Go.RowKit
def verV (v : Ver.V) : List Value := [.int .i64 v.by_, .int .i64 v.n]
def stpV (s : Ver.S) : List Value := [.int .i64 s.v.by_, .int .i64 s.v.n, .int .i64 s.time]
def numV (n : Int) : List Value := [.int .i64 n]
abbrev verA (v : Ver.V) : Value := .agg #[.int .i64 v.by_, .int .i64 v.n]
abbrev stpA (s : Ver.S) : Value := .agg #[.int .i64 s.v.by_, .int .i64 s.v.n, .int .i64 s.time]
abbrev Vrs (w : World) (F : Nat → Prop) (v : Value) (l : List Ver.V) : Prop := Rws 2 verV w F v l
abbrev Sts (w : World) (F : Nat → Prop) (v : Value) (l : List Ver.S) : Prop := Rws 3 stpV w F v l
abbrev Nums (w : World) (F : Nat → Prop) (v : Value) (l : List Int) : Prop := Rws 1 numV w F v l
def Ver.I64 (n : Int) : Prop := -9223372036854775808 ≤ n ∧ n ≤ 9223372036854775807
def Ver.Bd (v : Ver.V) : Prop := Ver.I64 v.by_ ∧ Ver.I64 v.n
def Ver.BdS (s : Ver.S) : Prop := Ver.Bd s.v ∧ Ver.I64 s.time
instance (n : Int) : Decidable (Ver.I64 n) := inferInstanceAs (Decidable (_ ∧ _))
instance (v : Ver.V) : Decidable (Ver.Bd v) := inferInstanceAs (Decidable (_ ∧ _))
instance (s : Ver.S) : Decidable (Ver.BdS s) := inferInstanceAs (Decidable (_ ∧ _))
def Ver.next (t : Int) (l : List Int) : Int × Int := if Ver.most t l = 9223372036854775807 then (0, 15) else (Ver.most t l + 1, 0)
def Ver.checkV (v : Ver.V) : Int := if Ver.Right v then 0 else 2
def Ver.checkS (s : Ver.S) : Int := if Ver.RightS s then 0 else 2
def Ver.zero : Ver.S := ⟨0, 0, 0⟩
theorem ver_len (v : Ver.V) : (verV v).length = 2 := rfl
theorem num_len (n : Int) : (numV n).length = 1 := rfl
theorem ver_one (v : Ver.V) : ∀ u ∈ verV v, u.oneCell' = true := by
 intro u hu
 unfold verV at hu
 simp only [List.mem_cons, List.not_mem_nil, or_false] at hu
 rcases hu with rfl | rfl <;> rfl
def Laid (w w' : World) : Prop := ∃ q os, w' = Sort.grow (w.drewN q) os
theorem Laid.refl (w : World) : Laid w w := ⟨0, #[], by rw [Sort.grow_empty]; rfl⟩
theorem Laid.new (w : World) (o : Obj) : Laid w (w.alloc o) := ⟨0, #[o], by rw [Sort.alloc_eq_grow]; rfl⟩
theorem Laid.trans {a b c : World} (h : Laid a b) (k : Laid b c) : Laid a c := by
 obtain ⟨q, os, rfl⟩ := h
 obtain ⟨q2, os2, rfl⟩ := k
 refine ⟨q + q2, os ++ os2, ?_⟩
 show Sort.grow (Sort.grow ((a.drewN q).drewN q2) os) os2 = _
 rw [Sort.grow_grow, World.drewN_drewN]
theorem Laid.below {w w' : World} (h : Laid w w') : Below w.heap.size w w' := by
 obtain ⟨q, os, rfl⟩ := h
 exact ⟨rfl, rfl, rfl, by rw [Sort.size_grow]; exact Nat.le_add_right _ _, fun i hi => Sort.heap_grow_old (w.drewN q) os hi⟩
structure VersOk : Prop where
 check : ∀ {w : World} (v : Ver.V), Ver.Bd v → Calls Try.prog 77 #[verA v] w fun e w' => e = .returned (.int .i64 (Ver.checkV v)) ∧ Laid w w'
 stamp : ∀ {w : World} (s : Ver.S), Ver.BdS s → Calls Try.prog 78 #[stpA s] w fun e w' => e = .returned (.int .i64 (Ver.checkS s)) ∧ Laid w w'
 before : ∀ {w : World} (a b : Ver.V), Calls Try.prog 138 #[verA a, verA b] w fun e w' => e = .returned (.bool (decide (Ver.Before a b))) ∧ Laid w w'
 sort : ∀ {w : World} {F : Nat → Prop} {v : Value} {l : List Ver.V}, Vrs w F v l → l.length ≤ 1000000 → Calls Try.prog 116 #[v] w fun e w' => ∃ v', e = .returned v' ∧ Vrs w' (NewIn w w') v' (Ver.sort l) ∧ Below w.heap.size w w'
section
variable {w : World} {F : Nat → Prop} {b o n cap : Nat}
theorem Vrs.at {l : List Ver.V} (h : Vrs w F (.slice (some ⟨b, o, none⟩) n cap) l) {i : Nat} {x : Ver.V} (hx : l[i]? = some x) :
  w.cell? ⟨b, o + i * 2, none⟩ = some (.int .i64 x.by_) ∧ w.cell? ⟨b, o + i * 2 + 1, none⟩ = some (.int .i64 x.n) := by
 obtain ⟨A, c, e, -, hat⟩ := h
 injection e with e1 e2 e3
 obtain ⟨b', o', e, -, -, hc⟩ := hat (by obtain ⟨hl, _⟩ := List.getElem?_eq_some_iff.1 hx; omega)
 rw [e] at e1
 injection e1 with e1
 injection e1 with e1 e2
 subst e1 e2
 exact ⟨hc i x hx 0 _ rfl, hc i x hx 1 _ rfl⟩
theorem Sts.at {l : List Ver.S} (h : Sts w F (.slice (some ⟨b, o, none⟩) n cap) l) {i : Nat} {x : Ver.S} (hx : l[i]? = some x) :
  w.cell? ⟨b, o + i * 3, none⟩ = some (.int .i64 x.v.by_) ∧ w.cell? ⟨b, o + i * 3 + 1, none⟩ = some (.int .i64 x.v.n) ∧ w.cell? ⟨b, o + i * 3 + 2, none⟩ = some (.int .i64 x.time) := by
 obtain ⟨A, c, e, -, hat⟩ := h
 injection e with e1 e2 e3
 obtain ⟨b', o', e, -, -, hc⟩ := hat (by obtain ⟨hl, _⟩ := List.getElem?_eq_some_iff.1 hx; omega)
 rw [e] at e1
 injection e1 with e1
 injection e1 with e1 e2
 subst e1 e2
 exact ⟨hc i x hx 0 _ rfl, hc i x hx 1 _ rfl, hc i x hx 2 _ rfl⟩
theorem Nums.at {l : List Int} (h : Nums w F (.slice (some ⟨b, o, none⟩) n cap) l) {i : Nat} {x : Int} (hx : l[i]? = some x) : w.cell? ⟨b, o + i, none⟩ = some (.int .i64 x) := by
 obtain ⟨A, c, e, -, hat⟩ := h
 injection e with e1 e2 e3
 obtain ⟨b', o', e, -, -, hc⟩ := hat (by obtain ⟨hl, _⟩ := List.getElem?_eq_some_iff.1 hx; omega)
 rw [e] at e1
 injection e1 with e1
 injection e1 with e1 e2
 subst e1 e2
 have := hc i x hx 0 _ rfl
 rwa [Nat.mul_one, Nat.add_zero] at this
end
open Go.RowKit
def InB (w w' : World) : Prop := Below w.heap.size w w'
theorem InB.refl (w : World) : InB w w := Below.refl _ _
theorem InB.below {w w' : World} (h : InB w w') : Below w.heap.size w w' := h
theorem InB.drew {w w' : World} (h : InB w w') : InB w w'.drew := Below.drew h
theorem InB.trans {a b c : World} (h : InB a b) (k : Below b.heap.size b c) : InB a c := Below.trans h (k.mono h.below.size)
section
variable {P : Program} {ops : Array Oper} {C : World → Prop} {Q : Act → Prop} {o : Oper} {rest : List Oper} {a : Act}
structure WQ (P : Program) (ops : Array Oper) (C : World → Prop) (Q : Act → Prop) (l : List Oper) (a : Act) : Prop where
 out : wpQuiet P ops C Q l a
theorem wp_region_below {id : Nat} {Q : Exit → Act → World → Prop} {a : Act} {w : World} {l : List Oper} (hm : P.follows .mixedOrders = true) (hB : Region.lexB .any l.toArray = true)
  (h : WQ P l.toArray (InB w) (fun a' => ∀ w', InB w w' → Q .normal a' w') l a) : (Code.region id l.toArray true).wp P Q a w :=
 wp_region_quiet (C := InB w) hm hB ⟨rfl, rfl, rfl, Nat.le_refl _, fun _ _ => rfl⟩ (by simpa using h.out)
theorem wq_nil (h : Q a) : WQ P ops C Q [] a := ⟨wpQuiet_nil h⟩
theorem wq_skip (hw : Region.wanted o (yielded ops a.tmps) = false) (k : WQ P ops C Q rest (a.put o.dst undef)) : WQ P ops C Q (o :: rest) a := by
 refine ⟨?_⟩
 unfold wpQuiet
 rw [if_neg (by rw [hw]; decide)]
 exact k.out
theorem wq_take {v : Value} (hw : Region.wanted o (yielded ops a.tmps) = true) (h : ∀ w, C w → (execOp a.eval o).run P w = .ok (.value v) w) (k : WQ P ops C Q rest (a.put o.dst v)) : WQ P ops C Q (o :: rest) a := by
 refine ⟨?_⟩
 unfold wpQuiet
 rw [if_pos hw]
 refine ⟨v, fun w hC => ?_, k.out⟩
 unfold Oper.quietAt
 rw [h w hC]
 exact ⟨rfl, rfl⟩
theorem wq_td {v : Value} (k : WQ P ops C Q rest (a.put o.dst v)) (hw : Region.wanted o (yielded ops a.tmps) = true := by kernel_rfl) (h : ∀ w, C w → (execOp a.eval o).run P w = .ok (.value v) w := by intro w hSw; go_simp; first | done | with_reducible rfl) : WQ P ops C Q (o :: rest) a := wq_take hw h k
theorem wq_call {v : Value} {f : FuncId} {args : Array Value} (hw : Region.wanted o (yielded ops a.tmps) = true) (h : ∀ w, C w → (execOp a.eval o).run P w = .ok (.enter f args) w) (hc : ∀ w, C w → Calls P f args w fun e w' => e = .returned v ∧ C w') (k : WQ P ops C Q rest (a.put o.dst v)) : WQ P ops C Q (o :: rest) a := by
 refine ⟨?_⟩
 unfold wpQuiet
 rw [if_pos hw]
 refine ⟨v, fun w hC => ?_, k.out⟩
 unfold Oper.quietAt
 rw [h w hC]
 exact ⟨rfl, hc w hC⟩
end
theorem inB_calls {P : Program} {f : FuncId} {args : Array Value} {W w : World} {v : Value} (hC : InB W w) (h : Calls P f args w fun e w' => e = .returned v ∧ Below w.heap.size w w') : Calls P f args w fun e w' => e = .returned v ∧ InB W w' :=
 h.mono fun _ _ ⟨he, hb⟩ => ⟨he, hC.trans hb⟩
open Go.RowKit
def vecL (v : List Int) : List Value := v.map (Value.int .i64)
def vecR (v : List Int) : Array Value := (vecL v).toArray
abbrev vecA (v : List Int) : Value := .agg (vecR v)
def Vec.zeros : List Int := List.replicate 65 0
theorem Vec.zeros_len : Vec.zeros.length = 65 := List.length_replicate
theorem vecL_len (v : List Int) : (vecL v).length = v.length := List.length_map ..
theorem vecR_size {v : List Int} (h : v.length = 65) : (vecR v).size = 65 := by unfold vecR; rw [List.size_toArray, vecL_len, h]
theorem vecR_get {v : List Int} {i : Nat} {n : Int} (h : v[i]? = some n) : (vecR v)[i]? = some (.int .i64 n) := by
 unfold vecR vecL
 rw [List.getElem?_toArray, List.getElem?_map, h]; rfl
theorem vecR_one (v : List Int) : (vecR v).all (·.oneCell') = true := all_oneCell_toArray (fun u hu => by
 obtain ⟨n, _, rfl⟩ := List.mem_map.1 hu
 rfl)
theorem vecR_set (v : List Int) (i : Nat) (n : Int) : (vecR v).setIfInBounds i (.int .i64 n) = vecR (v.set i n) := by
 unfold vecR vecL
 rw [List.setIfInBounds_toArray, List.map_set]
theorem vecInfo : (Try.prog.info? 46).map (fun i => (i.zero, i.size)) = some (some (vecA Vec.zeros), 65) := by kernel_rfl
theorem vecZero (w : World) : (zeroValue 46).run Try.prog w = .ok (vecA Vec.zeros) w := (zero_of_info vecInfo).1 w
theorem vecSize {v : List Int} (h : v.length = 65) : (Try.prog.info? 46).map (·.size) = some (vecR v).size := by rw [vecR_size h]; exact (zero_of_info vecInfo).2
def VRow (w : World) (b : Nat) (v : List Int) : Prop := Row w b 46 (vecR v) ∧ v.length = 65
section
variable {w w' a : World} {b : Nat} {v : List Int}
theorem VRow.row (h : VRow w b v) : Row w b 46 (vecR v) := h.1
theorem VRow.len (h : VRow w b v) : v.length = 65 := h.2
theorem VRow.inHeap (h : VRow w b v) : b < w.heap.size := h.1.inHeap
theorem VRow.at (h : VRow w b v) {i : Nat} {n : Int} (hn : v[i]? = some n) : w.cell? ⟨b, i, none⟩ = some (.int .i64 n) := by rw [h.1.at, vecR_get hn]
theorem VRow.free (h : VRow w b v) (i : Nat) : w.frozen? ⟨b, i, none⟩ = false := h.1.free i
theorem VRow.made (w : World) (hv : v.length = 65) : VRow (w.alloc (.cells (vecR v) 46)) w.heap.size v := ⟨Row.made w _ _, hv⟩
theorem VRow.stored (h : VRow w b v) (i : Nat) (n : Int) : VRow (w.setCell ⟨b, i, none⟩ (.int .i64 n)) b (v.set i n) := ⟨by have := h.1.stored i (.int .i64 n); rwa [vecR_set] at this, by rw [List.length_set]; exact h.2⟩
theorem VRow.below {B : Nat} (h : VRow w b v) (hb : Below B w w') (hB : b < B) : VRow w' b v := ⟨h.1.below hb hB, h.2⟩
theorem VRow.load (h : VRow w b v) : (Instr.loadAt 46 (.pointer (some ⟨b, 0, none⟩))).run Try.prog w = .ok (vecA v) w := by
 simp only [Instr.loadAt, Instr.sureAddr, Sem.run_bind, Sem.run_pure, Result.andThen]
 exact run_loadVar_row _ _ _ _ _ (0, 0) _ h.1 Try.underlying46 rfl (vecSize h.2)
theorem VRow.set (h : VRow w b v) (u : List Int) (hu : u.length = 65) : VRow (w.setRow b (vecR u)) b u := by
 have h1 : w.heap[b]? = some (Obj.cells (vecR v) 46 (0, 0)) := h.1
 refine ⟨?_, hu⟩
 show (w.heap.modify b _)[b]? = _
 rw [Array.getElem?_modify, if_pos rfl, h1]
 rfl
theorem VRow.store (h : VRow w b v) {u : List Int} (hu : u.length = 65) : (Instr.storeAt 46 (.pointer (some ⟨b, 0, none⟩)) (vecA u)).run Try.prog w = .ok () (w.setRow b (vecR u)) := by
 simp only [Instr.storeAt, Instr.sureAddr, Sem.run_bind, Sem.run_pure, Result.andThen]
 exact run_storeVar_row _ _ _ _ _ _ h.1 (vecSize hu) (by rw [vecR_size h.2, vecR_size hu]) (vecR_one u)
theorem wpList_vload {ops : Array Oper} {rest : List Oper} {op : Oper} {a : Act} {Q : Exit → Act → World → Prop} (hw : Region.wanted op (yielded ops a.tmps) = true) (x : Operand) (ho : op.op = .load 46 x) (hx : a.eval x = .pointer (some ⟨b, 0, none⟩)) (h : VRow w b v)
  (k : wpList Try.prog ops Q rest (a.put op.dst (vecA v)) w) : wpList Try.prog ops Q (op :: rest) a w := by
 unfold wpList
 rw [if_pos hw]
 refine Or.inl ?_
 have hl := h.load
 unfold Oper.wp execOp
 simp only [ho, hx, Sem.run_bind, hl, Result.andThen_ok]
 exact k
theorem wpList_vstore {ops : Array Oper} {rest : List Oper} {op : Oper} {a : Act} {Q : Exit → Act → World → Prop} (hw : Region.wanted op (yielded ops a.tmps) = true) (x y : Operand) (ho : op.op = .store 46 x y) {u : List Int} (hx : a.eval x = .pointer (some ⟨b, 0, none⟩)) (hy : a.eval y = vecA u) (h : VRow w b v) (hu : u.length = 65)
  (k : wpList Try.prog ops Q rest (a.put op.dst undef) (w.setRow b (vecR u))) : wpList Try.prog ops Q (op :: rest) a w := by
 unfold wpList
 rw [if_pos hw]
 refine Or.inl ?_
 have hl := h.store hu
 unfold Oper.wp execOp
 simp only [ho, hx, hy, Sem.run_bind, hl, Result.andThen_ok]
 exact k
theorem exec_vload {f : Operand → Value} {op : Oper} {x : Operand} (ho : op.op = .load 46 x) (hx : f x = .pointer (some ⟨b, 0, none⟩)) (h : VRow w b v) : (execOp f op).run Try.prog w = .ok (.value (vecA v)) w := by
 have hl := h.load
 unfold execOp
 simp only [ho, hx, Sem.run_bind, hl, Result.andThen_ok]
 rfl
theorem VRow.grown (h : VRow w b v) (n : Nat) (os : Array Obj) : VRow (Sort.grow (w.drewN n) os) b v := ⟨(Sort.heap_grow_old (w.drewN n) os h.1.inHeap).trans h.1, h.2⟩
theorem VRow.alloc (h : VRow w b v) (o : Obj) : VRow (w.alloc o) b v := ⟨h.1.behindNew o, h.2⟩
theorem VRow.storedElsewhere (h : VRow w b v) {p : Addr} (hp : p.block ≠ b) (u : Value) : VRow (w.setCell p u) b v := ⟨h.1.storedElsewhere hp u, h.2⟩
theorem VRow.setElsewhere (h : VRow w b v) {c : Nat} (hc : c ≠ b) (cs : Array Value) : VRow (w.setRow c cs) b v := by
 refine ⟨?_, h.2⟩
 show (w.heap.modify c _)[b]? = _
 rw [Array.getElem?_modify, if_neg hc]
 exact h.1
theorem Laid.drew (h : Laid a w) : Laid a w.drew := by
 obtain ⟨q, os, rfl⟩ := h
 exact ⟨q + 1, os, rfl⟩
theorem Laid.alloc (h : Laid a w) (o : Obj) : Laid a (w.alloc o) := h.trans (Laid.new w o)
theorem Laid.size (h : Laid a w) : a.heap.size ≤ w.heap.size := h.below.size
theorem Laid.grown (h : Laid a w) (n : Nat) (os : Array Obj) : Laid a (Sort.grow (w.drewN n) os) := h.trans ⟨n, os, rfl⟩
theorem Laid.heap (h : Laid a w) (f : Array Obj → Array Obj) (hf : ∀ os : Array Obj, ∃ os', f (a.heap ++ os) = a.heap ++ os') : Laid a { w with heap := f w.heap } := by
 obtain ⟨q, os, rfl⟩ := h
 obtain ⟨os', e⟩ := hf os
 exact ⟨q, os', by show { Sort.grow (a.drewN q) os with heap := f (a.heap ++ os) } = _; rw [e]; rfl⟩
theorem Laid.stored (h : Laid a w) {p : Addr} (hp : a.heap.size ≤ p.block) (u : Value) : Laid a (w.setCell p u) :=
 h.heap (fun hp => hp.modify p.block _) (fun os => ⟨_, Sort.modify_append_right a.heap os p.block _ hp⟩)
theorem Laid.set (h : Laid a w) {b : Nat} (hb : a.heap.size ≤ b) (cs : Array Value) : Laid a (w.setRow b cs) :=
 h.heap (fun hp => hp.modify b _) (fun os => ⟨_, Sort.modify_append_right a.heap os b _ hb⟩)
end
theorem vec_index {v : List Int} {k : Nat} {n : Int} (hk : k < 65) (hn : v[k]? = some n) (w : World) : (Instr.index 46 (vecA v) (.int .i64 (k : Int))).run Try.prog w = .ok (.int .i64 n) w := by
 have hu := Try.underlying46
 have ha := Try.isAgg3
 have hs := Try.sizeOf3
 have hg : (vecR v)[k]? = some (.int .i64 n) := vecR_get hn
 have h1 : (0 : Int) ≤ (k : Int) ∧ (k : Int) < 65 := by omega
 simp [Instr.index, run_underlying hu, asIntOf, h1, go_sem, ha, hs, part, hg]
 intro h
 omega
theorem vec_addr {k : Nat} (hk : k < 65) (b : Nat) (w : World) : (Instr.indexAt 46 (.pointer (some ⟨b, 0, none⟩)) (.int .i64 (k : Int))).run Try.prog w = .ok (.pointer (some ⟨b, k, none⟩)) w := by
 have hu := Try.underlying46
 have hs := Try.sizeOf3
 have h1 : (0 : Int) ≤ (k : Int) ∧ (k : Int) < 65 := by omega
 simp [Instr.indexAt, Instr.sureAddr, run_underlying hu, asIntOf, h1, go_sem, hs, Addr.add]
 rw [if_pos hk]
 by_cases h0 : k = 0
 ·subst h0; rfl
 ·rw [if_neg h0]
structure VecOk : Prop where
 clean : ∀ {w : World} {v : List Int}, v.length = 65 → Calls Try.prog 88 #[vecA v] w fun e w' => e = .returned (vecA (Vec.clean v)) ∧ Laid w w'
 ofl : ∀ {w : World} {F : Nat → Prop} {s : Value} {l : List Ver.V}, Vrs w F s l → l.length ≤ 1000000 → (∀ x ∈ l, Ver.Bd x) → Calls Try.prog 31 #[s] w fun e w' => e = .returned (vecA (Vec.ofl l)) ∧ Laid w w'
 ends : ∀ {w : World} {v : List Int}, v.length = 65 → Calls Try.prog 89 #[vecA v] w fun e w' => ∃ s, e = .returned s ∧ Vrs w' (NewIn w w') s (Vec.ends v) ∧ Below w.heap.size w w'
end Go.Proofs.Ytkacfmaogiblfaa
