import Derived.Test.YtgpeobmaneponaaCom1
import Derived.Test.YtgpeobmaneponaaRows
import Derived.WalkKit
import Derived.ProofKit
import Derived.OpenShut
import Derived.ShutString
import Derived.SizedLaws
import Derived.Carry
import Derived.Sort.Grow
import Derived.Lib.Hide
import Derived.OwnWalk
import Derived.Laws.BitsAllLaws
import Derived.Deep.Slices
import Derived.Lib.Strings
import Derived.Deep.Quiet
import Derived.Deep.QuietTactic
set_option maxRecDepth 100000
set_option linter.unusedVariables false
set_option linter.unusedSimpArgs false
set_option maxHeartbeats 12800000
namespace Go.Proofs.Ytgpeobmaneponaa
open Go.RowKit
section
variable {α : Type} {t k : Nat} {f : α → List Value} {w wr w1 w2 : World} {out : List α} {v v' : Value}
theorem row_below {base t size n : Nat} {v : Value} {xs : List Value} (h : w.ownsRow base t size v n xs) (k : Below w.heap.size w w1) : w1.ownsRow base t size v n xs :=
 h.kept (Kept.ofBelow k (fun i => i = w.heap.size)).grown (Or.inr (fun e => by have := (h.lt _ e).2; omega))
def RowsOwn (t k : Nat) (f : α → List Value) (w : World) (out : List α) (v : Value) (wr : World) : Prop := wr.ownsRow w.heap.size t k v out.length (out.flatMap f) ∧ Below w.heap.size w wr
theorem RowsOwn.start (t k : Nat) (f : α → List Value) (w : World) : RowsOwn t k f w [] (.slice none 0 0) w := ⟨World.ownsRow_nil _ _ _ _, Below.refl _ _⟩
theorem RowsOwn.first (h : Below w.heap.size w wr) : RowsOwn t k f w [] (.slice none 0 0) wr := ⟨World.ownsRow_nil _ _ _ _, h⟩
theorem RowsOwn.below (h : RowsOwn t k f w out v w1) (hb : Below w1.heap.size w1 w2) : RowsOwn t k f w out v w2 := ⟨row_below h.1 hb, h.2.trans (hb.mono h.2.size)⟩
theorem row_lower {a b t size n : Nat} {v : Value} {xs : List Value} (h : w.ownsRow b t size v n xs) (hab : a ≤ b) : w.ownsRow a t size v n xs := by
 refine ⟨h.1, ?_⟩
 rcases h.2 with h2 | ⟨g, cap, cur, hv, hb, r⟩
 ·exact Or.inl h2
 ·exact Or.inr ⟨g, cap, cur, hv, Nat.le_trans hab hb, r⟩
theorem RowsOwn.since (h : RowsOwn t k f w1 out v w2) (hb : Below w.heap.size w w1) : RowsOwn t k f w out v w2 := ⟨row_lower h.1 hb.size, hb.trans (h.2.mono hb.size)⟩
theorem RowsOwn.more {x : α} {o : Obj} (h : RowsOwn t k f w out v wr) (hown : w2.ownsRow w.heap.size t k v' (out.length + 1) (out.flatMap f ++ f x)) (hg : (wr.alloc o).grownBy w2 v.ownBlock) : RowsOwn t k f w (out ++ [x]) v' w2 := by
 obtain ⟨h1, h2⟩ := h
 refine ⟨?_, (h2.alloc h2.size o).grown hg (by have := h2.size; simp; omega) (fun k hk => (h1.lt k hk).1)⟩
 rw [List.length_append, List.flatMap_append]
 simpa using hown
theorem RowsOwn.rows (h : RowsOwn t k f w out v wr) (hk : ∀ x ∈ out, (f x).length = k) : Rws k f wr (NewIn w wr) v out := Rws.ofOwn h.1 rfl hk (fun _ _ h1 h2 => ⟨h1, h2⟩)
theorem Rws.block {F : Nat → Prop} {v : Value} {l : List α} (h : Rws k f w F v l) (h0 : 0 < l.length) : ∃ b o cap, v = .slice (some ⟨b, o, Option.none⟩) l.length cap ∧ l.length ≤ cap ∧ F b ∧ b < w.heap.size := by
 obtain ⟨A, c, e, hc, hat⟩ := h
 obtain ⟨b, o, rfl, hb, hl, -⟩ := hat h0
 exact ⟨b, o, c, e, hc, hb, hl⟩
theorem Rws.parts {F : Nat → Prop} {v : Value} {l : List α} (h : Rws k f w F v l) : ∃ A cap, v = .slice A l.length cap ∧ l.length ≤ cap := by
 obtain ⟨A, c, e, hc, hat⟩ := h
 exact ⟨A, c, e, hc⟩
end
section
variable {α : Type} {t k : Nat} {f : α → List Value} {w wr w2 : World} {l m : List α} {v v' : Value} {o : Obj}
theorem RowsOwn.front (hg : (wr.alloc o).grownBy w2 (Value.slice (some ⟨wr.heap.size, 0, none⟩) 0 0).ownBlock) (hown : w2.ownsRow wr.heap.size t k v (0 + l.length) ([] ++ l.flatMap f)) : RowsOwn t k f wr l v w2 := by
 refine ⟨by simpa using hown, ((Below.refl wr.heap.size wr).alloc (Nat.le_refl _) o).grown hg (by simp) (fun k hk => ?_)⟩
 have : wr.heap.size = k := by simpa [Value.ownBlock] using hk
 omega
theorem RowsOwn.rest (h : RowsOwn t k f w l v wr) (hg : wr.grownBy w2 v.ownBlock) (hown : w2.ownsRow w.heap.size t k v' (l.length + m.length) (l.flatMap f ++ m.flatMap f)) : RowsOwn t k f w (l ++ m) v' w2 :=
 ⟨by rw [List.length_append, List.flatMap_append]; exact hown, h.2.grown hg h.2.size (fun k hk => (h.1.lt k hk).1)⟩
end
end Go.Proofs.Ytgpeobmaneponaa
namespace Go.Proofs.Ytgpeobmaneponaa
open Go.ChangeShapes Go.WideShapes Go.ChangeAt Go.RowKit
theorem own : ownKnob Try.prog.godebug = none := by kernel_rfl
theorem laidOut : laidOutB Try.prog = true := by kernel_rfl
section
variable {H : Type} {enc : TypeId × Value → H}
theorem args_stay {W W' : World} (hb : Below W.heap.size W W') : ∀ (ts : List TypeId) (vs : List Value) (ds : List (DataW H)) (ps : List MemPlace),
  (∀ t ∈ ts, Try.prog.readableRec t = true ∧ t < Try.prog.types.size) → (∀ p ∈ ps, p.block < W.heap.size) →
  DataW.TrodAll enc Try.prog W 0 (fun _ => true) true ts vs ds ps → DataW.TrodAll enc Try.prog W' 0 (fun b => decide (b < W.heap.size)) true ts vs ds ps
 | [], vs, ds, ps, _, _, h => by
  obtain ⟨rfl, rfl, rfl⟩ := trodAll_nil h
  exact trodAll_mk0
 | t :: ts, vs, ds, ps, ht, hp, h => by
  obtain ⟨v, vs', d, ds', p, q, rfl, rfl, rfl, h1, h2⟩ := trodAll_cons h
  obtain ⟨r1, r2⟩ := ht t (by simp)
  exact trodAll_cons_mk (Below.trod laidOut r1 r2 h1 hb (fun x hx => hp x (by simp [hx]))) (args_stay hb ts vs' ds' q (fun u hu => ht u (by simp [hu])) (fun x hx => hp x (by simp [hx])) h2)
theorem law_done {f : Func} {s : ChangeSpec} {W W' : World} {args : Array Value} {ds gs : List (DataW H)} {before : List MemPlace} (hres : f.resultTypes = #[4]) (hv : s.vars = [])
  (hW : DataW.Whole enc Try.prog f.params.toList s.vars false W args.toList ds gs before) (hfn : s.fn H (ds ++ gs) = { results := [.lit (.bool true)], args := ds })
  (hr : ∀ t ∈ f.params.toList, Try.prog.readableRec t = true ∧ t < Try.prog.types.size) (hb : Below W.heap.size W W') :
  s.post enc Try.prog f false true false false W args (.bool true) W' := by
 have hlt : ∀ p ∈ before, p.block < W.heap.size := fun p hp => hW.lt p hp
 have hW0 := hW
 obtain ⟨p, q, hA, hV, hpq, _, _⟩ := hW
 rw [hv] at hV
 obtain ⟨rfl, rfl⟩ := trodVars_none hV
 rw [List.append_nil] at hpq
 subst hpq
 refine ⟨ds, [], before, [], before, [], hW0, ?_, ?_, ?_, hb.frame _, fun h => by cases h⟩
 ·rw [hfn, hres]
  exact trodAll_mk1 (shut_bool Try.underlying4 true)
 ·rw [hfn]
  exact args_stay hb _ _ _ _ hr hlt hA
 ·rw [hfn, hv]
  rfl
end
end Go.Proofs.Ytgpeobmaneponaa
namespace Go.Proofs.Ytgpeobmaneponaa
open Go.RowKit
def verV (v : Ver.V) : List Value := [.int .i64 v.by_, .int .i64 v.n]
def stpV (s : Ver.S) : List Value := [.int .i64 s.v.by_, .int .i64 s.v.n, .int .i64 s.time]
def numV (n : Int) : List Value := [.int .i64 n]
abbrev verA (v : Ver.V) : Value := .agg #[.int .i64 v.by_, .int .i64 v.n]
abbrev stpA (s : Ver.S) : Value := .agg #[.int .i64 s.v.by_, .int .i64 s.v.n, .int .i64 s.time]
abbrev Vrs (w : World) (F : Nat → Prop) (v : Value) (l : List Ver.V) : Prop := Rws 2 verV w F v l
abbrev Sts (w : World) (F : Nat → Prop) (v : Value) (l : List Ver.S) : Prop := Rws 3 stpV w F v l
abbrev Nums (w : World) (F : Nat → Prop) (v : Value) (l : List Int) : Prop := Rws 1 numV w F v l
def Ver.I64 (n : Int) : Prop := -9223372036854775808 ≤ n ∧ n ≤ 9223372036854775807
def Ver.Bd (v : Ver.V) : Prop := Ver.I64 v.by_ ∧ Ver.I64 v.n
def Ver.BdS (s : Ver.S) : Prop := Ver.Bd s.v ∧ Ver.I64 s.time
instance (n : Int) : Decidable (Ver.I64 n) := inferInstanceAs (Decidable (_ ∧ _))
instance (v : Ver.V) : Decidable (Ver.Bd v) := inferInstanceAs (Decidable (_ ∧ _))
instance (s : Ver.S) : Decidable (Ver.BdS s) := inferInstanceAs (Decidable (_ ∧ _))
def Ver.next (t : Int) (l : List Int) : Int × Int := if Ver.most t l = 9223372036854775807 then (0, 15) else (Ver.most t l + 1, 0)
def Ver.checkV (v : Ver.V) : Int := if Ver.Right v then 0 else 2
def Ver.checkS (s : Ver.S) : Int := if Ver.RightS s then 0 else 2
def Ver.zero : Ver.S := ⟨0, 0, 0⟩
theorem ver_one (v : Ver.V) : ∀ u ∈ verV v, u.oneCell' = true := by
 intro u hu
 unfold verV at hu
 simp only [List.mem_cons, List.not_mem_nil, or_false] at hu
 rcases hu with rfl | rfl <;> rfl
def Laid (w w' : World) : Prop := ∃ q os, w' = Sort.grow (w.drewN q) os
theorem Laid.refl (w : World) : Laid w w := ⟨0, #[], by rw [Sort.grow_empty]; rfl⟩
theorem Laid.new (w : World) (o : Obj) : Laid w (w.alloc o) := ⟨0, #[o], by rw [Sort.alloc_eq_grow]; rfl⟩
theorem Laid.trans {a b c : World} (h : Laid a b) (k : Laid b c) : Laid a c := by
 obtain ⟨q, os, rfl⟩ := h
 obtain ⟨q2, os2, rfl⟩ := k
 refine ⟨q + q2, os ++ os2, ?_⟩
 show Sort.grow (Sort.grow ((a.drewN q).drewN q2) os) os2 = _
 rw [Sort.grow_grow, World.drewN_drewN]
theorem Laid.below {w w' : World} (h : Laid w w') : Below w.heap.size w w' := by
 obtain ⟨q, os, rfl⟩ := h
 exact ⟨rfl, rfl, rfl, by rw [Sort.size_grow]; exact Nat.le_add_right _ _, fun i hi => Sort.heap_grow_old (w.drewN q) os hi⟩
structure VersOk : Prop where
 check : ∀ {w : World} (v : Ver.V), Ver.Bd v → Calls Try.prog 32 #[verA v] w fun e w' => e = .returned (.int .i64 (Ver.checkV v)) ∧ Laid w w'
 stamp : ∀ {w : World} (s : Ver.S), Ver.BdS s → Calls Try.prog 33 #[stpA s] w fun e w' => e = .returned (.int .i64 (Ver.checkS s)) ∧ Laid w w'
 before : ∀ {w : World} (a b : Ver.V), Calls Try.prog 42 #[verA a, verA b] w fun e w' => e = .returned (.bool (decide (Ver.Before a b))) ∧ Laid w w'
section
variable {w : World} {F : Nat → Prop} {b o n cap : Nat}
theorem Vrs.at {l : List Ver.V} (h : Vrs w F (.slice (some ⟨b, o, none⟩) n cap) l) {i : Nat} {x : Ver.V} (hx : l[i]? = some x) :
  w.cell? ⟨b, o + i * 2, none⟩ = some (.int .i64 x.by_) ∧ w.cell? ⟨b, o + i * 2 + 1, none⟩ = some (.int .i64 x.n) := by
 obtain ⟨A, c, e, -, hat⟩ := h
 injection e with e1 e2 e3
 obtain ⟨b', o', e, -, -, hc⟩ := hat (by obtain ⟨hl, _⟩ := List.getElem?_eq_some_iff.1 hx; omega)
 rw [e] at e1
 injection e1 with e1
 injection e1 with e1 e2
 subst e1 e2
 exact ⟨hc i x hx 0 _ rfl, hc i x hx 1 _ rfl⟩
theorem Sts.at {l : List Ver.S} (h : Sts w F (.slice (some ⟨b, o, none⟩) n cap) l) {i : Nat} {x : Ver.S} (hx : l[i]? = some x) :
  w.cell? ⟨b, o + i * 3, none⟩ = some (.int .i64 x.v.by_) ∧ w.cell? ⟨b, o + i * 3 + 1, none⟩ = some (.int .i64 x.v.n) ∧ w.cell? ⟨b, o + i * 3 + 2, none⟩ = some (.int .i64 x.time) := by
 obtain ⟨A, c, e, -, hat⟩ := h
 injection e with e1 e2 e3
 obtain ⟨b', o', e, -, -, hc⟩ := hat (by obtain ⟨hl, _⟩ := List.getElem?_eq_some_iff.1 hx; omega)
 rw [e] at e1
 injection e1 with e1
 injection e1 with e1 e2
 subst e1 e2
 exact ⟨hc i x hx 0 _ rfl, hc i x hx 1 _ rfl, hc i x hx 2 _ rfl⟩
theorem Nums.at {l : List Int} (h : Nums w F (.slice (some ⟨b, o, none⟩) n cap) l) {i : Nat} {x : Int} (hx : l[i]? = some x) : w.cell? ⟨b, o + i, none⟩ = some (.int .i64 x) := by
 obtain ⟨A, c, e, -, hat⟩ := h
 injection e with e1 e2 e3
 obtain ⟨b', o', e, -, -, hc⟩ := hat (by obtain ⟨hl, _⟩ := List.getElem?_eq_some_iff.1 hx; omega)
 rw [e] at e1
 injection e1 with e1
 injection e1 with e1 e2
 subst e1 e2
 have := hc i x hx 0 _ rfl
 rwa [Nat.mul_one, Nat.add_zero] at this
end
end Go.Proofs.Ytgpeobmaneponaa
namespace Go.Proofs.Ytgpeobmaneponaa
open Go.RowKit
def rgV (r : Sz.Rg) : List Value := [.int .i64 r.1, .int .i64 r.2]
abbrev Rgs (w : World) (F : Nat → Prop) (v : Value) (l : List Sz.Rg) : Prop := Rws 2 rgV w F v l
def Bd (r : Sz.Rg) : Prop := -9223372036854775808 ≤ r.1 ∧ r.1 ≤ 9223372036854775807 ∧ -9223372036854775808 ≤ r.2 ∧ r.2 ≤ 9223372036854775807
theorem rg_len (r : Sz.Rg) : (rgV r).length = 2 := rfl
structure SizesOk : Prop where
 holds : ∀ {w : World} {F : Nat → Prop} {v : Value} {l : List Sz.Rg} (n : Int), Rgs w F v l → l.length ≤ 100000 → (∀ r ∈ l, Bd r) → -9223372036854775808 ≤ n → n ≤ 9223372036854775807 → Calls Try.prog 52 #[v, .int .i64 n] w fun e w' => e = .returned (.bool (Sz.holds l n)) ∧ Below w.heap.size w w'
theorem Rgs.at {w : World} {F : Nat → Prop} {b o : Nat} {n cap : Nat} {l : List Sz.Rg} (h : Rgs w F (.slice (some ⟨b, o, none⟩) n cap) l) {i : Nat} {x : Sz.Rg} (hx : l[i]? = some x) :
  w.cell? ⟨b, o + i * 2, none⟩ = some (.int .i64 x.1) ∧ w.cell? ⟨b, o + i * 2 + 1, none⟩ = some (.int .i64 x.2) := by
 obtain ⟨A, c, e, -, hat⟩ := h
 injection e with e1 e2 e3
 obtain ⟨b', o', e, -, -, hc⟩ := hat (by obtain ⟨hl, _⟩ := List.getElem?_eq_some_iff.1 hx; omega)
 rw [e] at e1
 injection e1 with e1
 injection e1 with e1 e2
 subst e1 e2
 exact ⟨hc i x hx 0 _ rfl, hc i x hx 1 _ rfl⟩
theorem Rgs.slice {w : World} {F : Nat → Prop} {v : Value} {l : List Sz.Rg} (h : Rgs w F v l) : ∃ A cap, v = .slice A l.length cap ∧ l.length ≤ cap := by
 obtain ⟨A, c, e, hc, hat⟩ := h
 exact ⟨A, c, e, hc⟩
end Go.Proofs.Ytgpeobmaneponaa
namespace Go.Proofs.Ytgpeobmaneponaa
open Go.RowKit
theorem Cells.below {w w' : World} {F : Nat → Prop} {v : Value} {us : List Value} (h : Cells w F v us) (k : Below w.heap.size w w') : Cells w' F v us := h.kept (Kept.ofBelow k (fun _ => False)) (fun _ _ h => h)
theorem below_drews' (w : World) (n : Nat) : Below w.heap.size w (w.drewN n) := ⟨rfl, rfl, rfl, Nat.le_refl _, fun _ _ => rfl⟩
theorem strInfo : (Try.prog.info? 9).map (fun i => (i.zero, i.size, i.bytes)) = some (some (.string ⟨#[]⟩), 1, 16) := by kernel_rfl
theorem own_below {w w' : World} {base t size n : Nat} {v : Value} {xs : List Value} (h : w.ownsRow base t size v n xs) (k : Below w.heap.size w w') : w'.ownsRow base t size v n xs :=
 h.kept (Kept.ofBelow k (fun i => i = w.heap.size)).grown (Or.inr (fun e => by have := (h.lt _ e).2; omega))
def TextsOwn (w : World) (out : List (List UInt8)) (v : Value) (wr : World) : Prop := wr.ownsRow w.heap.size 9 1 v out.length (texts out) ∧ Below w.heap.size w wr
theorem texts_start (w : World) : TextsOwn w [] (.slice none 0 0) w := ⟨World.ownsRow_nil _ _ _ _, Below.refl _ _⟩
theorem TextsOwn.below {w w1 w2 : World} {out : List (List UInt8)} {v : Value} (h : TextsOwn w out v w1) (k : Below w1.heap.size w1 w2) : TextsOwn w out v w2 := ⟨own_below h.1 k, h.2.trans (k.mono h.2.size)⟩
theorem texts_more {w wr w2 : World} {out : List (List UInt8)} {v v' : Value} {o : Obj} {x : List UInt8} (h : TextsOwn w out v wr) (hown : w2.ownsRow w.heap.size 9 1 v' (out.length + 1) (texts out ++ [.string (mk x)])) (hg : (wr.alloc o).grownBy w2 v.ownBlock) :
  TextsOwn w (out ++ [x]) v' w2 := by
 obtain ⟨h1, h2⟩ := h
 refine ⟨?_, (h2.alloc h2.size o).grown hg (by have := h2.size; simp; omega) (fun k hk => (h1.lt k hk).1)⟩
 rw [List.length_append]
 simpa [texts] using hown
theorem TextsOwn.cells {w w' : World} {out : List (List UInt8)} {v : Value} (h : TextsOwn w out v w') : Cells w' (NewIn w w') v (texts out) := Cells.ofOwn h.1 (fun _ _ h1 h2 => ⟨h1, h2⟩)
end Go.Proofs.Ytgpeobmaneponaa
namespace Go.Proofs.Ytgpeobmaneponaa
open Go.RowKit
theorem idx (s : ByteArray) (k : Nat) (h : k < s.size) : ∃ c : UInt8, s.data.toList[k]? = some c ∧ ∀ V : World, (Instr.index 9 (.string s) (.int .i64 (k : Int))).run Try.prog V = .ok (.int .u8 (c.toNat : Int)) V := by
 refine ⟨s[k]'h, ?_, fun V => by go_simp⟩
 rw [List.getElem?_eq_getElem (by rw [← Lib.size_eq]; exact h), Array.getElem_toList]
 rfl
end Go.Proofs.Ytgpeobmaneponaa
namespace Go.Proofs.Ytgpeobmaneponaa
open Go.RowKit
structure PathOk : Prop where
 check : ∀ (s : List UInt8) (w : World), s.length ≤ 100000 → Calls Try.prog 34 #[.string (mk s)] w fun e w' => e = .returned (.int .i64 (if Pth.Right s then 0 else 13)) ∧ Below w.heap.size w w'
 names : ∀ (s : List UInt8) (w : World), s.length ≤ 100000 → Calls Try.prog 47 #[.string (mk s)] w fun e w' => ∃ v, e = .returned (.tuple #[v, .int .i64 (if Pth.Right s then 0 else 13)]) ∧ Cells w' (NewIn w w') v (texts (if Pth.Right s then Pth.split s else [])) ∧ Below w.heap.size w w'
 covers : ∀ (a b : List UInt8) (w : World), a.length ≤ 100000 → b.length ≤ 100000 → Calls Try.prog 51 #[.string (mk a), .string (mk b)] w fun e w' => e = .returned (.bool (decide (Pth.Covers a b))) ∧ Below w.heap.size w w'
theorem ref_covers1 (a b : List UInt8) (w : World) (ha : a.length ≤ 100000) : Calls Try.prog 48 #[.string (mk a), .string (mk b)] w fun e w' => e = .returned (.bool (decide (Pth.Covers a b))) ∧ w' = w := by
 have la : (mk a).size = a.length := mk_len a
 have lb : (mk b).size = b.length := mk_len b
 have ia : (mk a).toList.isEmpty = decide (a = []) := by rw [Lib.toList_data, mk_data]; cases a <;> rfl
 have ea : ((mk a).toList == []) = decide (a = []) := by rw [Lib.toList_data, mk_data]; cases a <;> rfl
 have eb : ((mk a).toList == (mk b).toList) = decide (a = b) := by
  rw [Lib.toList_data, Lib.toList_data, mk_data, mk_data]
  by_cases h : a = b
  ·rw [h, decide_eq_true rfl]; exact beq_self_eq_true _
  ·rw [decide_eq_false h, beq_eq_false_iff_ne]; exact h
 by_cases h1 : a = []
 ·have hc : Hid (decide (Pth.Covers a b) = true) := Lib.hid (decide_eq_true (Or.inl h1))
  rw [decide_eq_true h1] at ia ea
  clear h1 eb
  generalize mk a = x at *
  generalize mk b = y at *
  go_enter Try.func48, Try.ntmps48
  go_wp2_with fail
  go_ret
  exact ⟨by rw [hc.out]; rfl, rfl⟩
 ·rw [decide_eq_false h1] at ia ea
  by_cases h2 : a = b
  ·have hc : Hid (decide (Pth.Covers a b) = true) := Lib.hid (decide_eq_true (Or.inr (Or.inl h2)))
   rw [decide_eq_true h2] at eb
   clear h1 h2
   generalize mk a = x at *
   generalize mk b = y at *
   go_enter Try.func48, Try.ntmps48
   go_wp2_with fail
   go_ret
   exact ⟨by rw [hc.out]; rfl, rfl⟩
  ·rw [decide_eq_false h2] at eb
   have hc : ∀ P : Prop, (Pth.Covers a b ↔ P) ↔ ((a.length < b.length ∧ b.take a.length = a ∧ b[a.length]? = some 47) ↔ P) := fun P => by
    unfold Pth.Covers
    constructor
    ·intro h; rw [← h]; exact ⟨fun k => Or.inr (Or.inr k), fun k => (k.resolve_left h1).resolve_left h2⟩
    ·intro h; rw [← h]; exact ⟨fun k => (k.resolve_left h1).resolve_left h2, fun k => Or.inr (Or.inr k)⟩
   by_cases h3 : a.length < b.length
   ·have g3 : decide ((mk a).size < (mk b).size) = true := by rw [la, lb]; exact decide_eq_true h3
    have g3i : ((mk a).size : Int) < ((mk b).size : Int) := by rw [la, lb]; omega
    have g3j : ((mk a).size : Int) ≤ ((mk b).size : Int) := by omega
    have e4 : (((mk b).extract 0 (mk a).size).toList == (mk a).toList) = decide (b.take a.length = a) := by
     rw [Lib.toList_data, Lib.toList_data, Lib.extract_data, mk_data, mk_data, la, List.drop_zero, Nat.sub_zero]
     by_cases h : b.take a.length = a
     ·rw [h, decide_eq_true rfl]; exact beq_self_eq_true _
     ·rw [decide_eq_false h, beq_eq_false_iff_ne]; exact h
    by_cases h4 : b.take a.length = a
    ·rw [decide_eq_true h4] at e4
     obtain ⟨c, hcc, ic⟩ := idx (mk b) (mk a).size (by rw [la, lb]; exact h3)
     rw [mk_data, la] at hcc
     have hx : Hid (decide (Pth.Covers a b) = decide (c.toNat = 47)) := Lib.hid (by
      rw [decide_eq_decide]
      refine (hc _).2 ⟨fun k => ?_, fun k => ⟨h3, h4, ?_⟩⟩
      ·have := k.2.2
       rw [hcc] at this
       injection this with this
       rw [this]; rfl
      ·rw [hcc]
       congr 1
       apply UInt8.toNat_inj.1
       exact k)
     have hc7 : (((c.toNat : Int)) == 47) = decide (c.toNat = 47) := by
      by_cases h : c.toNat = 47
      ·rw [h]; rfl
      ·rw [decide_eq_false h, beq_eq_false_iff_ne]; omega
     clear h1 h2 h3 h4 hc hcc la lb
     generalize mk a = x at *
     generalize mk b = y at *
     cases hd : decide (c.toNat = 47)
     all_goals
      rw [hd] at hx hc7
      generalize c.toNat = cn at *
      go_enter Try.func48, Try.ntmps48
      go_wp2_with fail
      go_ret
      exact ⟨by rw [hx.out]; rfl, rfl⟩
    ·rw [decide_eq_false h4] at e4
     have hx : Hid (decide (Pth.Covers a b) = false) := Lib.hid (decide_eq_false (fun k => h4 (((hc (Pth.Covers a b)).1 Iff.rfl).2 k).2.1))
     clear h1 h2 h3 h4 hc la lb
     generalize mk a = x at *
     generalize mk b = y at *
     go_enter Try.func48, Try.ntmps48
     go_wp2_with fail
     go_ret
     exact ⟨by rw [hx.out]; rfl, rfl⟩
   ·have g3 : decide ((mk a).size < (mk b).size) = false := by rw [la, lb]; exact decide_eq_false h3
    have hx : Hid (decide (Pth.Covers a b) = false) := Lib.hid (decide_eq_false (fun k => h3 (((hc (Pth.Covers a b)).1 Iff.rfl).2 k).1))
    clear h1 h2 h3 hc la lb
    generalize mk a = x at *
    generalize mk b = y at *
    go_enter Try.func48, Try.ntmps48
    go_wp2_with fail
    go_ret
    exact ⟨by rw [hx.out]; rfl, rfl⟩
end Go.Proofs.Ytgpeobmaneponaa
namespace Go.Proofs.Ytgpeobmaneponaa
open Go.RowKit
def clV (c : Flt.Cl) : List Value := [.string (mk c.pre), .int .i64 c.lo, .int .i64 c.hi]
abbrev Cls (w : World) (F : Nat → Prop) (v : Value) (l : List Flt.Cl) : Prop := Rws 3 clV w F v l
def Flt.Bd (c : Flt.Cl) : Prop := c.pre.length ≤ 100000 ∧ Go.Proofs.Ytgpeobmaneponaa.Bd (Flt.rg c)
def fileV (p : List UInt8) (size : Int) (dead : Bool) : Value := .agg #[.string (mk p), .int .i64 size, .bool dead]
def Flt.first : List Flt.Cl → Int
 | [] => 0
 | c :: l => if c.pre ≠ [] ∧ ¬ Pth.Right c.pre then 13 else if Flt.Right c then Flt.first l else 2
def Flt.check (f : List Flt.Cl) : Int := if 8 < f.length then 4 else Flt.first f
def Flt.hit (p : List UInt8) (size : Int) (dead : Bool) (c : Flt.Cl) : Bool := decide (Pth.Covers c.pre p) && (dead || decide (0 ≤ size ∧ size ≤ 200 ∧ c.lo ≤ size ∧ size ≤ c.hi))
def Flt.hits (f : List Flt.Cl) (p : List UInt8) (size : Int) (dead : Bool) : Bool := f.any (Flt.hit p size dead)
def Flt.whole : List Flt.Cl := [⟨[], 0, 200⟩]
structure FilterOk : Prop where
 all : ∀ (w : World), Calls Try.prog 27 #[] w fun e w' => ∃ v', e = .returned v' ∧ Cls w' (NewIn w w') v' Flt.whole ∧ Below w.heap.size w w'
 hits : ∀ {w : World} {F : Nat → Prop} {v : Value} {f : List Flt.Cl} (p : List UInt8) (size : Int) (dead : Bool), Cls w F v f → f.length ≤ 100000 → (∀ c ∈ f, Flt.Bd c) → p.length ≤ 100000 → -9223372036854775808 ≤ size → size ≤ 9223372036854775807 → Calls Try.prog 36 #[v, fileV p size dead] w fun e w' => e = .returned (.bool (Flt.hits f p size dead)) ∧ Below w.heap.size w w'
theorem Cls.at {w : World} {F : Nat → Prop} {b o : Nat} {n cap : Nat} {l : List Flt.Cl} (h : Cls w F (.slice (some ⟨b, o, none⟩) n cap) l) {i : Nat} {x : Flt.Cl} (hx : l[i]? = some x) :
  w.cell? ⟨b, o + i * 3, none⟩ = some (.string (mk x.pre)) ∧ w.cell? ⟨b, o + i * 3 + 1, none⟩ = some (.int .i64 x.lo) ∧ w.cell? ⟨b, o + i * 3 + 2, none⟩ = some (.int .i64 x.hi) := by
 obtain ⟨A, c, e, -, hat⟩ := h
 injection e with e1 e2 e3
 obtain ⟨b', o', e, -, -, hc⟩ := hat (by obtain ⟨hl, _⟩ := List.getElem?_eq_some_iff.1 hx; omega)
 rw [e] at e1
 injection e1 with e1
 injection e1 with e1 e2
 subst e1 e2
 exact ⟨hc i x hx 0 _ rfl, hc i x hx 1 _ rfl, hc i x hx 2 _ rfl⟩
end Go.Proofs.Ytgpeobmaneponaa
namespace Go.Proofs.Ytgpeobmaneponaa
open Go.RowKit
def upV (u : Upd.U) : List Value := [.int .i64 u.item.by_, .int .i64 u.item.n, .int .i64 u.stamp.v.by_, .int .i64 u.stamp.v.n, .int .i64 u.stamp.time, .string (mk u.path), .string (mk u.data), .bool u.dead]
def mtV (m : Upd.M) : List Value := [.int .i64 m.item.by_, .int .i64 m.item.n, .int .i64 m.stamp.v.by_, .int .i64 m.stamp.v.n, .int .i64 m.stamp.time, .string (mk m.path), .int .i64 m.size, .bool m.dead]
abbrev upA (u : Upd.U) : Value := .agg #[.int .i64 u.item.by_, .int .i64 u.item.n, .int .i64 u.stamp.v.by_, .int .i64 u.stamp.v.n, .int .i64 u.stamp.time, .string (mk u.path), .string (mk u.data), .bool u.dead]
abbrev mtA (m : Upd.M) : Value := .agg #[.int .i64 m.item.by_, .int .i64 m.item.n, .int .i64 m.stamp.v.by_, .int .i64 m.stamp.v.n, .int .i64 m.stamp.time, .string (mk m.path), .int .i64 m.size, .bool m.dead]
abbrev Ups (w : World) (F : Nat → Prop) (v : Value) (l : List Upd.U) : Prop := Rws 8 upV w F v l
structure Upd.Bd (u : Upd.U) : Prop where
 item : Ver.Bd u.item
 stamp : Ver.BdS u.stamp
 path : u.path.length ≤ 100000
 data : u.data.length ≤ 100000
structure Upd.BdM (m : Upd.M) : Prop where
 item : Ver.Bd m.item
 stamp : Ver.BdS m.stamp
 path : m.path.length ≤ 100000
 size : Ver.I64 m.size
def Upd.errM (m : Upd.M) : Int := if ¬ (Ver.Right m.item ∧ Ver.RightS m.stamp) then 2 else if ¬ Pth.Right m.path then 13 else if 200 < m.size then 4 else if m.size < 0 ∨ (m.dead = true ∧ 0 < m.size) then 6 else 0
def Upd.err (u : Upd.U) : Int := Upd.errM (Upd.meta_ u)
def Upd.zeroU : Upd.U := ⟨⟨0, 0⟩, ⟨0, 0, 0⟩, [], [], false⟩
def Upd.hit (f : List Flt.Cl) (u : Upd.U) : Bool := Flt.hits f u.path (u.data.length : Int) u.dead
def Upd.hitM (f : List Flt.Cl) (m : Upd.M) : Bool := Flt.hits f m.path m.size m.dead
theorem up_len (u : Upd.U) : (upV u).length = 8 := rfl
theorem up_one (u : Upd.U) : ∀ c ∈ upV u, c.oneCell' = true := by
 intro c hc
 unfold upV at hc
 simp only [List.mem_cons, List.not_mem_nil, or_false] at hc
 rcases hc with rfl | rfl | rfl | rfl | rfl | rfl | rfl | rfl <;> rfl
theorem Upd.bd_meta {u : Upd.U} (h : Upd.Bd u) : Upd.BdM (Upd.meta_ u) := ⟨h.item, h.stamp, h.path, by have := h.data; show Ver.I64 (u.data.length : Int); unfold Ver.I64; omega⟩
structure UpdateOk : Prop where
 check : ∀ {w : World} (u : Upd.U), Upd.Bd u → Calls Try.prog 11 #[upA u] w fun e w' => e = .returned (.int .i64 (Upd.err u)) ∧ Below w.heap.size w w'
 checkM : ∀ {w : World} (m : Upd.M), Upd.BdM m → Calls Try.prog 13 #[mtA m] w fun e w' => e = .returned (.int .i64 (Upd.errM m)) ∧ Below w.heap.size w w'
 toMeta : ∀ {w : World} (u : Upd.U), Upd.Bd u → Calls Try.prog 9 #[upA u] w fun e w' => e = .returned (mtA (Upd.meta_ u)) ∧ Below w.heap.size w w'
 file : ∀ {w : World} (u : Upd.U), Upd.Bd u → Calls Try.prog 10 #[upA u] w fun e w' => e = .returned (fileV u.path (u.data.length : Int) u.dead) ∧ Below w.heap.size w w'
 hit : ∀ {w : World} {F : Nat → Prop} {v : Value} {f : List Flt.Cl} (u : Upd.U), Cls w F v f → f.length ≤ 100000 → (∀ c ∈ f, Flt.Bd c) → Upd.Bd u → Calls Try.prog 17 #[v, upA u] w fun e w' => e = .returned (.bool (Upd.hit f u)) ∧ Below w.heap.size w w'
 hitM : ∀ {w : World} {F : Nat → Prop} {v : Value} {f : List Flt.Cl} (m : Upd.M), Cls w F v f → f.length ≤ 100000 → (∀ c ∈ f, Flt.Bd c) → Upd.BdM m → Calls Try.prog 18 #[v, mtA m] w fun e w' => e = .returned (.bool (Upd.hitM f m)) ∧ Below w.heap.size w w'
 wins : ∀ {w : World} (a b : Upd.U), Calls Try.prog 25 #[upA a, upA b] w fun e w' => e = .returned (.bool (decide (Upd.Wins a b))) ∧ Below w.heap.size w w'
 best : ∀ {w : World} {F : Nat → Prop} {v : Value} {l : List Upd.U} (item : Ver.V), Ups w F v l → l.length ≤ 100000 → (∀ u ∈ l, Upd.Bd u) → Ver.Bd item → Calls Try.prog 20 #[v, verA item] w fun e w' => e = .returned (.tuple #[upA ((Upd.best l item).getD Upd.zeroU), .bool (Upd.best l item).isSome]) ∧ Below w.heap.size w w'
 view : ∀ {w : World} {F G : Nat → Prop} {v fv : Value} {l : List Upd.U} {f : List Flt.Cl}, Ups w F v l → Cls w G fv f → l.length ≤ 100000 → (∀ u ∈ l, Upd.Bd u) → f.length ≤ 100000 → (∀ c ∈ f, Flt.Bd c) → Calls Try.prog 23 #[v, fv] w fun e w' => ∃ v', e = .returned v' ∧ Ups w' (NewIn w w') v' (Upd.view l (Upd.hit f)) ∧ Below w.heap.size w w'
end Go.Proofs.Ytgpeobmaneponaa
namespace Go.Proofs.Ytgpeobmaneponaa
open Go.RowKit
def InB (w w' : World) : Prop := Below w.heap.size w w'
theorem InB.refl (w : World) : InB w w := Below.refl _ _
theorem InB.below {w w' : World} (h : InB w w') : Below w.heap.size w w' := h
theorem InB.drew {w w' : World} (h : InB w w') : InB w w'.drew := Below.drew h
theorem InB.trans {a b c : World} (h : InB a b) (k : Below b.heap.size b c) : InB a c := Below.trans h (k.mono h.below.size)
section
variable {P : Program} {ops : Array Oper} {C : World → Prop} {Q : Act → Prop} {o : Oper} {rest : List Oper} {a : Act}
structure WQ (P : Program) (ops : Array Oper) (C : World → Prop) (Q : Act → Prop) (l : List Oper) (a : Act) : Prop where
 out : wpQuiet P ops C Q l a
theorem wp_region_below {id : Nat} {Q : Exit → Act → World → Prop} {a : Act} {w : World} {l : List Oper} (hm : P.follows .mixedOrders = true) (hB : Region.lexB .any l.toArray = true)
  (h : WQ P l.toArray (InB w) (fun a' => ∀ w', InB w w' → Q .normal a' w') l a) : (Code.region id l.toArray true).wp P Q a w :=
 wp_region_quiet (C := InB w) hm hB ⟨rfl, rfl, rfl, Nat.le_refl _, fun _ _ => rfl⟩ (by simpa using h.out)
theorem wq_nil (h : Q a) : WQ P ops C Q [] a := ⟨wpQuiet_nil h⟩
theorem wq_skip (hw : Region.wanted o (yielded ops a.tmps) = false) (k : WQ P ops C Q rest (a.put o.dst undef)) : WQ P ops C Q (o :: rest) a := by
 refine ⟨?_⟩
 unfold wpQuiet
 rw [if_neg (by rw [hw]; decide)]
 exact k.out
theorem wq_take {v : Value} (hw : Region.wanted o (yielded ops a.tmps) = true) (h : ∀ w, C w → (execOp a.eval o).run P w = .ok (.value v) w) (k : WQ P ops C Q rest (a.put o.dst v)) : WQ P ops C Q (o :: rest) a := by
 refine ⟨?_⟩
 unfold wpQuiet
 rw [if_pos hw]
 refine ⟨v, fun w hC => ?_, k.out⟩
 unfold Oper.quietAt
 rw [h w hC]
 exact ⟨rfl, rfl⟩
theorem wq_td {v : Value} (k : WQ P ops C Q rest (a.put o.dst v)) (hw : Region.wanted o (yielded ops a.tmps) = true := by kernel_rfl) (h : ∀ w, C w → (execOp a.eval o).run P w = .ok (.value v) w := by intro w hSw; go_simp; first | done | with_reducible rfl) : WQ P ops C Q (o :: rest) a := wq_take hw h k
theorem wq_call {v : Value} {f : FuncId} {args : Array Value} (hw : Region.wanted o (yielded ops a.tmps) = true) (h : ∀ w, C w → (execOp a.eval o).run P w = .ok (.enter f args) w) (hc : ∀ w, C w → Calls P f args w fun e w' => e = .returned v ∧ C w') (k : WQ P ops C Q rest (a.put o.dst v)) : WQ P ops C Q (o :: rest) a := by
 refine ⟨?_⟩
 unfold wpQuiet
 rw [if_pos hw]
 refine ⟨v, fun w hC => ?_, k.out⟩
 unfold Oper.quietAt
 rw [h w hC]
 exact ⟨rfl, hc w hC⟩
end
theorem inB_calls {P : Program} {f : FuncId} {args : Array Value} {W w : World} {v : Value} (hC : InB W w) (h : Calls P f args w fun e w' => e = .returned v ∧ Below w.heap.size w w') : Calls P f args w fun e w' => e = .returned v ∧ InB W w' :=
 h.mono fun _ _ ⟨he, hb⟩ => ⟨he, hC.trans hb⟩
end Go.Proofs.Ytgpeobmaneponaa
namespace Go.Proofs.Ytgpeobmaneponaa
open Go.RowKit
def Near (w : World) (v v' : Value) : Prop := v'.ownBlock = v.ownBlock ∨ ∀ g, v'.ownBlock = some g → w.heap.size ≤ g
theorem Near.refl (w : World) (v : Value) : Near w v v := Or.inl rfl
theorem Near.apart {w w' : World} {u v v' : Value} {base t size n : Nat} {xs : List Value} (h : Near w' v v') (ha : ∀ g, u.ownBlock = some g → v.ownBlock ≠ some g) (hu : w.ownsRow base t size u n xs) (hs : w.heap.size ≤ w'.heap.size) : ∀ g, u.ownBlock = some g → v'.ownBlock ≠ some g := by
 intro g hg e
 rcases h with h | h
 ·exact ha g hg (h ▸ e)
 ·have := (hu.lt g hg).2
  have := h g e
  omega
section
variable {P : Program} {α : Type} {k : Nat} {f : α → List Value}
theorem append_near {w : World} (base : Nat) (t ty e : TypeId) (i : TypeInfo) (z : Value) (size bytes : Nat) (ht : P.underlying t = some (.slice e)) (hi : P.info? e = some i) (hz : i.zero = some z)
    (hsize : i.size = size) (hby : i.bytes = bytes) (hzs : z.cells.size = size) (hsz : 0 < size) {v : Value} {n : Nat} {xs : List Value} (hown : w.ownsRow base e size v n xs)
    (a : Addr) (m c : Nat) (news : List Value) (hl : news.length = m * size) (hnews : ∀ j u, news[j]? = some u → w.cell? (a.add j) = some u) (h1 : ∀ u ∈ news, u.oneCell' = true)
    (h63 : n + m ≤ maxLen) (hbytes : (n + m) * bytes ≤ 140737488355328) {v' : Value} {w' : World} (hr : (Builtin.append_ #[t, t] ty #[v, .slice (some a) m c]).run P w = .ok v' w') : Near w v v' := by
  have hsmall : n + m ≤ 9223372036854775807 := by simp only [maxLen] at h63; omega
  rcases hown.2 with ⟨rfl, rfl⟩ | ⟨g, cap, cur, rfl, hbg, hg, hnc, hcm, hcs, htake⟩
  · obtain ⟨v2, w2, r1, r2, -, -⟩ := run_append_own w w.heap.size t ty e i z size bytes ht hi hz hsize hby hzs hsz (.slice none 0 0) 0 [] (World.ownsRow_nil _ _ _ _) a m c news hl hnews h1 h63 hbytes (Nat.le_refl _)
    rw [hr] at r1
    injection r1 with e1 e2
    subst e1
    exact Or.inr (fun g hg => (r2.lt g hg).1)
  · subst hsize
    subst hby
    by_cases hroom : n + m ≤ cap
    · have hfit : n * i.size + news.length ≤ cur.size := by rw [hl, hcs, ← Nat.add_mul]; exact Nat.mul_le_mul_right _ hroom
      have r1 := run_append_room (P := P) w t ty e i ht hi g n cap cur hg a m c news hl hnews h1 hroom hfit
      rw [hr] at r1
      injection r1 with e1 e2
      subst e1
      exact Or.inl rfl
    · have r1 := run_append_grow (P := P) w t ty e i z ht hi hz ⟨g, 0, none⟩ n cap xs hown.1 (hown.cells (g := g) rfl) a m c news hl hnews (by omega) (by omega) (growslice_fits (by omega) hbytes)
      rw [hr] at r1
      injection r1 with e1 e2
      subst e1
      exact Or.inr (fun g' hg' => by have : w.heap.size = g' := by simpa [Value.ownBlock] using hg'
                                     omega)
theorem join_near {w : World} (base : Nat) (t ty e : TypeId) (i : TypeInfo) (z : Value) (bytes : Nat) (ht : P.underlying t = some (.slice e)) (hi : P.info? e = some i) (hz : i.zero = some z) (hsize : i.size = k) (hby : i.bytes = bytes) (hzs : z.cells.size = k) (hsz : 0 < k)
  {v xv : Value} {n : Nat} {xs : List Value} {F : Nat → Prop} {l : List α} (hown : w.ownsRow base e k v n xs) (hx : Rws k f w F xv l) (hk : ∀ x ∈ l, (f x).length = k) (h1 : ∀ x ∈ l, ∀ u ∈ f x, u.oneCell' = true)
  (h63 : n + l.length ≤ maxLen) (hbytes : (n + l.length) * bytes ≤ 140737488355328) (hbase : base ≤ w.heap.size) :
  ∃ v' w', (Builtin.append_ #[t, t] ty #[v, xv]).run P w = .ok v' w' ∧ w'.ownsRow base e k v' (n + l.length) (xs ++ l.flatMap f) ∧ w.grownBy w' v.ownBlock ∧ Near w v v' := by
 obtain ⟨v', w', r1, r2, r3⟩ := join_rows (P := P) base t ty e i z bytes ht hi hz hsize hby hzs hsz hown hx hk h1 h63 hbytes hbase
 refine ⟨v', w', r1, r2, r3, ?_⟩
 obtain ⟨A, c, rfl, hc, hat⟩ := hx
 have hone : ∀ u ∈ l.flatMap f, u.oneCell' = true := by
  intro u hu
  obtain ⟨x, hx, hu⟩ := List.mem_flatMap.1 hu
  exact h1 x hx u hu
 have hgo : ∀ ad : Addr, A = some ad → (∀ j u, (l.flatMap f)[j]? = some u → w.cell? (ad.add j) = some u) → Near w v v' := by
  rintro ad rfl hnews
  exact append_near base t ty e i z k bytes ht hi hz hsize hby hzs hsz hown ad l.length c (l.flatMap f) (rows_len l hk) hnews hone h63 hbytes r1
 by_cases h0 : 0 < l.length
 ·obtain ⟨b, o, rfl, -, hbl, hcell⟩ := hat h0
  refine hgo _ rfl (fun j u hu => ?_)
  obtain ⟨m, x, r, e1, e2, rfl⟩ := rows_of l hk j u hu
  rw [Go.WideShapes.add_plain, ← Nat.add_assoc]
  exact hcell m x e1 r u e2
 ·have hl : l = [] := List.eq_nil_of_length_eq_zero (by omega)
  subst hl
  cases A with
  | none =>
   have r4 := join_nothing (P := P) base t ty e i k c ht hi v n xs hown
   rw [show ([] : List α).length = 0 from rfl, r4] at r1
   injection r1 with e1 e2
   exact Or.inl (by rw [e1])
  | some ad => exact hgo ad rfl (fun j u hu => by simp at hu)
theorem wp_joins {ops : Array Oper} {rest : List Oper} {o : Oper} {a : Act} {w : World} {Q : Exit → Act → World → Prop} (hgd : o.guard = none) (s x : Operand) (t : TypeId)
  (ho : o.op = .call { callee := .builtin .append, args := #[s, x], argTypes := #[t, t] }) (base : Nat) (e : TypeId) (i : TypeInfo) (z : Value) (bytes : Nat) (ht : P.underlying t = some (.slice e)) (hi : P.info? e = some i) (hz : i.zero = some z)
  (hsize : i.size = k) (hby : i.bytes = bytes) (hzs : z.cells.size = k) (hsz : 0 < k) {v xv : Value} {n : Nat} {xs : List Value} {F : Nat → Prop} {l : List α} (hs : a.eval s = v) (hx : a.eval x = xv)
  (hown : w.ownsRow base e k v n xs) (hr : Rws k f w F xv l) (hk : ∀ x ∈ l, (f x).length = k) (h1 : ∀ x ∈ l, ∀ u ∈ f x, u.oneCell' = true) (h63 : n + l.length ≤ maxLen) (hbytes : (n + l.length) * bytes ≤ 140737488355328) (hbase : base ≤ w.heap.size)
  (h : ∀ v' w', w'.ownsRow base e k v' (n + l.length) (xs ++ l.flatMap f) → w.grownBy w' v.ownBlock → Near w v v' → wpList P ops Q rest (a.put o.dst v') w') : wpList P ops Q (o :: rest) a w :=
 wpList_plain hgd fun _ hK => by
  obtain ⟨v', w', r1, r2, r3, r4⟩ := join_near (P := P) base t o.type e i z bytes ht hi hz hsize hby hzs hsz hown hr hk h1 h63 hbytes hbase
  unfold Oper.wp execOp
  simp only [ho, resolve, invoke, builtin, Sem.run_bind, Sem.run_pure, Result.andThen_ok, List.map_toArray, List.map_cons, List.map_nil, hs, hx, r1]
  exact hK _ _ (h v' w' r2 r3 r4)
end
theorem own_left {w w' : World} {base t size n : Nat} {v : Value} {xs : List Value} {r : Option Nat} (h : w.ownsRow base t size v n xs) (hg : w.grownBy w' r) (hne : ∀ g, v.ownBlock = some g → r ≠ some g) : w'.ownsRow base t size v n xs := by
 refine ⟨h.1, ?_⟩
 rcases h.2 with h2 | ⟨g, cap, cur, rfl, hb, hgb, rest⟩
 ·exact .inl h2
 ·have hlt := (h.lt g rfl).2
  exact .inr ⟨g, cap, cur, rfl, hb, (hg.block g hlt (fun e => hne g rfl e.symm)).trans hgb, rest⟩
end Go.Proofs.Ytgpeobmaneponaa
