import Derived.Test.YtpafpegcodempaaGreatCom3
import Derived.Test.YtpafpegcodempaaGreatCom1
import Derived.Test.YtpafpegcodempaaGreatRows
import Derived.WalkKit
import Derived.ProofKit
import Derived.OpenShut
import Derived.ShutString
import Derived.SizedLaws
import Derived.Carry
import Derived.Sort.Grow
import Derived.Deep.Quiet
import Derived.Deep.QuietTactic
import Derived.Deep.WholeRow
import Derived.Deep.MidRow
import Derived.OrdersHeld
import Derived.Tactics
import Derived.Deep.RegionHeld
set_option maxRecDepth 100000
set_option linter.all false
namespace Go.Proofs.YtpafpegcodempaaGreat
open Go.RowKit
section
variable {α : Type} {t k : Nat} {f : α → List Value} {w wr w1 w2 : World} {out : List α} {v v' : Value}
theorem row_below {base t size n : Nat} {v : Value} {xs : List Value} (h : w.ownsRow base t size v n xs) (k : Below w.heap.size w w1) : w1.ownsRow base t size v n xs :=
 h.kept (Kept.ofBelow k (fun i => i = w.heap.size)).grown (Or.inr (fun e => by have := (h.lt _ e).2; omega))
def RowsOwn (t k : Nat) (f : α → List Value) (w : World) (out : List α) (v : Value) (wr : World) : Prop := wr.ownsRow w.heap.size t k v out.length (out.flatMap f) ∧ Below w.heap.size w wr
theorem RowsOwn.start (t k : Nat) (f : α → List Value) (w : World) : RowsOwn t k f w [] (.slice none 0 0) w := ⟨World.ownsRow_nil _ _ _ _, Below.refl _ _⟩
theorem RowsOwn.first (h : Below w.heap.size w wr) : RowsOwn t k f w [] (.slice none 0 0) wr := ⟨World.ownsRow_nil _ _ _ _, h⟩
theorem RowsOwn.below (h : RowsOwn t k f w out v w1) (hb : Below w1.heap.size w1 w2) : RowsOwn t k f w out v w2 := ⟨row_below h.1 hb, h.2.trans (hb.mono h.2.size)⟩
theorem row_lower {a b t size n : Nat} {v : Value} {xs : List Value} (h : w.ownsRow b t size v n xs) (hab : a ≤ b) : w.ownsRow a t size v n xs := by
 refine ⟨h.1, ?_⟩
 rcases h.2 with h2 | ⟨g, cap, cur, hv, hb, r⟩
 ·exact Or.inl h2
 ·exact Or.inr ⟨g, cap, cur, hv, Nat.le_trans hab hb, r⟩
theorem RowsOwn.since (h : RowsOwn t k f w1 out v w2) (hb : Below w.heap.size w w1) : RowsOwn t k f w out v w2 := ⟨row_lower h.1 hb.size, hb.trans (h.2.mono hb.size)⟩
theorem RowsOwn.more {x : α} {o : Obj} (h : RowsOwn t k f w out v wr) (hown : w2.ownsRow w.heap.size t k v' (out.length + 1) (out.flatMap f ++ f x)) (hg : (wr.alloc o).grownBy w2 v.ownBlock) : RowsOwn t k f w (out ++ [x]) v' w2 := by
 obtain ⟨h1, h2⟩ := h
 refine ⟨?_, (h2.alloc h2.size o).grown hg (by have := h2.size; simp; omega) (fun k hk => (h1.lt k hk).1)⟩
 rw [List.length_append, List.flatMap_append]
 simpa using hown
theorem RowsOwn.rows (h : RowsOwn t k f w out v wr) (hk : ∀ x ∈ out, (f x).length = k) : Rws k f wr (NewIn w wr) v out := Rws.ofOwn h.1 rfl hk (fun _ _ h1 h2 => ⟨h1, h2⟩)
theorem Rws.block {F : Nat → Prop} {v : Value} {l : List α} (h : Rws k f w F v l) (h0 : 0 < l.length) : ∃ b o cap, v = .slice (some ⟨b, o, Option.none⟩) l.length cap ∧ l.length ≤ cap ∧ F b ∧ b < w.heap.size := by
 obtain ⟨A, c, e, hc, hat⟩ := h
 obtain ⟨b, o, rfl, hb, hl, -⟩ := hat h0
 exact ⟨b, o, c, e, hc, hb, hl⟩
theorem Rws.parts {F : Nat → Prop} {v : Value} {l : List α} (h : Rws k f w F v l) : ∃ A cap, v = .slice A l.length cap ∧ l.length ≤ cap := by
 obtain ⟨A, c, e, hc, hat⟩ := h
 exact ⟨A, c, e, hc⟩
end
section
variable {α : Type} {t k : Nat} {f : α → List Value} {w wr w2 : World} {l m : List α} {v v' : Value} {o : Obj}
theorem RowsOwn.front (hg : (wr.alloc o).grownBy w2 (Value.slice (some ⟨wr.heap.size, 0, none⟩) 0 0).ownBlock) (hown : w2.ownsRow wr.heap.size t k v (0 + l.length) ([] ++ l.flatMap f)) : RowsOwn t k f wr l v w2 := by
 refine ⟨by simpa using hown, ((Below.refl wr.heap.size wr).alloc (Nat.le_refl _) o).grown hg (by simp) (fun k hk => ?_)⟩
 have : wr.heap.size = k := by simpa [Value.ownBlock] using hk
 omega
theorem RowsOwn.rest (h : RowsOwn t k f w l v wr) (hg : wr.grownBy w2 v.ownBlock) (hown : w2.ownsRow w.heap.size t k v' (l.length + m.length) (l.flatMap f ++ m.flatMap f)) : RowsOwn t k f w (l ++ m) v' w2 :=
 ⟨by rw [List.length_append, List.flatMap_append]; exact hown, h.2.grown hg h.2.size (fun k hk => (h.1.lt k hk).1)⟩
end
open Go.ChangeShapes Go.WideShapes Go.ChangeAt Go.RowKit
theorem own : ownKnob Tryz.prog.godebug = none := by kernel_rfl
theorem laidOut : laidOutB Tryz.prog = true := by kernel_rfl
section
variable {H : Type} {enc : TypeId × Value → H}
theorem args_stay {W W' : World} (hb : Below W.heap.size W W') : ∀ (ts : List TypeId) (vs : List Value) (ds : List (DataW H)) (ps : List MemPlace),
  (∀ t ∈ ts, Tryz.prog.readableRec t = true ∧ t < Tryz.prog.types.size) → (∀ p ∈ ps, p.block < W.heap.size) →
  DataW.TrodAll enc Tryz.prog W 0 (fun _ => true) true ts vs ds ps → DataW.TrodAll enc Tryz.prog W' 0 (fun b => decide (b < W.heap.size)) true ts vs ds ps
 | [], vs, ds, ps, _, _, h => by
  obtain ⟨rfl, rfl, rfl⟩ := trodAll_nil h
  exact trodAll_mk0
 | t :: ts, vs, ds, ps, ht, hp, h => by
  obtain ⟨v, vs', d, ds', p, q, rfl, rfl, rfl, h1, h2⟩ := trodAll_cons h
  obtain ⟨r1, r2⟩ := ht t (by simp)
  exact trodAll_cons_mk (Below.trod laidOut r1 r2 h1 hb (fun x hx => hp x (by simp [hx]))) (args_stay hb ts vs' ds' q (fun u hu => ht u (by simp [hu])) (fun x hx => hp x (by simp [hx])) h2)
theorem law_done {f : Func} {s : ChangeSpec} {W W' : World} {args : Array Value} {ds gs : List (DataW H)} {before : List MemPlace} (hres : f.resultTypes = #[4]) (hv : s.vars = [])
  (hW : DataW.Whole enc Tryz.prog f.params.toList s.vars false W args.toList ds gs before) (hfn : s.fn H (ds ++ gs) = { results := [.lit (.bool true)], args := ds })
  (hr : ∀ t ∈ f.params.toList, Tryz.prog.readableRec t = true ∧ t < Tryz.prog.types.size) (hb : Below W.heap.size W W') :
  s.post enc Tryz.prog f false true false false W args (.bool true) W' := by
 have hlt : ∀ p ∈ before, p.block < W.heap.size := fun p hp => hW.lt p hp
 have hW0 := hW
 obtain ⟨p, q, hA, hV, hpq, _, _⟩ := hW
 rw [hv] at hV
 obtain ⟨rfl, rfl⟩ := trodVars_none hV
 rw [List.append_nil] at hpq
 subst hpq
 refine ⟨ds, [], before, [], before, [], hW0, ?_, ?_, ?_, hb.frame _, fun h => by cases h⟩
 ·rw [hfn, hres]
  exact trodAll_mk1 (shut_bool Tryz.underlying4 true)
 ·rw [hfn]
  exact args_stay hb _ _ _ _ hr hlt hA
 ·rw [hfn, hv]
  rfl
end
open Go.RowKit
def verV (v : Ver.V) : List Value := [.int .i64 v.by_, .int .i64 v.n]
def stpV (s : Ver.S) : List Value := [.int .i64 s.v.by_, .int .i64 s.v.n, .int .i64 s.time]
def numV (n : Int) : List Value := [.int .i64 n]
abbrev verA (v : Ver.V) : Value := .agg #[.int .i64 v.by_, .int .i64 v.n]
abbrev stpA (s : Ver.S) : Value := .agg #[.int .i64 s.v.by_, .int .i64 s.v.n, .int .i64 s.time]
abbrev Vrs (w : World) (F : Nat → Prop) (v : Value) (l : List Ver.V) : Prop := Rws 2 verV w F v l
abbrev Sts (w : World) (F : Nat → Prop) (v : Value) (l : List Ver.S) : Prop := Rws 3 stpV w F v l
abbrev Nums (w : World) (F : Nat → Prop) (v : Value) (l : List Int) : Prop := Rws 1 numV w F v l
def Ver.I64 (n : Int) : Prop := -9223372036854775808 ≤ n ∧ n ≤ 9223372036854775807
def Ver.Bd (v : Ver.V) : Prop := Ver.I64 v.by_ ∧ Ver.I64 v.n
def Ver.BdS (s : Ver.S) : Prop := Ver.Bd s.v ∧ Ver.I64 s.time
instance (n : Int) : Decidable (Ver.I64 n) := inferInstanceAs (Decidable (_ ∧ _))
instance (v : Ver.V) : Decidable (Ver.Bd v) := inferInstanceAs (Decidable (_ ∧ _))
instance (s : Ver.S) : Decidable (Ver.BdS s) := inferInstanceAs (Decidable (_ ∧ _))
def Ver.next (t : Int) (l : List Int) : Int × Int := if Ver.most t l = 9223372036854775807 then (0, 15) else (Ver.most t l + 1, 0)
def Ver.checkV (v : Ver.V) : Int := if Ver.Right v then 0 else 2
def Ver.checkS (s : Ver.S) : Int := if Ver.RightS s then 0 else 2
def Ver.zero : Ver.S := ⟨0, 0, 0⟩
theorem ver_len (v : Ver.V) : (verV v).length = 2 := rfl
theorem num_len (n : Int) : (numV n).length = 1 := rfl
theorem ver_one (v : Ver.V) : ∀ u ∈ verV v, u.oneCell' = true := by
 intro u hu
 unfold verV at hu
 simp only [List.mem_cons, List.not_mem_nil, or_false] at hu
 rcases hu with rfl | rfl <;> rfl
def Laid (w w' : World) : Prop := ∃ q os, w' = Sort.grow (w.drewN q) os
theorem Laid.refl (w : World) : Laid w w := ⟨0, #[], by rw [Sort.grow_empty]; rfl⟩
theorem Laid.new (w : World) (o : Obj) : Laid w (w.alloc o) := ⟨0, #[o], by rw [Sort.alloc_eq_grow]; rfl⟩
theorem Laid.trans {a b c : World} (h : Laid a b) (k : Laid b c) : Laid a c := by
 obtain ⟨q, os, rfl⟩ := h
 obtain ⟨q2, os2, rfl⟩ := k
 refine ⟨q + q2, os ++ os2, ?_⟩
 show Sort.grow (Sort.grow ((a.drewN q).drewN q2) os) os2 = _
 rw [Sort.grow_grow, World.drewN_drewN]
theorem Laid.below {w w' : World} (h : Laid w w') : Below w.heap.size w w' := by
 obtain ⟨q, os, rfl⟩ := h
 exact ⟨rfl, rfl, rfl, by rw [Sort.size_grow]; exact Nat.le_add_right _ _, fun i hi => Sort.heap_grow_old (w.drewN q) os hi⟩
structure VersOk : Prop where
 check : ∀ {w : World} (v : Ver.V), Ver.Bd v → Calls Tryz.prog 191 #[verA v] w fun e w' => e = .returned (.int .i64 (Ver.checkV v)) ∧ Laid w w'
 stamp : ∀ {w : World} (s : Ver.S), Ver.BdS s → Calls Tryz.prog 339 #[stpA s] w fun e w' => e = .returned (.int .i64 (Ver.checkS s)) ∧ Laid w w'
 before : ∀ {w : World} (a b : Ver.V), Calls Tryz.prog 226 #[verA a, verA b] w fun e w' => e = .returned (.bool (decide (Ver.Before a b))) ∧ Laid w w'
 sort : ∀ {w : World} {F : Nat → Prop} {v : Value} {l : List Ver.V}, Vrs w F v l → l.length ≤ 1000000 → Calls Tryz.prog 348 #[v] w fun e w' => ∃ v', e = .returned v' ∧ Vrs w' (NewIn w w') v' (Ver.sort l) ∧ Below w.heap.size w w'
section
variable {w : World} {F : Nat → Prop} {b o n cap : Nat}
theorem Vrs.at {l : List Ver.V} (h : Vrs w F (.slice (some ⟨b, o, none⟩) n cap) l) {i : Nat} {x : Ver.V} (hx : l[i]? = some x) :
  w.cell? ⟨b, o + i * 2, none⟩ = some (.int .i64 x.by_) ∧ w.cell? ⟨b, o + i * 2 + 1, none⟩ = some (.int .i64 x.n) := by
 obtain ⟨A, c, e, -, hat⟩ := h
 injection e with e1 e2 e3
 obtain ⟨b', o', e, -, -, hc⟩ := hat (by obtain ⟨hl, _⟩ := List.getElem?_eq_some_iff.1 hx; omega)
 rw [e] at e1
 injection e1 with e1
 injection e1 with e1 e2
 subst e1 e2
 exact ⟨hc i x hx 0 _ rfl, hc i x hx 1 _ rfl⟩
theorem Sts.at {l : List Ver.S} (h : Sts w F (.slice (some ⟨b, o, none⟩) n cap) l) {i : Nat} {x : Ver.S} (hx : l[i]? = some x) :
  w.cell? ⟨b, o + i * 3, none⟩ = some (.int .i64 x.v.by_) ∧ w.cell? ⟨b, o + i * 3 + 1, none⟩ = some (.int .i64 x.v.n) ∧ w.cell? ⟨b, o + i * 3 + 2, none⟩ = some (.int .i64 x.time) := by
 obtain ⟨A, c, e, -, hat⟩ := h
 injection e with e1 e2 e3
 obtain ⟨b', o', e, -, -, hc⟩ := hat (by obtain ⟨hl, _⟩ := List.getElem?_eq_some_iff.1 hx; omega)
 rw [e] at e1
 injection e1 with e1
 injection e1 with e1 e2
 subst e1 e2
 exact ⟨hc i x hx 0 _ rfl, hc i x hx 1 _ rfl, hc i x hx 2 _ rfl⟩
theorem Nums.at {l : List Int} (h : Nums w F (.slice (some ⟨b, o, none⟩) n cap) l) {i : Nat} {x : Int} (hx : l[i]? = some x) : w.cell? ⟨b, o + i, none⟩ = some (.int .i64 x) := by
 obtain ⟨A, c, e, -, hat⟩ := h
 injection e with e1 e2 e3
 obtain ⟨b', o', e, -, -, hc⟩ := hat (by obtain ⟨hl, _⟩ := List.getElem?_eq_some_iff.1 hx; omega)
 rw [e] at e1
 injection e1 with e1
 injection e1 with e1 e2
 subst e1 e2
 have := hc i x hx 0 _ rfl
 rwa [Nat.mul_one, Nat.add_zero] at this
end
open Go.RowKit
def InB (w w' : World) : Prop := Below w.heap.size w w'
theorem InB.refl (w : World) : InB w w := Below.refl _ _
theorem InB.below {w w' : World} (h : InB w w') : Below w.heap.size w w' := h
theorem InB.drew {w w' : World} (h : InB w w') : InB w w'.drew := Below.drew h
theorem InB.trans {a b c : World} (h : InB a b) (k : Below b.heap.size b c) : InB a c := Below.trans h (k.mono h.below.size)
section
variable {P : Program} {ops : Array Oper} {C : World → Prop} {Q : Act → Prop} {o : Oper} {rest : List Oper} {a : Act}
structure WQ (P : Program) (ops : Array Oper) (C : World → Prop) (Q : Act → Prop) (l : List Oper) (a : Act) : Prop where
 out : wpQuiet P ops C Q l a
theorem wp_region_below {id : Nat} {Q : Exit → Act → World → Prop} {a : Act} {w : World} {l : List Oper} (hm : P.follows .mixedOrders = true) (hB : Region.lexB .any l.toArray = true)
  (h : WQ P l.toArray (InB w) (fun a' => ∀ w', InB w w' → Q .normal a' w') l a) : (Code.region id l.toArray true).wp P Q a w :=
 wp_region_quiet (C := InB w) hm hB ⟨rfl, rfl, rfl, Nat.le_refl _, fun _ _ => rfl⟩ (by simpa using h.out)
theorem wq_nil (h : Q a) : WQ P ops C Q [] a := ⟨wpQuiet_nil h⟩
theorem wq_skip (hw : Region.wanted o (yielded ops a.tmps) = false) (k : WQ P ops C Q rest (a.put o.dst undef)) : WQ P ops C Q (o :: rest) a := by
 refine ⟨?_⟩
 unfold wpQuiet
 rw [if_neg (by rw [hw]; decide)]
 exact k.out
theorem wq_take {v : Value} (hw : Region.wanted o (yielded ops a.tmps) = true) (h : ∀ w, C w → (execOp a.eval o).run P w = .ok (.value v) w) (k : WQ P ops C Q rest (a.put o.dst v)) : WQ P ops C Q (o :: rest) a := by
 refine ⟨?_⟩
 unfold wpQuiet
 rw [if_pos hw]
 refine ⟨v, fun w hC => ?_, k.out⟩
 unfold Oper.quietAt
 rw [h w hC]
 exact ⟨rfl, rfl⟩
theorem wq_td {v : Value} (k : WQ P ops C Q rest (a.put o.dst v)) (hw : Region.wanted o (yielded ops a.tmps) = true := by kernel_rfl) (h : ∀ w, C w → (execOp a.eval o).run P w = .ok (.value v) w := by intro w hSw; go_simp; first | done | with_reducible rfl) : WQ P ops C Q (o :: rest) a := wq_take hw h k
theorem wq_call {v : Value} {f : FuncId} {args : Array Value} (hw : Region.wanted o (yielded ops a.tmps) = true) (h : ∀ w, C w → (execOp a.eval o).run P w = .ok (.enter f args) w) (hc : ∀ w, C w → Calls P f args w fun e w' => e = .returned v ∧ C w') (k : WQ P ops C Q rest (a.put o.dst v)) : WQ P ops C Q (o :: rest) a := by
 refine ⟨?_⟩
 unfold wpQuiet
 rw [if_pos hw]
 refine ⟨v, fun w hC => ?_, k.out⟩
 unfold Oper.quietAt
 rw [h w hC]
 exact ⟨rfl, hc w hC⟩
end
theorem inB_calls {P : Program} {f : FuncId} {args : Array Value} {W w : World} {v : Value} (hC : InB W w) (h : Calls P f args w fun e w' => e = .returned v ∧ Below w.heap.size w w') : Calls P f args w fun e w' => e = .returned v ∧ InB W w' :=
 h.mono fun _ _ ⟨he, hb⟩ => ⟨he, hC.trans hb⟩
open Go.RowKit
def vecL (v : List Int) : List Value := v.map (Value.int .i64)
def vecR (v : List Int) : Array Value := (vecL v).toArray
abbrev vecA (v : List Int) : Value := .agg (vecR v)
def Vec.zeros : List Int := List.replicate 65 0
theorem Vec.zeros_len : Vec.zeros.length = 65 := List.length_replicate
theorem vecL_len (v : List Int) : (vecL v).length = v.length := List.length_map ..
theorem vecR_size {v : List Int} (h : v.length = 65) : (vecR v).size = 65 := by unfold vecR; rw [List.size_toArray, vecL_len, h]
theorem vecR_get {v : List Int} {i : Nat} {n : Int} (h : v[i]? = some n) : (vecR v)[i]? = some (.int .i64 n) := by
 unfold vecR vecL
 rw [List.getElem?_toArray, List.getElem?_map, h]; rfl
theorem vecR_one (v : List Int) : (vecR v).all (·.oneCell') = true := all_oneCell_toArray (fun u hu => by
 obtain ⟨n, _, rfl⟩ := List.mem_map.1 hu
 rfl)
theorem vecR_set (v : List Int) (i : Nat) (n : Int) : (vecR v).setIfInBounds i (.int .i64 n) = vecR (v.set i n) := by
 unfold vecR vecL
 rw [List.setIfInBounds_toArray, List.map_set]
theorem vecInfo : (Tryz.prog.info? 32).map (fun i => (i.zero, i.size)) = some (some (vecA Vec.zeros), 65) := by kernel_rfl
theorem vecZero (w : World) : (zeroValue 32).run Tryz.prog w = .ok (vecA Vec.zeros) w := (zero_of_info vecInfo).1 w
theorem vecSize {v : List Int} (h : v.length = 65) : (Tryz.prog.info? 32).map (·.size) = some (vecR v).size := by rw [vecR_size h]; exact (zero_of_info vecInfo).2
def VRow (w : World) (b : Nat) (v : List Int) : Prop := Row w b 32 (vecR v) ∧ v.length = 65
section
variable {w w' a : World} {b : Nat} {v : List Int}
theorem VRow.row (h : VRow w b v) : Row w b 32 (vecR v) := h.1
theorem VRow.len (h : VRow w b v) : v.length = 65 := h.2
theorem VRow.inHeap (h : VRow w b v) : b < w.heap.size := h.1.inHeap
theorem VRow.at (h : VRow w b v) {i : Nat} {n : Int} (hn : v[i]? = some n) : w.cell? ⟨b, i, none⟩ = some (.int .i64 n) := by rw [h.1.at, vecR_get hn]
theorem VRow.free (h : VRow w b v) (i : Nat) : w.frozen? ⟨b, i, none⟩ = false := h.1.free i
theorem VRow.made (w : World) (hv : v.length = 65) : VRow (w.alloc (.cells (vecR v) 32)) w.heap.size v := ⟨Row.made w _ _, hv⟩
theorem VRow.stored (h : VRow w b v) (i : Nat) (n : Int) : VRow (w.setCell ⟨b, i, none⟩ (.int .i64 n)) b (v.set i n) := ⟨by have := h.1.stored i (.int .i64 n); rwa [vecR_set] at this, by rw [List.length_set]; exact h.2⟩
theorem VRow.below {B : Nat} (h : VRow w b v) (hb : Below B w w') (hB : b < B) : VRow w' b v := ⟨h.1.below hb hB, h.2⟩
theorem VRow.load (h : VRow w b v) : (Instr.loadAt 32 (.pointer (some ⟨b, 0, none⟩))).run Tryz.prog w = .ok (vecA v) w := by
 simp only [Instr.loadAt, Instr.sureAddr, Sem.run_bind, Sem.run_pure, Result.andThen]
 exact run_loadVar_row _ _ _ _ _ (0, 0) _ h.1 Tryz.underlying32 rfl (vecSize h.2)
theorem VRow.set (h : VRow w b v) (u : List Int) (hu : u.length = 65) : VRow (w.setRow b (vecR u)) b u := by
 have h1 : w.heap[b]? = some (Obj.cells (vecR v) 32 (0, 0)) := h.1
 refine ⟨?_, hu⟩
 show (w.heap.modify b _)[b]? = _
 rw [Array.getElem?_modify, if_pos rfl, h1]
 rfl
theorem VRow.store (h : VRow w b v) {u : List Int} (hu : u.length = 65) : (Instr.storeAt 32 (.pointer (some ⟨b, 0, none⟩)) (vecA u)).run Tryz.prog w = .ok () (w.setRow b (vecR u)) := by
 simp only [Instr.storeAt, Instr.sureAddr, Sem.run_bind, Sem.run_pure, Result.andThen]
 exact run_storeVar_row _ _ _ _ _ _ h.1 (vecSize hu) (by rw [vecR_size h.2, vecR_size hu]) (vecR_one u)
theorem wpList_vload {ops : Array Oper} {rest : List Oper} {op : Oper} {a : Act} {Q : Exit → Act → World → Prop} (hw : Region.wanted op (yielded ops a.tmps) = true) (x : Operand) (ho : op.op = .load 32 x) (hx : a.eval x = .pointer (some ⟨b, 0, none⟩)) (h : VRow w b v)
  (k : wpList Tryz.prog ops Q rest (a.put op.dst (vecA v)) w) : wpList Tryz.prog ops Q (op :: rest) a w := by
 unfold wpList
 rw [if_pos hw]
 refine Or.inl ?_
 have hl := h.load
 unfold Oper.wp execOp
 simp only [ho, hx, Sem.run_bind, hl, Result.andThen_ok]
 exact k
theorem wpList_vstore {ops : Array Oper} {rest : List Oper} {op : Oper} {a : Act} {Q : Exit → Act → World → Prop} (hw : Region.wanted op (yielded ops a.tmps) = true) (x y : Operand) (ho : op.op = .store 32 x y) {u : List Int} (hx : a.eval x = .pointer (some ⟨b, 0, none⟩)) (hy : a.eval y = vecA u) (h : VRow w b v) (hu : u.length = 65)
  (k : wpList Tryz.prog ops Q rest (a.put op.dst undef) (w.setRow b (vecR u))) : wpList Tryz.prog ops Q (op :: rest) a w := by
 unfold wpList
 rw [if_pos hw]
 refine Or.inl ?_
 have hl := h.store hu
 unfold Oper.wp execOp
 simp only [ho, hx, hy, Sem.run_bind, hl, Result.andThen_ok]
 exact k
theorem exec_vload {f : Operand → Value} {op : Oper} {x : Operand} (ho : op.op = .load 32 x) (hx : f x = .pointer (some ⟨b, 0, none⟩)) (h : VRow w b v) : (execOp f op).run Tryz.prog w = .ok (.value (vecA v)) w := by
 have hl := h.load
 unfold execOp
 simp only [ho, hx, Sem.run_bind, hl, Result.andThen_ok]
 rfl
theorem step_vstore {ops : Array Oper} {o : Oper} {a : Act} {K : Act → World → Prop} {Q : Exit → Act → World → Prop} {E : Prop} (x y : Operand) (hgd : o.guard = none) (ho : o.op = .store 32 x y) {u : List Int} (hx : a.eval x = .pointer (some ⟨b, 0, none⟩)) (hy : a.eval y = vecA u) (h : VRow w b v) (hu : u.length = 65)
  (k : K (a.put o.dst undef) (w.setRow b (vecR u))) : if Region.wanted o (yielded ops a.tmps) = true then Oper.wp Tryz.prog o a w K Q else E := by
 rw [if_pos (by simp [Region.wanted, hgd])]
 have hl := h.store hu
 unfold Oper.wp execOp
 simp only [ho, hx, hy, Sem.run_bind, hl, Result.andThen_ok]
 exact k
theorem VRow.grown (h : VRow w b v) (n : Nat) (os : Array Obj) : VRow (Sort.grow (w.drewN n) os) b v := ⟨(Sort.heap_grow_old (w.drewN n) os h.1.inHeap).trans h.1, h.2⟩
theorem VRow.alloc (h : VRow w b v) (o : Obj) : VRow (w.alloc o) b v := ⟨h.1.behindNew o, h.2⟩
theorem VRow.storedElsewhere (h : VRow w b v) {p : Addr} (hp : p.block ≠ b) (u : Value) : VRow (w.setCell p u) b v := ⟨h.1.storedElsewhere hp u, h.2⟩
theorem VRow.setElsewhere (h : VRow w b v) {c : Nat} (hc : c ≠ b) (cs : Array Value) : VRow (w.setRow c cs) b v := by
 refine ⟨?_, h.2⟩
 show (w.heap.modify c _)[b]? = _
 rw [Array.getElem?_modify, if_neg hc]
 exact h.1
theorem Laid.drew (h : Laid a w) : Laid a w.drew := by
 obtain ⟨q, os, rfl⟩ := h
 exact ⟨q + 1, os, rfl⟩
theorem Laid.alloc (h : Laid a w) (o : Obj) : Laid a (w.alloc o) := h.trans (Laid.new w o)
theorem Laid.size (h : Laid a w) : a.heap.size ≤ w.heap.size := h.below.size
theorem Laid.grown (h : Laid a w) (n : Nat) (os : Array Obj) : Laid a (Sort.grow (w.drewN n) os) := h.trans ⟨n, os, rfl⟩
theorem Laid.heap (h : Laid a w) (f : Array Obj → Array Obj) (hf : ∀ os : Array Obj, ∃ os', f (a.heap ++ os) = a.heap ++ os') : Laid a { w with heap := f w.heap } := by
 obtain ⟨q, os, rfl⟩ := h
 obtain ⟨os', e⟩ := hf os
 exact ⟨q, os', by show { Sort.grow (a.drewN q) os with heap := f (a.heap ++ os) } = _; rw [e]; rfl⟩
theorem Laid.stored (h : Laid a w) {p : Addr} (hp : a.heap.size ≤ p.block) (u : Value) : Laid a (w.setCell p u) :=
 h.heap (fun hp => hp.modify p.block _) (fun os => ⟨_, Sort.modify_append_right a.heap os p.block _ hp⟩)
theorem Laid.set (h : Laid a w) {b : Nat} (hb : a.heap.size ≤ b) (cs : Array Value) : Laid a (w.setRow b cs) :=
 h.heap (fun hp => hp.modify b _) (fun os => ⟨_, Sort.modify_append_right a.heap os b _ hb⟩)
end
theorem vec_index {v : List Int} {k : Nat} {n : Int} (hk : k < 65) (hn : v[k]? = some n) (w : World) : (Instr.index 32 (vecA v) (.int .i64 (k : Int))).run Tryz.prog w = .ok (.int .i64 n) w := by
 have hu := Tryz.underlying32
 have ha := Tryz.isAgg3
 have hs := Tryz.sizeOf3
 have hg : (vecR v)[k]? = some (.int .i64 n) := vecR_get hn
 have h1 : (0 : Int) ≤ (k : Int) ∧ (k : Int) < 65 := by omega
 simp [Instr.index, run_underlying hu, asIntOf, h1, go_sem, ha, hs, part, hg]
 intro h
 omega
theorem vec_addr {k : Nat} (hk : k < 65) (b : Nat) (w : World) : (Instr.indexAt 32 (.pointer (some ⟨b, 0, none⟩)) (.int .i64 (k : Int))).run Tryz.prog w = .ok (.pointer (some ⟨b, k, none⟩)) w := by
 have hu := Tryz.underlying32
 have hs := Tryz.sizeOf3
 have h1 : (0 : Int) ≤ (k : Int) ∧ (k : Int) < 65 := by omega
 simp [Instr.indexAt, Instr.sureAddr, run_underlying hu, asIntOf, h1, go_sem, hs, Addr.add]
 rw [if_pos hk]
 by_cases h0 : k = 0
 ·subst h0; rfl
 ·rw [if_neg h0]
theorem wq_vload {ops : Array Oper} {rest : List Oper} {op : Oper} {a : Act} {C : World → Prop} {Q : Act → Prop} {b : Nat} {v : List Int} (hw : Region.wanted op (yielded ops a.tmps) = true) (x : Operand) (ho : op.op = .load 32 x) (hx : a.eval x = .pointer (some ⟨b, 0, none⟩)) (h : ∀ w, C w → VRow w b v)
  (k : WQ Tryz.prog ops C Q rest (a.put op.dst (vecA v))) : WQ Tryz.prog ops C Q (op :: rest) a :=
 wq_take hw (fun w hC => exec_vload ho hx (h w hC)) k
theorem inB_laid {P : Program} {f : FuncId} {args : Array Value} {W w : World} {v : Value} (hC : InB W w) (h : Calls P f args w fun e w' => e = .returned v ∧ Laid w w') : Calls P f args w fun e w' => e = .returned v ∧ InB W w' :=
 h.mono fun _ _ ⟨he, hb⟩ => ⟨he, hC.trans hb.below⟩
theorem VRow.inB {w w' : World} {b : Nat} {v : List Int} (h : VRow w b v) (k : InB w w') : VRow w' b v := h.below k.below h.inHeap
structure VecOk : Prop where
 clean : ∀ {w : World} {v : List Int}, v.length = 65 → Calls Tryz.prog 266 #[vecA v] w fun e w' => e = .returned (vecA (Vec.clean v)) ∧ Laid w w'
 has : ∀ {w : World} {v : List Int} (x : Ver.V), v.length = 65 → Ver.Bd x → Calls Tryz.prog 100 #[vecA v, verA x] w fun e w' => e = .returned (.bool (decide (Vec.Has v x))) ∧ Laid w w'
 ofl : ∀ {w : World} {F : Nat → Prop} {s : Value} {l : List Ver.V}, Vrs w F s l → l.length ≤ 1000000 → (∀ x ∈ l, Ver.Bd x) → Calls Tryz.prog 81 #[s] w fun e w' => e = .returned (vecA (Vec.ofl l)) ∧ Laid w w'
 join : ∀ {w : World} {a b : List Int}, a.length = 65 → b.length = 65 → Calls Tryz.prog 284 #[vecA a, vecA b] w fun e w' => e = .returned (vecA (Vec.join a b)) ∧ Laid w w'
 covers : ∀ {w : World} {a b : List Int}, a.length = 65 → b.length = 65 → Calls Tryz.prog 343 #[vecA a, vecA b] w fun e w' => e = .returned (.bool (decide (Vec.Covers a b))) ∧ Laid w w'
 ends : ∀ {w : World} {v : List Int}, v.length = 65 → Calls Tryz.prog 267 #[vecA v] w fun e w' => ∃ s, e = .returned s ∧ Vrs w' (NewIn w w') s (Vec.ends v) ∧ Below w.heap.size w w'
section
variable {P : Program} {Q : Exit → Act → World → Prop} {md : Region.Mode}
theorem wpAny_fuel {ops : Array Oper} : ∀ (k fuel : Nat) (listed : Array Bool) (a : Act) (w : World), wpAny P md ops Q fuel listed a w → wpAny P md ops Q (fuel + k) listed a w := by
 intro k fuel
 induction fuel with
 | zero =>
  intro listed a w h
  cases k with
  | zero => exact h
  | succ k =>
   rw [Nat.zero_add]
   exact ⟨fun _ => h.2, fun i hi => by rw [h.1] at hi; cases hi⟩
 | succ fuel ih =>
  intro listed a w h
  rw [show fuel + 1 + k = (fuel + k) + 1 by omega]
  exact ⟨h.1, fun i hi => wpOp_mono (fun a w h => ih _ a w h) (h.2 i hi)⟩
def Tail (P : Program) (md : Region.Mode) (ops : Array Oper) (Q : Exit → Act → World → Prop) (m : Nat) (listed : Array Bool) : Exit → Act → World → Prop
 | .normal, a, w => wpAny P md ops Q m listed a w
 | e, a, w => Q e a w
theorem Oper.wp_tail {o : Oper} {a : Act} {w : World} {K K' : Act → World → Prop} {Q' : Exit → Act → World → Prop} (h : ∀ a w, K a w → K' a w) (hQ : ∀ e a w, e ≠ .normal → Q' e a w → Q e a w)
  (hh : o.wp P a w K Q') : o.wp P a w K' Q := by
 unfold Oper.wp at *
 generalize (execOp a.eval o).run P w = r at *
 cases r with
 | ok n w' =>
  cases n <;> simp only [Oper.upon] at hh ⊢
  ·exact h _ _ hh
  ·exact h _ _ hh
  ·refine Calls.mono hh (fun e w'' he => ?_)
   cases e with
   | returned v => exact h _ _ he
   | panicked c => exact hQ _ _ _ (by simp) he
   | outgrown => exact he.imp fun a ha => ha.imp fun w hw => hQ _ _ _ (by simp) hw
  ·exact h _ _ hh
  ·exact Rows.mono hh (fun _ _ he => h _ _ he)
 | halt x w' =>
  cases x <;> simp only [Oper.upon] at hh ⊢
  exact hQ _ _ _ (by simp) hh
def waits (md : Region.Mode) (ops : Array Oper) : Nat → Nat → Nat → Bool
 | 0, _, _ => false
 | f + 1, i, j => match ops[i]? with
  | none => false
  | some o => (o.after.any fun e => Region.binds md e && e.on == j) || o.after.any fun e => Region.binds md e && waits md ops f e.on j
def Clos (md : Region.Mode) (ops : Array Oper) (L : Array Bool) : Prop := ∀ (i : Nat) (o : Oper), ops[i]? = some o → L.getD i false = true → ∀ e ∈ o.after, Region.binds md e = true → L.getD e.on false = true
theorem waits_listed {ops : Array Oper} {L : Array Bool} (hc : Clos md ops L) : ∀ (f i j : Nat), (∀ o, ops[i]? = some o → ∀ e ∈ o.after, Region.binds md e = true → L.getD e.on false = true) → waits md ops f i j = true → L.getD j false = true
 | 0, _, _, _, h => by cases h
 | f + 1, i, j, hi, h => by
  unfold waits at h
  cases ho : ops[i]? with
  | none => rw [ho] at h; cases h
  | some o =>
   rw [ho] at h
   simp only at h
   rw [Bool.or_eq_true] at h
   rcases h with h | h
   ·rw [← Array.any_toList, List.any_eq_true] at h
    obtain ⟨e, he, hb⟩ := h
    simp only [Bool.and_eq_true, beq_iff_eq] at hb
    have hl := hi o ho e (Array.mem_toList_iff.1 he) hb.1
    rwa [hb.2] at hl
   ·rw [← Array.any_toList, List.any_eq_true] at h
    obtain ⟨e, he, hb⟩ := h
    simp only [Bool.and_eq_true] at hb
    have hl := hi o ho e (Array.mem_toList_iff.1 he) hb.1
    exact waits_listed hc f e.on j (fun o' ho' => hc e.on o' ho' hl) hb.2
theorem getD_set_true (L : Array Bool) (i k : Nat) (h : L.getD k false = true) : (L.setIfInBounds i true).getD k false = true := by
 rw [Array.getD_eq_getD_getElem?] at h ⊢
 rw [Array.getElem?_setIfInBounds]
 split
 ·split
  ·rfl
  ·rename_i h1 h2
   subst h1
   rw [Array.getElem?_eq_none (by omega)] at h
   cases h
 ·exact h
theorem Clos.set {ops : Array Oper} {L : Array Bool} (hc : Clos md ops L) {i : Nat} (hi : ∀ o, ops[i]? = some o → ∀ e ∈ o.after, Region.binds md e = true → L.getD e.on false = true) : Clos md ops (L.setIfInBounds i true) := by
 intro k o ho hk e he hb
 refine getD_set_true L i e.on ?_
 by_cases hki : k = i
 ·subst hki
  exact hi o ho e he hb
 ·refine hc k o ho ?_ e he hb
  rw [Array.getD_eq_getD_getElem?] at hk ⊢
  rwa [Array.getElem?_setIfInBounds, if_neg (fun e => hki e.symm)] at hk
def tailOk (md : Region.Mode) (ops : Array Oper) (n : Nat) : Bool :=
 decide (n ≤ ops.size) && (List.range ops.size).all fun i => match ops[i]? with
  | none => true
  | some o => if i < n then (o.after.all fun e => !Region.binds md e || decide (e.on < i)) && (match o.guard with | none => true | some (j, _) => decide (j < n))
   else (o.after.any fun e => Region.binds md e && decide (n ≤ e.on) && decide (e.on < ops.size)) || (List.range n).all fun j => waits md ops n i j
theorem tailOk_spec {ops : Array Oper} {n : Nat} (h : tailOk md ops n = true) : n ≤ ops.size ∧
  (∀ i o, ops[i]? = some o → i < n → (∀ e ∈ o.after, Region.binds md e = true → e.on < i) ∧ ∀ j b, o.guard = some (j, b) → j < n) ∧
  (∀ i o, ops[i]? = some o → n ≤ i → (∃ e ∈ o.after, Region.binds md e = true ∧ n ≤ e.on ∧ e.on < ops.size) ∨ ∀ j, j < n → waits md ops n i j = true) := by
 unfold tailOk at h
 rw [Bool.and_eq_true, List.all_eq_true] at h
 obtain ⟨h1, h2⟩ := h
 refine ⟨of_decide_eq_true h1, fun i o ho hi => ?_, fun i o ho hi => ?_⟩
 ·have hlt : i < ops.size := (Array.getElem?_eq_some_iff.1 ho).1
  have := h2 i (List.mem_range.2 hlt)
  simp only [ho, if_pos hi, Bool.and_eq_true] at this
  obtain ⟨ha, hg⟩ := this
  refine ⟨fun e he hb => ?_, fun j b hjb => ?_⟩
  ·have := Array.all_eq_true_iff_forall_mem.1 ha e he
   simp only [hb, Bool.not_true, Bool.false_or] at this
   exact of_decide_eq_true this
  ·rw [hjb] at hg
   exact of_decide_eq_true hg
 ·have hlt : i < ops.size := (Array.getElem?_eq_some_iff.1 ho).1
  have := h2 i (List.mem_range.2 hlt)
  simp only [ho, if_neg (Nat.not_lt.2 hi), Bool.or_eq_true] at this
  rcases this with this | this
  ·rw [← Array.any_toList, List.any_eq_true] at this
   obtain ⟨e, he, hb⟩ := this
   simp only [Bool.and_eq_true, decide_eq_true_eq] at hb
   exact Or.inl ⟨e, Array.mem_toList_iff.1 he, hb.1.1, hb.1.2, hb.2⟩
  refine Or.inr (fun j hj => ?_)
  exact List.all_eq_true.1 this j (List.mem_range.2 hj)
theorem mask_get (l : Array Bool) (m : Nat) (j : Nat) (d : Bool) (h : j < l.size) : (l ++ Array.replicate m false).getD j d = l.getD j d := by
 simp only [Array.getD_eq_getD_getElem?]
 rw [Array.getElem?_append_left h]
theorem mask_set (l : Array Bool) (m : Nat) (j : Nat) (h : j < l.size) : (l ++ Array.replicate m false).setIfInBounds j true = l.setIfInBounds j true ++ Array.replicate m false := by
 rw [Array.setIfInBounds_append, if_pos h]
theorem take_get {ops : Array Oper} {n i : Nat} (hi : i < n) : (ops.extract 0 n)[i]? = ops[i]? := by
 rw [Array.getElem?_extract]
 by_cases h : i < ops.size
 ·rw [if_pos (by omega), Nat.zero_add]
 ·rw [if_neg (by omega), Array.getElem?_eq_none (by omega)]
theorem wpAny_tail {ops : Array Oper} {n : Nat} (hok : tailOk md ops n = true) : ∀ (fuel : Nat) (listed : Array Bool) (a : Act) (w : World), listed.size = n → Clos md ops (listed ++ Array.replicate (ops.size - n) false) →
  wpAny P md (ops.extract 0 n) (Tail P md ops Q (ops.size - n) (Array.replicate n true ++ Array.replicate (ops.size - n) false)) fuel listed a w →
  wpAny P md ops Q (fuel + (ops.size - n)) (listed ++ Array.replicate (ops.size - n) false) a w := by
 obtain ⟨hn, hhd, htl⟩ := tailOk_spec hok
 have hsz : (ops.extract 0 n).size = n := by simp; omega
 -- what may come up of the first ones is what may come up of all
 have ready : ∀ listed : Array Bool, listed.size = n → ∀ i, i < n → (i ∈ Region.ready md ops (listed ++ Array.replicate (ops.size - n) false) ↔ i ∈ Region.ready md (ops.extract 0 n) listed) := by
  intro listed hl i hi
  rw [mem_ready, mem_ready, take_get hi, mask_get _ _ _ _ (by omega)]
  constructor
  ·rintro ⟨h0, o, ho, ha⟩
   refine ⟨h0, o, ho, fun e he hb => ?_⟩
   have := ha e he hb
   rwa [mask_get _ _ _ _ (by have := (hhd i o ho hi).1 e he hb; omega)] at this
  ·rintro ⟨h0, o, ho, ha⟩
   refine ⟨h0, o, ho, fun e he hb => ?_⟩
   rw [mask_get _ _ _ _ (by have := (hhd i o ho hi).1 e he hb; omega)]
   exact ha e he hb
 -- if none may come up, all have
 have full : ∀ listed : Array Bool, listed.size = n → Region.ready md (ops.extract 0 n) listed = [] → ∀ i, i < n → listed.getD i true = true := by
  intro listed hl hr i
  induction i using Nat.strongRecOn with
  | _ i ih =>
   intro hi
   cases hv : listed.getD i true with
   | true => rfl
   | false =>
    obtain ⟨o, ho⟩ : ∃ o, ops[i]? = some o := ⟨_, Array.getElem?_eq_getElem (by omega)⟩
    have : i ∈ Region.ready md (ops.extract 0 n) listed := mem_ready.2 ⟨hv, o, by rw [take_get hi]; exact ho, fun e he hb => by
     have hlt := (hhd i o ho hi).1 e he hb
     have := ih e.on hlt (by omega)
     rw [Array.getD_eq_getD_getElem?] at this ⊢
     rw [Array.getElem?_eq_getElem (by omega)] at this ⊢
     exact this⟩
    rw [hr] at this; cases this
 -- while one of the first ones may come up, none of the last ones may
 have late : ∀ listed : Array Bool, listed.size = n → Clos md ops (listed ++ Array.replicate (ops.size - n) false) → ∀ i, i ∈ Region.ready md ops (listed ++ Array.replicate (ops.size - n) false) → n ≤ i → Region.ready md (ops.extract 0 n) listed = [] := by
  intro listed hl hcl i hi hni
  obtain ⟨h0, o, ho, ha⟩ := mem_ready.1 hi
  rw [List.eq_nil_iff_forall_not_mem]
  intro j hj
  obtain ⟨hj0, oj, hoj, _⟩ := mem_ready.1 hj
  have hjn : j < n := by have := (Array.getElem?_eq_some_iff.1 hoj).1; omega
  rcases htl i o ho hni with ⟨e, he, hb, h1, h2⟩ | htl
  ·have := ha e he hb
   rw [Array.getD_eq_getD_getElem?, Array.getElem?_append_right (by omega), Array.getElem?_replicate, if_pos (by omega)] at this
   cases this
  have := waits_listed hcl n i j (fun o' ho' => by rw [ho] at ho'; injection ho' with ho'; subst ho'; exact ha) (htl j hjn)
  rw [mask_get _ _ _ _ (by omega), Array.getD_eq_getD_getElem?, Array.getElem?_eq_getElem (by omega)] at this
  rw [Array.getD_eq_getD_getElem?, Array.getElem?_eq_getElem (by omega)] at hj0
  simp only [Option.getD_some] at this hj0
  rw [this] at hj0; cases hj0
 have allSet : ∀ listed : Array Bool, listed.size = n → Region.ready md (ops.extract 0 n) listed = [] → listed = Array.replicate n true := by
  intro listed hl hr
  apply Array.ext
  ·simp [hl]
  ·intro i h1 h2
   have := full listed hl hr i (by omega)
   rw [Array.getD_eq_getD_getElem?, Array.getElem?_eq_getElem h1] at this
   simpa using this
 intro fuel
 induction fuel with
 | zero =>
  intro listed a w hl hcl h
  rw [Nat.zero_add, allSet listed hl h.1]
  exact h.2
 | succ fuel ih =>
  intro listed a w hl hcl h
  by_cases hr : Region.ready md (ops.extract 0 n) listed = []
  ·rw [allSet listed hl hr, Nat.add_comm]
   exact wpAny_fuel _ _ _ _ _ (h.1 hr)
  ·rw [show fuel + 1 + (ops.size - n) = (fuel + (ops.size - n)) + 1 by omega]
   have hin : ∀ i, i ∈ Region.ready md ops (listed ++ Array.replicate (ops.size - n) false) → i < n := fun i hi => by
    rcases Nat.lt_or_ge i n with hlt | hge
    ·exact hlt
    ·exact absurd (late listed hl hcl i hi hge) hr
   refine ⟨fun h0 => ?_, fun i hi => ?_⟩
   ·exfalso
    obtain ⟨i, hi⟩ := List.exists_mem_of_ne_nil _ hr
    have hlt : i < n := by
     obtain ⟨_, o, ho, _⟩ := mem_ready.1 hi
     have := (Array.getElem?_eq_some_iff.1 ho).1
     omega
    have := (ready listed hl i hlt).2 hi
    rw [h0] at this; cases this
   ·have hlt := hin i hi
    have h2 := h.2 i ((ready listed hl i hlt).1 hi)
    obtain ⟨o, ho⟩ : ∃ o, ops[i]? = some o := ⟨_, Array.getElem?_eq_getElem (by omega)⟩
    have hK : ∀ a w, wpAny P md (ops.extract 0 n) (Tail P md ops Q (ops.size - n) (Array.replicate n true ++ Array.replicate (ops.size - n) false)) fuel (listed.setIfInBounds i true) a w →
      wpAny P md ops Q (fuel + (ops.size - n)) ((listed ++ Array.replicate (ops.size - n) false).setIfInBounds i true) a w := fun a w hw => by
     rw [mask_set _ _ _ (by omega)]
     exact ih _ a w (by simpa using hl) (by rw [← mask_set _ _ _ (by omega)]; exact hcl.set (fun o' ho' => by obtain ⟨_, o2, ho2, ha2⟩ := mem_ready.1 hi; rw [ho2] at ho'; injection ho' with ho'; subst ho'; exact ha2)) hw
    have hy : Region.wanted o (yielded ops a.tmps) = Region.wanted o (yielded (ops.extract 0 n) a.tmps) := by
     unfold Region.wanted
     cases hg : o.guard with
     | none => rfl
     | some g =>
      obtain ⟨j, b⟩ := g
      have hj := (hhd i o ho hlt).2 j b hg
      simp only [yielded, take_get hj]
    unfold wpOp at h2 ⊢
    rw [take_get hlt] at h2
    simp only [ho] at h2 ⊢
    rw [hy]
    split
    ·rename_i hw
     simp only [hw, if_true] at h2
     rcases h2 with h2 | ⟨h2, a', w', h3⟩
     ·exact .inl (Oper.wp_tail hK (fun e a w hne he => by cases e <;> first | exact absurd rfl hne | exact he) h2)
     ·exact .inr ⟨h2, a', w', h3⟩
    ·rename_i hw
     simp only [hw] at h2
     exact hK _ _ h2
theorem wp_region_tail {ops hd : Array Oper} {id n : Nat} {a : Act} {w : World} {S : World → Prop} (hm : P.follows .mixedOrders = true) (hok : tailOk .any ops n = true) (hhd : ops.extract 0 n = hd) (hS : S w.drew)
  (h : S w.drew → wpAnyH P .any hd (Tail P .any ops Q (ops.size - n) (Array.replicate n true ++ Array.replicate (ops.size - n) false)) S n (Array.replicate n false) a w.drew) : (Code.region id ops true).wp P Q a w := by
 subst hhd
 refine wp_region_any hm ?_
 have h1 := wpAny_tail hok n (Array.replicate n false) a w.drew (by simp) (fun i o _ hi => by
  rw [Array.getD_eq_getD_getElem?, Array.replicate_append_replicate, Array.getElem?_replicate] at hi
  split at hi <;> cases hi) (wpAny_of_held _ _ _ _ (h hS))
 have hn := (tailOk_spec hok).1
 have e1 : n + (ops.size - n) = ops.size := by omega
 have e2 : Array.replicate n false ++ Array.replicate (ops.size - n) false = Array.replicate ops.size false := by
  rw [Array.replicate_append_replicate, e1]
 rw [e1, e2] at h1
 exact h1
end
theorem wpAnyH_tk {P : Program} {md : Region.Mode} {ops : Array Oper} {Q : Exit → Act → World → Prop} {S : World → Prop} {i : Nat} {oi : Oper} {v : Value} {fuel : Nat} {listed : Array Bool} {a : Act} {w : World} (hi : ops[i]? = some oi)
    (hy : YieldsIf P ops S oi v a) (hS : S w) (h : wpAnyH P md ops Q S fuel (listed.setIfInBounds i true) (a.put oi.dst v) w)
    (hs : Region.noSelect ops = true := by kernel_rfl) (hf : Region.free md ops listed i = true := by kernel_rfl) (hr : (Region.ready md ops listed).contains i = true := by kernel_rfl) (hQ : ∀ c a w, Q (.panic c) (a.put oi.dst v) w → Q (.panic c) a w := by exact fun _ _ _ h => h) : wpAnyH P md ops Q S (fuel + 1) listed a w := wpAnyH_take hi hs hf hr hQ hy hS h
theorem wpAnyH_td {P : Program} {md : Region.Mode} {ops : Array Oper} {Q : Exit → Act → World → Prop} {S : World → Prop} {i : Nat} {oi : Oper} {v : Value} {fuel : Nat} {listed : Array Bool} {a : Act} {w : World} (hi : ops[i]? = some oi)
    (h : wpAnyH P md ops Q S fuel (listed.setIfInBounds i true) (a.put oi.dst v) w)
    (hs : Region.noSelect ops = true := by kernel_rfl) (hf : Region.free md ops listed i = true := by kernel_rfl) (hr : (Region.ready md ops listed).contains i = true := by kernel_rfl) (hQ : ∀ c a w, Q (.panic c) (a.put oi.dst v) w → Q (.panic c) a w := by exact fun _ _ _ h => h)
    (hw : Region.wanted oi (yielded ops a.tmps) = true := by rfl) (hv : ∀ w, S w → (execOp a.eval oi).run P w = .ok (.value v) w := by intro w hSw; go_simp; try with_reducible rfl) (hS : S w := by assumption) : wpAnyH P md ops Q S (fuel + 1) listed a w := wpAnyH_take hi hs hf hr hQ (Or.inl ⟨hw, hv⟩) hS h
end Go.Proofs.YtpafpegcodempaaGreat
