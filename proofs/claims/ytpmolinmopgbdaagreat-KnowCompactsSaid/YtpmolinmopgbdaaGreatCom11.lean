import Derived.Test.YtpmolinmopgbdaaGreatCom8
import Derived.Test.YtpmolinmopgbdaaGreatCom10
import Derived.Test.YtpmolinmopgbdaaGreatCom5
import Derived.Great.BuildSlice
set_option maxRecDepth 100000
set_option linter.unusedVariables false
set_option linter.unusedSimpArgs false
set_option maxHeartbeats 12800000
namespace Go.Proofs.YtpmolinmopgbdaaGreat
open Go.RowKit
structure Lies (ty : TypeId) (w : World) (b o : Nat) (cs : List Value) : Prop where
 at_ : w.rangeAt b o cs
 row : ∃ d, Tryz.prog.underlying ty = some d ∧ d.isRow = true
 size : (Tryz.prog.info? ty).map (·.size) = some cs.length
section
variable {w w' : World} {b o : Nat} {cs : List Value} {ty : TypeId}
theorem Lies.run (h : Lies ty w b o cs) : (Instr.loadAt ty (.pointer (some ⟨b, o, none⟩))).run Tryz.prog w = .ok (.agg cs.toArray) w := by
 obtain ⟨d, hu, hd⟩ := h.row
 simp only [Instr.loadAt, Instr.sureAddr, Sem.run_bind, Sem.run_pure, Result.andThen_ok, run_loadVar_mid w b o ty cs d h.at_ hu hd h.size]
theorem wpList_mload {ops : Array Oper} {rest : List Oper} {op : Oper} {a : Act} {Q : Exit → Act → World → Prop} (hw : Region.wanted op (yielded ops a.tmps) = true) (x : Operand) (ho : op.op = .load ty x) (hx : a.eval x = .pointer (some ⟨b, o, none⟩)) (h : Lies ty w b o cs)
  (k : wpList Tryz.prog ops Q rest (a.put op.dst (.agg cs.toArray)) w) : wpList Tryz.prog ops Q (op :: rest) a w := by
 unfold wpList
 rw [if_pos hw]
 refine Or.inl ?_
 have hl := h.run
 unfold Oper.wp execOp
 simp only [ho, hx, Sem.run_bind, hl, Result.andThen_ok]
 exact k
theorem exec_mload {f : Operand → Value} {op : Oper} {x : Operand} (ho : op.op = .load ty x) (hx : f x = .pointer (some ⟨b, o, none⟩)) (h : Lies ty w b o cs) : (execOp f op).run Tryz.prog w = .ok (.value (.agg cs.toArray)) w := by
 have hl := h.run
 unfold execOp
 simp only [ho, hx, Sem.run_bind, hl, Result.andThen_ok]
 rfl
theorem wq_mload {ops : Array Oper} {rest : List Oper} {op : Oper} {a : Act} {C : World → Prop} {Q : Act → Prop} (hw : Region.wanted op (yielded ops a.tmps) = true) (x : Operand) (ho : op.op = .load ty x) (hx : a.eval x = .pointer (some ⟨b, o, none⟩)) (h : ∀ w, C w → Lies ty w b o cs)
  (k : WQ Tryz.prog ops C Q rest (a.put op.dst (.agg cs.toArray))) : WQ Tryz.prog ops C Q (op :: rest) a :=
 wq_take hw (fun w hC => exec_mload ho hx (h w hC)) k
theorem Lies.below {B : Nat} (h : Lies ty w b o cs) (hb : Below B w w') (hB : b < B) : Lies ty w' b o cs := ⟨fun j v hv => (hb.cell (p := ⟨b, o + j, none⟩) hB).trans (h.at_ j v hv), h.row, h.size⟩
theorem Lies.inB (h : Lies ty w b o cs) (hb : b < w.heap.size) (k : InB w w') : Lies ty w' b o cs := h.below k.below hb
theorem setRow_alloc (w : World) (old cs : Array Value) (t : TypeId) : (w.alloc (.cells old t)).setRow w.heap.size cs = w.alloc (.cells cs t) := by
 unfold World.setRow World.alloc
 congr 1
 apply Array.ext_getElem?
 intro i
 rw [Array.getElem?_modify]
 by_cases h : w.heap.size = i
 ·subst h
  simp
 ·rw [if_neg h]
  rw [Array.getElem?_push, Array.getElem?_push]
  rw [if_neg (fun e => h e.symm), if_neg (fun e => h e.symm)]
theorem wpList_nstore {ops : Array Oper} {rest : List Oper} {op : Oper} {a : Act} {Q : Exit → Act → World → Prop} {old : Array Value} {t : TypeId} (hw : Region.wanted op (yielded ops a.tmps) = true) (x y : Operand) (ho : op.op = .store ty x y) (hx : a.eval x = .pointer (some ⟨w.heap.size, 0, none⟩)) (hy : a.eval y = .agg cs.toArray)
  (hi : (Tryz.prog.info? ty).map (·.size) = some cs.length) (hs : old.size = cs.length) (h1 : ∀ u ∈ cs, u.oneCell' = true)
  (k : wpList Tryz.prog ops Q rest (a.put op.dst undef) (w.alloc (.cells cs.toArray t))) : wpList Tryz.prog ops Q (op :: rest) a (w.alloc (.cells old t)) := by
 unfold wpList
 rw [if_pos hw]
 refine Or.inl ?_
 have hrow : (w.alloc (.cells old t)).heap[w.heap.size]? = some (.cells old t (0, 0)) := Row.made w t old
 have hl : (Instr.storeAt ty (.pointer (some ⟨w.heap.size, 0, none⟩)) (.agg cs.toArray)).run Tryz.prog (w.alloc (.cells old t)) = .ok () (w.alloc (.cells cs.toArray t)) := by
  simp only [Instr.storeAt, Instr.sureAddr, Sem.run_bind, Sem.run_pure, Result.andThen_ok]
  rw [run_storeVar_row (P := Tryz.prog) _ w.heap.size t ty old cs.toArray hrow (by simpa using hi) (by simpa using hs) (all_oneCell_toArray h1), setRow_alloc]
 unfold Oper.wp execOp
 simp only [ho, hx, hy, Sem.run_bind, hl, Result.andThen_ok]
 exact k
theorem wpList_mstore {ops : Array Oper} {rest : List Oper} {op : Oper} {a : Act} {Q : Exit → Act → World → Prop} (hw : Region.wanted op (yielded ops a.tmps) = true) (x y : Operand) (ho : op.op = .store ty x y) (hx : a.eval x = .pointer (some ⟨b, o, none⟩)) (hy : a.eval y = .agg cs.toArray)
  (ht : w.there b o cs.length) (hi : (Tryz.prog.info? ty).map (·.size) = some cs.length) (h1 : ∀ u ∈ cs, u.oneCell' = true)
  (k : wpList Tryz.prog ops Q rest (a.put op.dst undef) (w.setCells b o cs)) : wpList Tryz.prog ops Q (op :: rest) a w := by
 unfold wpList
 rw [if_pos hw]
 refine Or.inl ?_
 have hl := run_storeAt_mid (P := Tryz.prog) w b o ty cs.toArray (by simpa using ht) (by simpa using hi) (all_oneCell_toArray h1)
 unfold Oper.wp execOp
 simp only [ho, hx, hy, Sem.run_bind, hl, Result.andThen_ok]
 exact k
theorem step_mstore {ops : Array Oper} {o' : Oper} {a : Act} {K : Act → World → Prop} {Q : Exit → Act → World → Prop} {E : Prop} (x y : Operand) (hgd : o'.guard = none) (ho : o'.op = .store ty x y) (hx : a.eval x = .pointer (some ⟨b, o, none⟩)) (hy : a.eval y = .agg cs.toArray)
  (ht : w.there b o cs.length) (hi : (Tryz.prog.info? ty).map (·.size) = some cs.length) (h1 : ∀ u ∈ cs, u.oneCell' = true)
  (k : K (a.put o'.dst undef) (w.setCells b o cs)) : if Region.wanted o' (yielded ops a.tmps) = true then Oper.wp Tryz.prog o' a w K Q else E := by
 rw [if_pos (by simp [Region.wanted, hgd])]
 have hl := run_storeAt_mid (P := Tryz.prog) w b o ty cs.toArray (by simpa using ht) (by simpa using hi) (all_oneCell_toArray h1)
 unfold Oper.wp execOp
 simp only [ho, hx, hy, Sem.run_bind, hl, Result.andThen_ok]
 exact k
end
def frZ : RFr := ⟨.slice none 0 0, .slice none 0 0, ⟨[], Vec.zeros, []⟩⟩
def itZ : Know.It := ⟨⟨0, 0⟩, Vec.zeros⟩
theorem frInfo : (Tryz.prog.info? 42).map (fun i => (i.zero, i.size, i.bytes)) = some (some (frA frZ), 67, 568) := by kernel_rfl
theorem itInfo : (Tryz.prog.info? 50).map (fun i => (i.zero, i.size, i.bytes)) = some (some (itA itZ), 67, 536) := by kernel_rfl
theorem frZero (w : World) : (zeroValue 42).run Tryz.prog w = .ok (frA frZ) w := by
 obtain ⟨i0, hi0, hz0, -, -⟩ := ver_parts frInfo
 simp [zeroValue, typeInfo, hi0, hz0]
theorem itZero (w : World) : (zeroValue 50).run Tryz.prog w = .ok (itA itZ) w := by
 obtain ⟨i0, hi0, hz0, -, -⟩ := ver_parts itInfo
 simp [zeroValue, typeInfo, hi0, hz0]
theorem frSize {r : RFr} (h : r.x.v.length = 65) : (Tryz.prog.info? 42).map (·.size) = some (rfV r).length := by
 obtain ⟨i0, hi0, -, hz1, -⟩ := ver_parts frInfo
 rw [rf_len h, hi0, Option.map_some, hz1]
theorem itSize {i : Know.It} (h : i.v.length = 65) : (Tryz.prog.info? 50).map (·.size) = some (itV i).length := by
 obtain ⟨i0, hi0, -, hz1, -⟩ := ver_parts itInfo
 rw [it_len h, hi0, Option.map_some, hz1]
theorem vecSizeL {v : List Int} (h : v.length = 65) : (Tryz.prog.info? 39).map (·.size) = some (vecL v).length := by
 have := vecSize h
 rwa [vecR_size h, ← h, ← vecL_len] at this
theorem frZ_size : (rfV frZ).toArray.size = 67 := by rw [List.size_toArray, rf_len Vec.zeros_len]
theorem itZ_size : (itV itZ).toArray.size = 67 := by rw [List.size_toArray, it_len Vec.zeros_len]
section
variable {w w' : World} {b o : Nat} {r : RFr} {i : Know.It} {F G : Nat → Prop} {v : Value}
theorem lies_vec {n : Nat} {l : List Value} {x : List Int} (hx : x.length = 65) (h : w.rangeAt b o l) (hl : ∀ j u, (vecL x)[j]? = some u → l[n + j]? = some u) : Lies 39 w b (o + n) (vecL x) :=
 ⟨fun j u hu => by rw [Nat.add_assoc]; exact h _ _ (hl j u hu), ⟨_, Tryz.underlying39, rfl⟩, vecSizeL hx⟩
theorem rf_vec (r : RFr) (j : Nat) (u : Value) (h : (vecL r.x.v)[j]? = some u) : (rfV r)[1 + j]? = some u := by
 unfold rfV
 rw [Nat.add_comm, List.getElem?_cons_succ, List.getElem?_append_left (by obtain ⟨h, _⟩ := List.getElem?_eq_some_iff.1 h; exact h)]
 exact h
theorem it_vec (i : Know.It) (j : Nat) (u : Value) (h : (vecL i.v)[j]? = some u) : (itV i)[2 + j]? = some u := by
 unfold itV
 rw [List.getElem?_append_right (by show 2 ≤ 2 + j; omega), show 2 + j - (verV i.item).length = j by show 2 + j - 2 = j; omega]
 exact h
theorem rf_no {r : RFr} (h : r.x.v.length = 65) : (rfV r)[66]? = some r.nv := by
 unfold rfV
 rw [List.getElem?_cons_succ, List.getElem?_append_right (by rw [vecL_len, h]; exact Nat.le_refl _), vecL_len, h]
 rfl
structure FrAt (w : World) (b o : Nat) (r : RFr) : Prop where
 all : Lies 42 w b o (rfV r)
 f : w.cell? ⟨b, o, none⟩ = some r.fv
 no : w.cell? ⟨b, o + 66, none⟩ = some r.nv
 v : Lies 39 w b (o + 1) (vecL r.x.v)
structure ItAt (w : World) (b o : Nat) (i : Know.It) : Prop where
 all : Lies 50 w b o (itV i)
 by_ : w.cell? ⟨b, o, none⟩ = some (.int .i64 i.item.by_)
 n : w.cell? ⟨b, o + 1, none⟩ = some (.int .i64 i.item.n)
 v : Lies 39 w b (o + 2) (vecL i.v)
theorem FrAt.of (hr : r.x.v.length = 65) (h : w.rangeAt b o (rfV r)) : FrAt w b o r :=
 ⟨⟨h, ⟨_, Tryz.underlying42, rfl⟩, frSize hr⟩, h 0 _ rfl, h 66 _ (rf_no hr), lies_vec hr h (rf_vec r)⟩
theorem ItAt.of (hi : i.v.length = 65) (h : w.rangeAt b o (itV i)) : ItAt w b o i :=
 ⟨⟨h, ⟨_, Tryz.underlying50, rfl⟩, itSize hi⟩, h 0 _ rfl, h 1 _ rfl, lies_vec hi h (it_vec i)⟩
theorem range_row {t : TypeId} {cs : List Value} (h : Row w b t cs.toArray) : w.rangeAt b 0 cs := fun j u hu => by
 rw [Nat.zero_add, h.at, List.getElem?_toArray]; exact hu
theorem FrAt.row (hr : r.x.v.length = 65) {t : TypeId} (h : Row w b t (rfV r).toArray) : FrAt w b 0 r := FrAt.of hr (range_row h)
theorem ItAt.row (hi : i.v.length = 65) {t : TypeId} (h : Row w b t (itV i).toArray) : ItAt w b 0 i := ItAt.of hi (range_row h)
theorem FrAt.below {B : Nat} (h : FrAt w b o r) (hb : Below B w w') (hB : b < B) : FrAt w' b o r :=
 ⟨h.all.below hb hB, (hb.cell (p := ⟨b, o, none⟩) hB).trans h.f, (hb.cell (p := ⟨b, o + 66, none⟩) hB).trans h.no, h.v.below hb hB⟩
theorem ItAt.below {B : Nat} (h : ItAt w b o i) (hb : Below B w w') (hB : b < B) : ItAt w' b o i :=
 ⟨h.all.below hb hB, (hb.cell (p := ⟨b, o, none⟩) hB).trans h.by_, (hb.cell (p := ⟨b, o + 1, none⟩) hB).trans h.n, h.v.below hb hB⟩
theorem FrAt.v0 (h : FrAt w b 0 r) : Lies 39 w b 1 (vecL r.x.v) := by have := h.v; rwa [Nat.zero_add] at this
theorem FrAt.no0 (h : FrAt w b 0 r) : w.cell? ⟨b, 66, none⟩ = some r.nv := by have := h.no; rwa [Nat.zero_add] at this
theorem ItAt.v0 (h : ItAt w b 0 i) : Lies 39 w b 2 (vecL i.v) := by have := h.v; rwa [Nat.zero_add] at this
theorem ItAt.n0 (h : ItAt w b 0 i) : w.cell? ⟨b, 1, none⟩ = some (.int .i64 i.item.n) := by have := h.n; rwa [Nat.zero_add] at this
theorem FrAt.made (w : World) (hr : r.x.v.length = 65) (t : TypeId) : FrAt (w.alloc (.cells (rfV r).toArray t)) w.heap.size 0 r := FrAt.row hr (Row.made w t _)
theorem ItAt.made (w : World) (hi : i.v.length = 65) (t : TypeId) : ItAt (w.alloc (.cells (itV i).toArray t)) w.heap.size 0 i := ItAt.row hi (Row.made w t _)
theorem range_rws {α : Type} {f : α → List Value} {k n c : Nat} {l : List α} (h : Rws k f w F (.slice (some ⟨b, o, none⟩) n c) l) {j : Nat} {x : α} (hx : l[j]? = some x) : w.rangeAt b (o + j * k) (f x) := by
 obtain ⟨A, c', e, -, hat⟩ := h
 injection e with e1 e2 e3
 obtain ⟨b', o', e, -, -, hc⟩ := hat (by obtain ⟨hl, _⟩ := List.getElem?_eq_some_iff.1 hx; omega)
 rw [e] at e1
 injection e1 with e1
 injection e1 with e1 e2
 subst e1 e2
 exact fun m u hu => hc j x hx m u hu
theorem FrAt.elem {n c : Nat} {rs : List RFr} (h : Rws 67 rfV w F (.slice (some ⟨b, o, none⟩) n c) rs) {j : Nat} (hx : rs[j]? = some r) (hr : r.x.v.length = 65) : FrAt w b (o + j * 67) r := FrAt.of hr (range_rws h hx)
theorem ItAt.elem {n c : Nat} {l : List Know.It} (h : Rws 67 itV w F (.slice (some ⟨b, o, none⟩) n c) l) {j : Nat} (hx : l[j]? = some i) (hr : i.v.length = 65) : ItAt w b (o + j * 67) i := ItAt.of hr (range_rws h hx)
end
def setAt (xs : List Value) (o : Nat) : List Value → List Value
 | [] => xs
 | v :: r => setAt (xs.set o v) (o + 1) r
theorem setAt_mid (A B : List Value) : ∀ (us C : List Value) (j : Nat), j + us.length ≤ C.length → setAt (A ++ C ++ B) (A.length + j) us = A ++ setAt C j us ++ B
 | [], _, _, _ => rfl
 | v :: r, C, j, h => by
  have h : j + (r.length + 1) ≤ C.length := h
  show setAt ((A ++ C ++ B).set (A.length + j) v) (A.length + j + 1) r = A ++ setAt (C.set j v) (j + 1) r ++ B
  rw [List.append_assoc, List.set_append_right _ _ (by omega), show A.length + j - A.length = j by omega, List.set_append_left _ _ (by omega), ← List.append_assoc, Nat.add_assoc]
  exact setAt_mid A B r (C.set j v) (j + 1) (by rw [List.length_set]; omega)
theorem setAt_all : ∀ (us xs : List Value), xs.length = us.length → setAt xs 0 us = us
  | [], xs, h => List.eq_nil_of_length_eq_zero h
  | v :: r, [], h => by cases h
  | v :: r, x :: xs, h => by
    show setAt (v :: xs) 1 r = v :: r
    have := setAt_mid [v] [] r xs 0 (by have : xs.length = r.length := by simpa using h
                                        omega)
    simp only [List.append_nil, List.length_singleton, Nat.add_zero, List.singleton_append] at this
    rw [this, setAt_all r xs (by simpa using h)]
section
variable {α : Type} {f : α → List Value} {k : Nat}
theorem kn_flat_at {l : List α} (hk : ∀ x ∈ l, (f x).length = k) {i : Nat} {x : α} (hx : l[i]? = some x) : l.flatMap f = (l.take i).flatMap f ++ f x ++ (l.drop (i + 1)).flatMap f ∧ ((l.take i).flatMap f).length = i * k := by
 obtain ⟨h, e⟩ := List.getElem?_eq_some_iff.1 hx
 constructor
 ·have e2 : l = l.take i ++ x :: l.drop (i + 1) := by rw [← e, List.getElem_cons_drop, List.take_append_drop]
  conv => lhs; rw [e2]
  rw [List.flatMap_append, List.flatMap_cons, List.append_assoc]
 ·rw [rows_len (k := k) (f := f) _ (fun y hy => hk y (List.mem_of_mem_take hy)), List.length_take, Nat.min_eq_left (by omega)]
theorem kn_flat_set {l : List α} (hk : ∀ x ∈ l, (f x).length = k) {i : Nat} {x y : α} (hx : l[i]? = some x) (j : Nat) (us : List Value) (hj : j + us.length ≤ k) (hy : setAt (f x) j us = f y) : setAt (l.flatMap f) (i * k + j) us = (l.set i y).flatMap f := by
 obtain ⟨e1, e2⟩ := kn_flat_at hk hx
 obtain ⟨h, _⟩ := List.getElem?_eq_some_iff.1 hx
 rw [e1, ← e2, setAt_mid _ _ us (f x) j (by rw [hk x (List.mem_of_getElem? hx)]; exact hj), hy, List.set_eq_take_append_cons_drop, if_pos h, List.flatMap_append, List.flatMap_cons, List.append_assoc]
theorem own_setCells {base e size n g cap : Nat} : ∀ (us : List Value) {w : World} {xs : List Value} (j : Nat), w.ownsRow base e size (.slice (some ⟨g, 0, none⟩) n cap) n xs → (w.setCells g j us).ownsRow base e size (.slice (some ⟨g, 0, none⟩) n cap) n (setAt xs j us) ∧ w.grownBy (w.setCells g j us) (some g)
 | [], w, xs, j, h => ⟨h, rfl, rfl, rfl, Nat.le_refl _, fun _ _ _ => rfl⟩
 | u :: us, w, xs, j, h => by
  obtain ⟨h1, h2⟩ := h.stored j u
  obtain ⟨h3, h4⟩ := own_setCells us (j + 1) h1
  exact ⟨h3, gb_trans h2 h4⟩
theorem RowsOwn.putCells {t : TypeId} {w W : World} {l : List α} {g n cap : Nat} (h : RowsOwn t k f w l (.slice (some ⟨g, 0, none⟩) n cap) W) (hn : l.length = n) (hk : ∀ x ∈ l, (f x).length = k) {i : Nat} {x y : α} (hx : l[i]? = some x) (j : Nat) (us : List Value) (hj : j + us.length ≤ k) (hy : setAt (f x) j us = f y) :
  RowsOwn t k f w (l.set i y) (.slice (some ⟨g, 0, none⟩) n cap) (W.setCells g (i * k + j) us) ∧ W.grownBy (W.setCells g (i * k + j) us) (some g) := by
 subst hn
 obtain ⟨h1, h2⟩ := own_setCells us (i * k + j) h.1
 rw [kn_flat_set hk hx j us hj hy] at h1
 refine ⟨⟨by rw [List.length_set]; exact h1, h.2.grown h2 h.2.size (fun m hm => ?_)⟩, h2⟩
 injection hm with hm
 rw [← hm]
 exact (h.1.lt g rfl).1
end
def Off (v : Value) (b : Nat) : Prop := v.ownBlock ≠ some b
structure FOwn (w : World) (rs : List RFr) (v : Value) (W : World) : Prop where
 own : RowsOwn 42 67 rfV w rs v W
 ins : ∀ r ∈ rs, r.In W (Off v)
section
variable {w W W' : World} {rs : List RFr} {v v' : Value}
theorem FOwn.of {F : Nat → Prop} (h : RowsOwn 42 67 rfV w rs v W) (hi : ∀ r ∈ rs, r.In w F) : FOwn w rs v W :=
 ⟨h, fun r hr => ((hi r hr).lt.below h.2).mono (fun i hi e => by have := (h.1.lt i e).1; omega)⟩
theorem FOwn.lens (h : FOwn w rs v W) : ∀ r ∈ rs, (rfV r).length = 67 := fun r hr => rf_len (h.ins r hr).len
theorem FOwn.rws (h : FOwn w rs v W) : Rws 67 rfV W (NewIn w W) v rs := h.own.rows h.lens
theorem FOwn.frs (h : FOwn w rs v W) : Frs W AnyB v (rs.map (·.x)) := ⟨rs, rfl, h.rws.mono (fun _ _ => trivial), fun r hr => (h.ins r hr).any⟩
theorem FOwn.start (w : World) : FOwn w [] (.slice none 0 0) w := ⟨RowsOwn.start _ _ _ _, fun _ h => (by cases h)⟩
theorem FOwn.first {w W : World} (h : Below w.heap.size w W) : FOwn w [] (.slice none 0 0) W := ⟨RowsOwn.first h, fun _ h => (by cases h)⟩
theorem FOwn.below (h : FOwn w rs v W) (hb : Below W.heap.size W W') : FOwn w rs v W' := ⟨h.own.below hb, fun r hr => (h.ins r hr).below hb⟩
theorem FOwn.since {w0 : World} (h : FOwn w rs v W) (hb : Below w0.heap.size w0 w) : FOwn w0 rs v W := ⟨h.own.since hb, h.ins⟩
theorem FOwn.size (h : FOwn w rs v W) : Below w.heap.size w W := h.own.2
theorem RFr.In.grown {r : RFr} (h : r.In W (Off v)) (hg : W.grownBy W' v.ownBlock) (hn : Near W v v') : r.In W' (Off v') := by
 have h1 : r.In W' (fun i => Off v i ∧ i < W.heap.size) := h.lt.kept (G := fun i => v.ownBlock = some i) ⟨hg.os, hg.tape, hg.output, hg.size, fun k hk hne => hg.block k hk (fun e => hne e.symm)⟩ (fun i hi => hi.1)
 refine h1.mono (fun i hi e => ?_)
 rcases hn with hn | hn
 ·rw [hn] at e; exact hi.1 e
 ·have := hn i e; omega
theorem FOwn.more {r : RFr} {o : Obj} (h : FOwn w rs v W) (hr : r.In W (Off v)) (hown : W'.ownsRow w.heap.size 42 67 v' (rs.length + 1) (rs.flatMap rfV ++ rfV r)) (hg : (W.alloc o).grownBy W' v.ownBlock) (hn : Near (W.alloc o) v v') : FOwn w (rs ++ [r]) v' W' := by
 have hb : Below W.heap.size W (W.alloc o) := (Below.refl _ _).alloc (Nat.le_refl _) o
 refine ⟨h.own.more hown hg, fun x hx => ?_⟩
 rcases List.mem_append.1 hx with hx | hx
 ·exact ((h.ins x hx).below hb).grown hg hn
 ·rw [List.mem_singleton.1 hx]; exact (hr.below hb).grown hg hn
theorem FOwn.put {g n cap i j : Nat} {r r' : RFr} {us : List Value} (h : FOwn w rs (.slice (some ⟨g, 0, none⟩) n cap) W) (hn : rs.length = n) (hx : rs[i]? = some r) (hj : j + us.length ≤ 67) (hy : setAt (rfV r) j us = rfV r') (hr : r'.In W (Off (.slice (some ⟨g, 0, none⟩) n cap))) : FOwn w (rs.set i r') (.slice (some ⟨g, 0, none⟩) n cap) (W.setCells g (i * 67 + j) us) := by
 obtain ⟨h1, h2⟩ := h.own.putCells hn h.lens hx j us hj hy
 refine ⟨h1, fun x hx => ?_⟩
 rcases List.mem_or_eq_of_mem_set hx with hx | rfl
 ·exact (h.ins x hx).grown h2 (Near.refl _ _)
 ·exact hr.grown h2 (Near.refl _ _)
theorem rf_setF (r : RFr) (fv : Value) (f : List Flt.Cl) : setAt (rfV r) 0 [fv] = rfV ⟨fv, r.nv, ⟨f, r.x.v, r.x.no⟩⟩ := rfl
theorem rf_setNo {r : RFr} (hr : r.x.v.length = 65) (nv : Value) (no : List Ver.V) : setAt (rfV r) 66 [nv] = rfV ⟨r.fv, nv, ⟨r.x.f, r.x.v, no⟩⟩ := by
 have := setAt_mid (r.fv :: vecL r.x.v) [] [nv] [r.nv] 0 (by simp)
 rw [List.length_cons, vecL_len, hr] at this
 simp only [List.append_nil] at this
 exact this
theorem rf_setV {r : RFr} (hr : r.x.v.length = 65) {x : List Int} (hx : x.length = 65) : setAt (rfV r) 1 (vecL x) = rfV ⟨r.fv, r.nv, ⟨r.x.f, x, r.x.no⟩⟩ := by
 have := setAt_mid [r.fv] [r.nv] (vecL x) (vecL r.x.v) 0 (by rw [vecL_len, vecL_len, hr, hx]; exact Nat.le_refl _)
 rw [setAt_all (vecL x) (vecL r.x.v) (by rw [vecL_len, vecL_len, hr, hx])] at this
 exact this
theorem FOwn.there {g n cap i : Nat} {r : RFr} (h : FOwn w rs (.slice (some ⟨g, 0, none⟩) n cap) W) (hn : rs.length = n) (hx : rs[i]? = some r) (j m : Nat) (hj : j + m ≤ 67) : W.there g (i * 67 + j) m := by
 subst hn
 intro k hk
 have hr := h.ins r (List.mem_of_getElem? hx)
 have hlt : j + k < (rfV r).length := by rw [rf_len hr.len]; omega
 have := range_rws h.rws hx (j + k) _ (List.getElem?_eq_getElem hlt)
 rw [Nat.zero_add, ← Nat.add_assoc] at this
 exact ⟨by rw [this]; rfl, h.own.1.frozenAt _⟩
theorem FOwn.at {g n cap i : Nat} {r : RFr} (h : FOwn w rs (.slice (some ⟨g, 0, none⟩) n cap) W) (hx : rs[i]? = some r) : FrAt W g (i * 67) r := by
 have := FrAt.elem h.rws hx (h.ins r (List.mem_of_getElem? hx)).len
 rwa [Nat.zero_add] at this
end
end Go.Proofs.YtpmolinmopgbdaaGreat
namespace Go.Proofs.YtpmolinmopgbdaaGreat
open Go.RowKit Go.Sort
theorem fr_two (w : World) {r s : RFr} (hr : r.x.v.length = 65) (hs : s.x.v.length = 65) : ∃ W, W = (w.alloc (.cells (rfV r).toArray 42)).alloc (.cells (rfV s).toArray 42) ∧ FrAt W w.heap.size 0 r ∧ FrAt W (w.heap.size + 1) 0 s ∧ Laid w W := by
 refine ⟨_, rfl, (FrAt.made w hr _).below ((Below.refl _ _).alloc (Nat.le_refl _) _) (by simp), ?_, ((Laid.refl w).alloc _).alloc _⟩
 have := FrAt.made (w.alloc (.cells (rfV r).toArray 42)) hs 42
 rwa [World.size_alloc] at this
theorem know_includes (V : VecOk) (I : IsetOk) (C : CoverOk) {w : World} {F G : Nat → Prop} {r s : RFr} (hr : r.In w F) (hs : s.In w G) (lr : r.x.no.length ≤ 100000) (ls : s.x.no.length ≤ 100000) (or : Cov.Ok r.x.f) (os : Cov.Ok s.x.f) :
  Calls Tryz.prog 65 #[frA r, frA s] w fun e w' => e = .returned (.bool (decide (Know.Incl r.x s.x))) ∧ Below w.heap.size w w' := by
 obtain ⟨W, hW, f0, f1, hL⟩ := fr_two w hr.len hs.len
 have CC := Lib.hid (fun W' => V.covers (w := W') hr.len hs.len)
 have CI := Lib.hid (fun (W' : World) (h : Below w.heap.size w W') => I.within (hr.no.below h) (hs.no.below h) (by omega) (by omega))
 have CS := Lib.hid (fun (W' : World) (h : Below w.heap.size w W') => C.subs (Rws.below hr.f h) (Rws.below hs.f h) or os)
 have V0 := Lib.hid f0.v0
 have V1 := Lib.hid f1.v0
 have FA := Lib.hid (fun (W' : World) (h : Below W.heap.size W W') => And.intro (f0.below h (by rw [hW]; simp; omega)) (f1.below h (by rw [hW]; simp)))
 have EI : Hid (decide (Know.Incl r.x s.x) = (decide (Vec.Covers r.x.v s.x.v) && (decide (Iset.Within r.x.no s.x.no) && decide (Cov.Subs r.x.f s.x.f)))) := Lib.hid (by
  rw [Bool.eq_iff_iff]
  simp only [Bool.and_eq_true, decide_eq_true_iff]
  unfold Know.Incl Iset.Within
  constructor
  ·rintro ⟨h1, h2, h3⟩; exact ⟨h2, h3, h1⟩
  ·rintro ⟨h2, h3, h1⟩; exact ⟨h1, h2, h3⟩)
 obtain ⟨A0, a0, e0, -⟩ := hr.no.parts
 obtain ⟨A1, a1, e1, -⟩ := hs.no.parts
 obtain ⟨B0, b0, e2, -⟩ := hr.f.parts
 obtain ⟨B1, b1, e3, -⟩ := hs.f.parts
 have HL := Lib.hid hL.below
 clear hr hs f0 f1 hL
 rw [e0, e1] at CI
 rw [e2, e3] at CS
 have N : Hid (∀ W', Below W.heap.size W W' → W'.cell? ⟨w.heap.size, 66, none⟩ = some (.slice A0 r.x.no.length a0) ∧ W'.cell? ⟨w.heap.size + 1, 66, none⟩ = some (.slice A1 s.x.no.length a1) ∧ W'.cell? ⟨w.heap.size, 0, none⟩ = some (.slice B0 r.x.f.length b0) ∧ W'.cell? ⟨w.heap.size + 1, 0, none⟩ = some (.slice B1 s.x.f.length b1)) := Lib.hid (fun W' h => by
  have := FA.out W' h
  rw [← e0, ← e1, ← e2, ← e3]
  exact ⟨this.1.no0, this.2.no0, this.1.f, this.2.f⟩)
 have HW := Lib.hid hW
 clear e0 e1 e2 e3 FA or os
 generalize decide (Vec.Covers r.x.v s.x.v) = p at *
 generalize decide (Iset.Within r.x.no s.x.no) = q at *
 generalize decide (Cov.Subs r.x.f s.x.f) = t at *
 go_enter Tryz.func65, Tryz.ntmps65
 cases p
 ·rw [hW] at V0 V1
  go_wp2_with (first | refine wpList_mload (by rfl) _ (by rfl) (by rfl) V0.out ?_ | refine wpList_mload (by rfl) _ (by rfl) (by rfl) V1.out ?_)
  refine (CC.out _).mono ?_
  rintro e w1 ⟨rfl, h1⟩
  have H1 := Lib.hid (HL.out.trans ((HW.out ▸ h1).below.mono HL.out.size))
  clear h1
  go_wp2_with fail
  go_ret
  exact ⟨by (rw [EI.out]) <;> rfl, H1.out⟩
 ·rw [hW] at V0 V1
  go_wp2_with (first | refine wpList_mload (by rfl) _ (by rfl) (by rfl) V0.out ?_ | refine wpList_mload (by rfl) _ (by rfl) (by rfl) V1.out ?_)
  refine (CC.out _).mono ?_
  rintro e w1 ⟨rfl, h1⟩
  have hb1 : Below W.heap.size W w1 := (HW.out ▸ h1).below
  obtain ⟨c0, c1, c2, c3⟩ := N.out _ hb1
  have H1 := Lib.hid (HL.out.trans (hb1.mono HL.out.size))
  have HB1 := Lib.hid hb1
  clear h1 hb1 hW
  go_wp2_with fail
  refine (CI.out _ H1.out).mono ?_
  rintro e w2 ⟨rfl, h2⟩
  have hb2 := HB1.out.trans (h2.mono HB1.out.size)
  have H2 := Lib.hid (H1.out.trans (h2.mono H1.out.size))
  obtain ⟨c0, c1, c2, c3⟩ := N.out _ hb2
  clear h2 hb2
  cases q
  ·go_wp2_with fail
   go_ret
   exact ⟨by (rw [EI.out]) <;> rfl, H2.out⟩
  ·go_wp2_with fail
   refine (CS.out _ H2.out).mono ?_
   rintro e w3 ⟨rfl, h3⟩
   have H3 := Lib.hid (H2.out.trans (h3.mono H2.out.size))
   clear h3 c0 c1 c2 c3
   go_wp2_with fail
   go_ret
   exact ⟨by (rw [EI.out]) <;> rfl, H3.out⟩
end Go.Proofs.YtpmolinmopgbdaaGreat
namespace Go.Proofs.YtpmolinmopgbdaaGreat
open Go.RowKit Go.Sort
def Off2 (v u : Value) (b : Nat) : Prop := Off v b ∧ Off u b
structure JO (w : World) (J0 : List RFr) (y : RFr) (v : Value) (W : World) : Prop where
 own : RowsOwn 42 67 rfV w (J0 ++ [y]) v W
 ins : ∀ r ∈ J0, r.In W (Off2 v y.fv)
 f : W.ownsRow w.heap.size 93 3 y.fv y.x.f.length (y.x.f.flatMap clV)
 no : Vrs W (Off2 v y.fv) y.nv y.x.no
 len : y.x.v.length = 65
 ap : ∀ g, y.fv.ownBlock = some g → v.ownBlock ≠ some g
section
variable {w W W' : World} {J0 JS : List RFr} {y : RFr} {v v' : Value}
theorem JO.fown (h : JO w J0 y v W) : FOwn w (J0 ++ [y]) v W := by
 refine ⟨h.own, fun r hr => ?_⟩
 rcases List.mem_append.1 hr with hr | hr
 ·exact (h.ins r hr).mono (fun i hi => hi.1)
 ·rw [List.mem_singleton.1 hr]
  exact ⟨(Rws.ofOwn h.f rfl (fun _ _ => rfl) (fun b hb _ _ => h.ap b hb) : Cls W (Off v) y.fv y.x.f), h.no.mono (fun i hi => hi.1), h.len⟩
theorem JO.below (h : JO w J0 y v W) (hb : Below W.heap.size W W') (hw : w.heap.size ≤ W.heap.size) : JO w J0 y v W' :=
 ⟨h.own.below hb, fun r hr => (h.ins r hr).below hb, h.f.kept (Kept.ofBelow hb (fun i => i = W.heap.size)).grown (Or.inr (fun e => by have := (h.f.lt _ e).2; omega)), Rws.below h.no hb, h.len, h.ap⟩
theorem near_off {u u' : Value} {b : Nat} (h : Off u b) (hb : b < W.heap.size) (hn : Near W u u') : Off u' b := by
 intro e
 rcases hn with hn | hn
 ·rw [hn] at e; exact h e
 ·have := hn b e; omega
theorem kept_of {r : Option Nat} (h : W.grownBy W' r) : Kept (fun i => r = some i) W W' := ⟨h.os, h.tape, h.output, h.size, fun k hk hne => h.block k hk (fun e => hne e.symm)⟩
theorem RFr.In.grown2 {r : RFr} {u : Value} (h : r.In W (Off2 v u)) (hg : W.grownBy W' v.ownBlock) (hn : Near W v v') : r.In W' (Off2 v' u) :=
 ((h.lt.kept (kept_of hg) (fun i hi => hi.1.1)).mono (fun i hi => ⟨near_off hi.1.1 hi.2 hn, hi.1.2⟩))
theorem RFr.In.grown3 {r : RFr} {u u' : Value} (h : r.In W (Off2 v u)) (hg : W.grownBy W' u.ownBlock) (hn : Near W u u') : r.In W' (Off2 v u') :=
 ((h.lt.kept (kept_of hg) (fun i hi => hi.1.2)).mono (fun i hi => ⟨hi.1.1, near_off hi.1.2 hi.2 hn⟩))
theorem JO.push {u nv : Value} {f : List Flt.Cl} {x : List Int} {no : List Ver.V} {o : Obj} (h : FOwn w JS v W) (h2 : ∀ r ∈ JS, r.In W (Off2 v u)) (hf : W.ownsRow w.heap.size 93 3 u f.length (f.flatMap clV)) (hno : Vrs W (Off2 v u) nv no) (hx : x.length = 65)
  (hap : ∀ g, u.ownBlock = some g → v.ownBlock ≠ some g) (hown : W'.ownsRow w.heap.size 42 67 v' (JS.length + 1) (JS.flatMap rfV ++ rfV ⟨u, nv, ⟨f, x, no⟩⟩)) (hg : (W.alloc o).grownBy W' v.ownBlock) (hn : Near (W.alloc o) v v') : JO w JS ⟨u, nv, ⟨f, x, no⟩⟩ v' W' := by
 have hb : Below W.heap.size W (W.alloc o) := (Below.refl _ _).alloc (Nat.le_refl _) o
 refine ⟨h.own.more hown hg, fun r hr => ((h2 r hr).below hb).grown2 hg hn, ?_, ?_, hx, fun g hu e => ?_⟩
 ·exact own_left (row_lower (row_below (base := w.heap.size) hf hb) (Nat.le_refl _)) hg (fun g hu e => hap g hu e)
 ·have h1 : Vrs W' (fun i => (Off2 v u i) ∧ i < (W.alloc o).heap.size) nv no := (Rws.below hno hb).lt.kept (kept_of hg) (fun i hi => hi.1.1)
  exact h1.mono (fun i hi => ⟨near_off hi.1.1 hi.2 hn, hi.1.2⟩)
 ·have hlt := (hf.lt g hu).2
  rcases hn with hn | hn
  ·rw [hn] at e; exact hap g hu e
  ·have := hn g e
   rw [World.size_alloc] at this
   omega
theorem JO.joined {g n cap : Nat} {v9 : Value} {f : List Flt.Cl} (h : JO w J0 y (.slice (some ⟨g, 0, none⟩) n cap) W) (hn : (J0 ++ [y]).length = n) (ho : W'.ownsRow w.heap.size 93 3 v9 (y.x.f.length + f.length) (y.x.f.flatMap clV ++ f.flatMap clV)) (hg : W.grownBy W' y.fv.ownBlock) (hnr : Near W y.fv v9) :
  JO w J0 ⟨v9, y.nv, ⟨y.x.f ++ f, y.x.v, y.x.no⟩⟩ (.slice (some ⟨g, 0, none⟩) n cap) (W'.setCell ⟨g, J0.length * 67, none⟩ v9) ∧ (W'.cell? ⟨g, J0.length * 67, none⟩).isSome = true ∧ W'.frozen? ⟨g, J0.length * 67, none⟩ = false := by
 have hgl := (h.own.1.lt g rfl)
 have hlens : ∀ r ∈ J0 ++ [y], (rfV r).length = 67 := h.fown.lens
 have hne : y.fv.ownBlock ≠ some g := fun e => h.ap g e rfl
 have hlast : (J0 ++ [y])[J0.length]? = some y := by rw [List.getElem?_append_right (Nat.le_refl _), Nat.sub_self]; rfl
 have h9 : v9.ownBlock ≠ some g := by
  intro e
  rcases hnr with hnr | hnr
  ·rw [hnr] at e; exact hne e
  ·have := hnr g e; omega
 have hown : RowsOwn 42 67 rfV w (J0 ++ [y]) (.slice (some ⟨g, 0, none⟩) n cap) W' :=
  ⟨own_left h.own.1 hg (fun g' hg' e => h.ap g' e hg'), h.own.2.grown hg h.own.2.size (fun k hk => (h.f.lt k hk).1)⟩
 obtain ⟨p1, p2⟩ := hown.putCells hn hlens hlast 0 [v9] (by show 0 + 1 ≤ 67; decide) (rf_setF y v9 (y.x.f ++ f))
 rw [Nat.add_zero] at p1 p2
 have hset : (J0 ++ [y]).set J0.length ⟨v9, y.nv, ⟨y.x.f ++ f, y.x.v, y.x.no⟩⟩ = J0 ++ [⟨v9, y.nv, ⟨y.x.f ++ f, y.x.v, y.x.no⟩⟩] := by
  rw [List.set_append_right _ _ (Nat.le_refl _), Nat.sub_self]; rfl
 rw [hset] at p1
 have p2' : W'.grownBy (W'.setCell ⟨g, J0.length * 67, none⟩ v9) (some g) := p2
 refine ⟨⟨p1, fun r hr => ?_, ?_, ?_, h.len, fun g' hg' e => ?_⟩, ?_⟩
 ·exact ((h.ins r hr).grown3 hg hnr).grown2 p2' (Near.refl _ _)
 ·show (W'.setCell _ _).ownsRow w.heap.size _ 3 v9 (y.x.f ++ f).length ((y.x.f ++ f).flatMap clV)
  rw [List.length_append, List.flatMap_append]
  exact ownsRow_setCell_other ho h9 _
 ·have h1 : Vrs W' (fun i => Off2 (.slice (some ⟨g, 0, none⟩) n cap) y.fv i ∧ i < W.heap.size) y.nv y.x.no := h.no.lt.kept (kept_of hg) (fun i hi => hi.1.2)
  refine (h1.kept (kept_of p2') (fun i hi => hi.1.1)).mono (fun i hi => ⟨hi.1.1, near_off hi.1.2 hi.2 hnr⟩)
 ·have e : some g = some g' := e
  injection e with e
  subst e
  exact h9 hg'
 ·have := range_rws (hown.rows hlens) hlast 0 _ (List.getElem?_eq_getElem (by rw [hlens y (by simp)]; decide))
  rw [Nat.zero_add, Nat.add_zero] at this
  subst hn
  exact ⟨by rw [this]; rfl, hown.1.frozenAt _⟩
theorem JO.reads {w1 wr wq : World} {g n cap : Nat} {z : RFr} {t : TypeId} (h : JO w1 J0 y (.slice (some ⟨g, 0, none⟩) n cap) wr) (hw1 : w1.heap.size ≤ wr.heap.size) (hq : Below wr.heap.size wr wq) (hrow : Row wq wr.heap.size t (rfV z).toArray) (hz : z.x.v.length = 65) :
  JO w1 J0 y (.slice (some ⟨g, 0, none⟩) n cap) wq ∧ ∀ W, Kept (fun i => y.fv.ownBlock = some i) wq W → W.cell? ⟨g, J0.length * 67, none⟩ = some y.fv ∧ W.cell? ⟨wr.heap.size, 0, none⟩ = some z.fv := by
 have hJ := h.below hq hw1
 refine ⟨hJ, fun W hW => ⟨?_, ?_⟩⟩
 ·refine (hW.cell (p := ⟨g, J0.length * 67, none⟩) (hJ.own.1.lt g rfl).2 (fun e => hJ.ap g e rfl)).trans ?_
  exact (hJ.fown.at (i := J0.length) (r := y) (by rw [List.getElem?_append_right (Nat.le_refl _), Nat.sub_self]; rfl)).f
 ·refine (hW.cell (p := ⟨wr.heap.size, 0, none⟩) hrow.inHeap (fun e => ?_)).trans (FrAt.row hz hrow).f
  have e : y.fv.ownBlock = some wr.heap.size := e
  have := (h.f.lt _ e).2
  omega
theorem wpList_build1 {ops : Array Oper} {rest : List Oper} {op : Oper} {a : Act} {W : World} {Q : Exit → Act → World → Prop} (hg : op.guard = none) (t e : TypeId) (x : Operand) (ho : op.op = .buildSlice t 1 #[(0, x)]) {cs : List Value} {i : TypeInfo} {z : Value} (hx : a.eval x = .agg cs.toArray)
  (hu : Tryz.prog.underlying t = some (.slice e)) (hi : Tryz.prog.info? e = some i) (hz : i.zero = some z) (h67 : i.size = 67) (hl : cs.length = 67)
  (k : wpList Tryz.prog ops Q rest (a.put op.dst (.slice (some ⟨W.heap.size, 0, none⟩) 1 1)) (W.alloc (.cells cs.toArray e))) : wpList Tryz.prog ops Q (op :: rest) a W := by
 refine wpList_buildSlice hg t e 1 #[(0, x)] ho cs.toArray i z hu hi hz (by rw [h67]; decide) (by rw [h67]; decide) ?_ k
 have := Great.fill_whole (s := 67) (by decide) [.agg cs.toArray] ((Array.range (1 * i.size)).map (z.cells[· % z.cells.size]!)) (fun v hv => by rw [List.mem_singleton.1 hv]; show cs.toArray.size = 67; rw [List.size_toArray, hl]) (by rw [h67]; simp)
 rw [h67] at this ⊢
 simpa [hx, Value.cells] using this
theorem fr_made1 (w : World) (t : TypeId) (r : RFr) : Rws 67 rfV (w.alloc (.cells (rfV r).toArray t)) (NewIn w (w.alloc (.cells (rfV r).toArray t))) (.slice (some ⟨w.heap.size, 0, none⟩) 1 1) [r] := by
 refine ⟨_, 1, rfl, Nat.le_refl _, fun _ => ⟨w.heap.size, 0, rfl, ⟨Nat.le_refl _, by simp⟩, by simp, fun i x hx j u hu => ?_⟩⟩
 have hi : i = 0 := by obtain ⟨h, _⟩ := List.getElem?_eq_some_iff.1 hx; simpa using h
 subst hi
 have e : x = r := by simpa using hx.symm
 subst e
 have := range_row (Row.made w t (rfV x).toArray) j u hu
 rw [Nat.zero_add] at this
 simpa using this
theorem it_made1 (w : World) (t : TypeId) (r : Know.It) : Rws 67 itV (w.alloc (.cells (itV r).toArray t)) (NewIn w (w.alloc (.cells (itV r).toArray t))) (.slice (some ⟨w.heap.size, 0, none⟩) 1 1) [r] := by
 refine ⟨_, 1, rfl, Nat.le_refl _, fun _ => ⟨w.heap.size, 0, rfl, ⟨Nat.le_refl _, by simp⟩, by simp, fun i x hx j u hu => ?_⟩⟩
 have hi : i = 0 := by obtain ⟨h, _⟩ := List.getElem?_eq_some_iff.1 hx; simpa using h
 subst hi
 have e : x = r := by simpa using hx.symm
 subst e
 have := range_row (Row.made w t (itV x).toArray) j u hu
 rw [Nat.zero_add] at this
 simpa using this
theorem joi_new {w1 wr wq w8 : World} {JS : List RFr} {v v8 : Value} {z : RFr} {F : Nat → Prop} (FO : FOwn w1 JS v wr) (hw1 : Below w1.heap.size w1 wr) (hq : Below wr.heap.size wr wq) (hbq : wr.heap.size < wq.heap.size) (h8 : RowsOwn 93 3 clV wq z.x.f v8 w8) (hz : z.In w1 F) :
  FOwn w1 JS v (w8.setCell ⟨wr.heap.size, 0, none⟩ v8) ∧ (∀ r ∈ JS, r.In (w8.setCell ⟨wr.heap.size, 0, none⟩ v8) (Off2 v v8)) ∧ (w8.setCell ⟨wr.heap.size, 0, none⟩ v8).ownsRow w1.heap.size 93 3 v8 z.x.f.length (z.x.f.flatMap clV) ∧
   Vrs (w8.setCell ⟨wr.heap.size, 0, none⟩ v8) (Off2 v v8) z.nv z.x.no ∧ (∀ g, v8.ownBlock = some g → v.ownBlock ≠ some g) ∧ Below wr.heap.size wr (w8.setCell ⟨wr.heap.size, 0, none⟩ v8) := by
 have hb8 : Below wr.heap.size wr w8 := hq.trans (h8.2.mono hq.size)
 have hb : Below wr.heap.size wr (w8.setCell ⟨wr.heap.size, 0, none⟩ v8) :=
  (Kept.stored (F := fun _ => False) (Kept.ofBelow hb8 _) (Or.inr (Nat.le_refl _)) v8).below (Nat.le_refl _) (fun _ h => h.elim)
 have h8lt : ∀ g, v8.ownBlock = some g → wr.heap.size < g := fun g hg => by have := (h8.1.lt g hg).1; omega
 have hvlt : ∀ g, v.ownBlock = some g → w1.heap.size ≤ g ∧ g < wr.heap.size := fun g hg => FO.own.1.lt g hg
 refine ⟨FO.below hb, fun r hr => ?_, ?_, ?_, fun g hg e => ?_, hb⟩
 ·exact ((FO.ins r hr).lt.below hb).mono (fun i hi => ⟨hi.1, fun e => by have := h8lt i e; omega⟩)
 ·exact ownsRow_setCell_other (row_lower h8.1 (Nat.le_trans hw1.size hq.size)) (fun e => by have h := h8lt wr.heap.size e; omega) _
 ·have h1 : Vrs (w8.setCell ⟨wr.heap.size, 0, none⟩ v8) (fun i => F i ∧ i < w1.heap.size) z.nv z.x.no := Rws.below (Rws.below hz.no.lt hw1) hb
  exact h1.mono (fun i hi => ⟨fun e => by have := (hvlt i e).1; omega, fun e => by have := h8lt i e; have := hw1.size; omega⟩)
 ·have := h8lt g hg; have := (hvlt g e).2; omega
end
namespace Know
theorem step_len (j : List Fr) (z : Fr) : (step j z).length ≤ j.length + 1 := by
 rcases List.eq_nil_or_concat j with rfl | ⟨j0, y, rfl⟩
 ·simp [step_none]
 ·rw [List.concat_eq_append]
  by_cases h : Keyd y z
  ·rw [step_same _ _ _ h]; simp
  ·rw [step_new _ _ _ h]; simp
theorem many_app (a b : List Fr) : many (a ++ b) = many a + many b := by unfold many; rw [List.map_append, List.sum_append]
theorem many_one (x : Fr) : many [x] = x.f.length := by simp [many]
theorem many_step (j : List Fr) (z : Fr) : many (step j z) = many j + z.f.length := by
 rcases List.eq_nil_or_concat j with rfl | ⟨j0, y, rfl⟩
 ·rw [step_none, many_one]; simp [many]
 ·rw [List.concat_eq_append]
  by_cases h : Keyd y z
  ·rw [step_same _ _ _ h, many_app, many_app, many_one, many_one, List.length_append]; omega
  ·rw [step_new _ _ _ h, many_app, many_one]
theorem step_sane {j : List Fr} {z : Fr} (hj : ∀ x ∈ j, Sane x.f) (hz : Sane z.f) : ∀ x ∈ step j z, Sane x.f := by
 intro x hx
 rcases List.eq_nil_or_concat j with rfl | ⟨j0, y, rfl⟩
 ·rw [step_none] at hx
  rw [List.mem_singleton.1 hx]; exact hz
 ·rw [List.concat_eq_append] at hx hj
  by_cases h : Keyd y z
  ·rw [step_same _ _ _ h] at hx
   rcases List.mem_append.1 hx with hx | hx
   ·exact hj x (List.mem_append.2 (Or.inl hx))
   ·rw [List.mem_singleton.1 hx]
    intro c hc
    rcases List.mem_append.1 hc with hc | hc
    ·exact hj y (List.mem_append.2 (Or.inr (List.mem_singleton.2 rfl))) c hc
    ·exact hz c hc
  ·rw [step_new _ _ _ h] at hx
   rcases List.mem_append.1 hx with hx | hx
   ·exact hj x hx
   ·rw [List.mem_singleton.1 hx]; exact hz
theorem join_bounds {S : List Fr} (hs : ∀ x ∈ S, Sane x.f) : ∀ k, k ≤ S.length → many (joinAll (S.take k)) ≤ many S ∧ (joinAll (S.take k)).length ≤ k ∧ ∀ x ∈ joinAll (S.take k), Sane x.f := by
 have h : ∀ k, k ≤ S.length → many (joinAll (S.take k)) = many (S.take k) ∧ (joinAll (S.take k)).length ≤ k ∧ ∀ x ∈ joinAll (S.take k), Sane x.f := by
  intro k
  induction k with
  | zero => intro _; rw [List.take_zero]; exact ⟨rfl, Nat.le_refl _, fun x hx => (by cases hx)⟩
  | succ k ih =>
   intro hk
   obtain ⟨h1, h2, h3⟩ := ih (by omega)
   have hz : S[k]? = some S[k] := List.getElem?_eq_getElem (by omega)
   rw [join_take S k _ hz]
   refine ⟨?_, ?_, step_sane h3 (hs _ (List.getElem_mem _))⟩
   ·rw [many_step, h1, List.take_succ_eq_append_getElem (by omega), many_app, many_one]
   ·have := step_len (joinAll (S.take k)) S[k]; omega
 intro k hk
 obtain ⟨h1, h2, h3⟩ := h k hk
 refine ⟨?_, h2, h3⟩
 rw [h1]
 conv => rhs; rw [← List.take_append_drop k S]
 rw [many_app]; omega
theorem many_perm {a b : List Fr} (h : a.Perm b) : many a = many b := (h.map _).sum_nat
theorem many_tidy (l : List Fr) : many (l.map tidy) = many l := by unfold many; rw [List.map_map]; rfl
theorem many_mem {l : List Fr} {x : Fr} (h : x ∈ l) : x.f.length ≤ many l := sum_mem (fun x : Fr => x.f.length) h
end Know
end Go.Proofs.YtpmolinmopgbdaaGreat
