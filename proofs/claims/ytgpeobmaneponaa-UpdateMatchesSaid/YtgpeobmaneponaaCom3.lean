import Derived.Test.YtgpeobmaneponaaCom2
import Derived.Laws.IdiomCopy
import Derived.Laws.OwnMore
import Derived.Lib.SlicesCompact
import Derived.Tactics
import Derived.Deep.WholeRow
import Derived.Deep.MidRow
import Derived.Great.BuildSlice
import Derived.Laws.StructEq
set_option maxRecDepth 100000
set_option linter.unusedVariables false
set_option linter.unusedSimpArgs false
set_option maxHeartbeats 12800000
namespace Go.Proofs.Ytgpeobmaneponaa
open Go.RowKit
section
variable {w : World} {base e size n cap g : Nat} {xs : List Value}
theorem own_front (h : w.ownsRow base e size (.slice (some ⟨g, 0, none⟩) n cap) n xs) {m : Nat} (hm : m ≤ n) : w.ownsRow base e size (.slice (some ⟨g, 0, none⟩) m cap) m (xs.take (m * size)) := by
 have hle : m * size ≤ n * size := Nat.mul_le_mul_right _ hm
 refine ⟨by rw [List.length_take, h.1]; omega, ?_⟩
 rcases h.2 with ⟨h', _⟩ | ⟨g', cap', cur, h', hb, hg, hnc, hcm, hcs, htake⟩
 ·simp at h'
 ·simp only [Value.slice.injEq, Option.some.injEq, Addr.mk.injEq, and_true, true_and] at h'
  obtain ⟨rfl, rfl⟩ := h'
  refine .inr ⟨g, cap, cur, rfl, hb, hg, Nat.le_trans hm hnc, hcm, hcs, ?_⟩
  rw [← htake, List.take_take, Nat.min_eq_left hle]
theorem own_beyond (h : w.ownsRow base e size (.slice (some ⟨g, 0, none⟩) n cap) n xs) {j : Nat} (hj : n * size ≤ j) (u : Value) :
  (w.setCell ⟨g, j, none⟩ u).ownsRow base e size (.slice (some ⟨g, 0, none⟩) n cap) n xs ∧ w.grownBy (w.setCell ⟨g, j, none⟩ u) (some g) := by
 have := h.stored j u
 rw [List.set_eq_of_length_le (by rw [h.1]; exact hj)] at this
 exact this
theorem own_beyonds : ∀ (vs : List Value) (j : Nat) (w : World), w.ownsRow base e size (.slice (some ⟨g, 0, none⟩) n cap) n xs → n * size ≤ j →
  (w.setCells g j vs).ownsRow base e size (.slice (some ⟨g, 0, none⟩) n cap) n xs ∧ w.grownBy (w.setCells g j vs) (some g)
 | [], j, w, h, _ => ⟨h, gb_refl _ _⟩
 | v :: vs, j, w, h, hj => by
  obtain ⟨h1, h2⟩ := own_beyond h hj v
  obtain ⟨h3, h4⟩ := own_beyonds vs (j + 1) _ h1 (by omega)
  exact ⟨h3, gb_trans h2 h4⟩
theorem own_clear {P : Program} {t : TypeId} {z : Value} (h : w.ownsRow base e size (.slice (some ⟨g, 0, none⟩) n cap) n xs) {m : Nat} (hm : m < n) (ht : P.underlying t = some (.slice e)) (hv : ∀ w, (zeroValue e).run P w = .ok z w) (hz : z.cells.size = size) (h1 : ∀ u ∈ z.cells.toList, u.oneCell' = true) (c : Nat) :
  ∃ w', (∀ ty, (Builtin.clear_ #[t] ty #[.slice (some ⟨g, m * size, none⟩) (n - m) c]).run P w = .ok (.tuple #[]) w') ∧ w'.ownsRow base e size (.slice (some ⟨g, 0, none⟩) m cap) m (xs.take (m * size)) ∧ w.grownBy w' (some g) := by
 have hlen : (Builtin.zeroCells z.cells (n - m)).toList.length = (n - m) * size := by simp [Builtin.zeroCells, hz]
 have hrow : m * size + (n - m) * size = n * size := by rw [← Nat.add_mul]; congr 1; omega
 have hone : ∀ u ∈ (Builtin.zeroCells z.cells (n - m)).toList, u.oneCell' = true := by
  intro u hu
  unfold Builtin.zeroCells at hu
  rw [Array.toList_map, List.mem_map] at hu
  obtain ⟨i, hi, rfl⟩ := hu
  have hi : i < (n - m) * z.cells.size := by simpa using hi
  have hpos : 0 < z.cells.size := by
   rcases Nat.eq_zero_or_pos z.cells.size with h0 | h0
   ·rw [h0] at hi; omega
   ·exact h0
  have hlt : i % z.cells.size < z.cells.size := Nat.mod_lt _ hpos
  refine h1 _ ?_
  rw [getElem!_pos z.cells _ hlt]
  exact Array.getElem_mem_toList _
 have hst := run_storeCells_cells (P := P) g (m * size) (Builtin.zeroCells z.cells (n - m)).toList 0 w (fun j hj => by
   rw [hlen] at hj
   rw [Nat.add_zero, h.cellAt (m * size + j) (by omega)]
   have : m * size + j < xs.length := by rw [h.1]; omega
   simp [this]) (fun j _ => h.frozenAt _) hone
 rw [Nat.add_zero] at hst
 obtain ⟨r1, r2⟩ := own_beyonds (Builtin.zeroCells z.cells (n - m)).toList (m * size) w (own_front h (Nat.le_of_lt hm)) (Nat.le_refl _)
 refine ⟨_, fun ty => ?_, r1, r2⟩
 obtain ⟨k, hk⟩ : ∃ k, n - m = k + 1 := ⟨n - m - 1, by omega⟩
 rw [hk] at hst ⊢
 simp [Builtin.clear_, run_underlying ht, hv, hst]
end
theorem getI_of {α : Type} [Inhabited α] {l : List α} {i : Nat} {x : α} (h : l[i]? = some x) : l.toArray[i]! = x := by
 obtain ⟨hl, e⟩ := List.getElem?_eq_some_iff.1 h
 rw [getElem!_pos l.toArray i (by simpa using hl)]
 simpa using e
theorem getI_to {α : Type} [Inhabited α] (d : Array α) {i : Nat} (h : i < d.size) : d.toList[i]? = some d[i]! := by
 rw [Array.getElem?_toList, Array.getElem?_eq_getElem h, getElem!_pos d i h]
end Go.Proofs.Ytgpeobmaneponaa
namespace Go.Proofs.Ytgpeobmaneponaa
open Go.RowKit
structure Lies (ty : TypeId) (w : World) (b o : Nat) (cs : List Value) : Prop where
 at_ : w.rangeAt b o cs
 row : ∃ d, Try.prog.underlying ty = some d ∧ d.isRow = true
 size : (Try.prog.info? ty).map (·.size) = some cs.length
section
variable {w w' : World} {b o : Nat} {cs : List Value} {ty : TypeId}
theorem Lies.run (h : Lies ty w b o cs) : (Instr.loadAt ty (.pointer (some ⟨b, o, none⟩))).run Try.prog w = .ok (.agg cs.toArray) w := by
 obtain ⟨d, hu, hd⟩ := h.row
 simp only [Instr.loadAt, Instr.sureAddr, Sem.run_bind, Sem.run_pure, Result.andThen_ok, run_loadVar_mid w b o ty cs d h.at_ hu hd h.size]
theorem wpList_mload {ops : Array Oper} {rest : List Oper} {op : Oper} {a : Act} {Q : Exit → Act → World → Prop} (hw : Region.wanted op (yielded ops a.tmps) = true) (x : Operand) (ho : op.op = .load ty x) (hx : a.eval x = .pointer (some ⟨b, o, none⟩)) (h : Lies ty w b o cs)
  (k : wpList Try.prog ops Q rest (a.put op.dst (.agg cs.toArray)) w) : wpList Try.prog ops Q (op :: rest) a w := by
 unfold wpList
 rw [if_pos hw]
 refine Or.inl ?_
 have hl := h.run
 unfold Oper.wp execOp
 simp only [ho, hx, Sem.run_bind, hl, Result.andThen_ok]
 exact k
theorem exec_mload {f : Operand → Value} {op : Oper} {x : Operand} (ho : op.op = .load ty x) (hx : f x = .pointer (some ⟨b, o, none⟩)) (h : Lies ty w b o cs) : (execOp f op).run Try.prog w = .ok (.value (.agg cs.toArray)) w := by
 have hl := h.run
 unfold execOp
 simp only [ho, hx, Sem.run_bind, hl, Result.andThen_ok]
 rfl
theorem wq_mload {ops : Array Oper} {rest : List Oper} {op : Oper} {a : Act} {C : World → Prop} {Q : Act → Prop} (hw : Region.wanted op (yielded ops a.tmps) = true) (x : Operand) (ho : op.op = .load ty x) (hx : a.eval x = .pointer (some ⟨b, o, none⟩)) (h : ∀ w, C w → Lies ty w b o cs)
  (k : WQ Try.prog ops C Q rest (a.put op.dst (.agg cs.toArray))) : WQ Try.prog ops C Q (op :: rest) a :=
 wq_take hw (fun w hC => exec_mload ho hx (h w hC)) k
theorem Lies.below {B : Nat} (h : Lies ty w b o cs) (hb : Below B w w') (hB : b < B) : Lies ty w' b o cs := ⟨fun j v hv => (hb.cell (p := ⟨b, o + j, none⟩) hB).trans (h.at_ j v hv), h.row, h.size⟩
theorem setRow_alloc (w : World) (old cs : Array Value) (t : TypeId) : (w.alloc (.cells old t)).setRow w.heap.size cs = w.alloc (.cells cs t) := by
 unfold World.setRow World.alloc
 congr 1
 apply Array.ext_getElem?
 intro i
 rw [Array.getElem?_modify]
 by_cases h : w.heap.size = i
 ·subst h
  simp
 ·rw [if_neg h]
  rw [Array.getElem?_push, Array.getElem?_push]
  rw [if_neg (fun e => h e.symm), if_neg (fun e => h e.symm)]
theorem wpList_nstore {ops : Array Oper} {rest : List Oper} {op : Oper} {a : Act} {Q : Exit → Act → World → Prop} {old : Array Value} {t : TypeId} (hw : Region.wanted op (yielded ops a.tmps) = true) (x y : Operand) (ho : op.op = .store ty x y) (hx : a.eval x = .pointer (some ⟨w.heap.size, 0, none⟩)) (hy : a.eval y = .agg cs.toArray)
  (hi : (Try.prog.info? ty).map (·.size) = some cs.length) (hs : old.size = cs.length) (h1 : ∀ u ∈ cs, u.oneCell' = true)
  (k : wpList Try.prog ops Q rest (a.put op.dst undef) (w.alloc (.cells cs.toArray t))) : wpList Try.prog ops Q (op :: rest) a (w.alloc (.cells old t)) := by
 unfold wpList
 rw [if_pos hw]
 refine Or.inl ?_
 have hrow : (w.alloc (.cells old t)).heap[w.heap.size]? = some (.cells old t (0, 0)) := Row.made w t old
 have hl : (Instr.storeAt ty (.pointer (some ⟨w.heap.size, 0, none⟩)) (.agg cs.toArray)).run Try.prog (w.alloc (.cells old t)) = .ok () (w.alloc (.cells cs.toArray t)) := by
  simp only [Instr.storeAt, Instr.sureAddr, Sem.run_bind, Sem.run_pure, Result.andThen_ok]
  rw [run_storeVar_row (P := Try.prog) _ w.heap.size t ty old cs.toArray hrow (by simpa using hi) (by simpa using hs) (all_oneCell_toArray h1), setRow_alloc]
 unfold Oper.wp execOp
 simp only [ho, hx, hy, Sem.run_bind, hl, Result.andThen_ok]
 exact k
theorem row_store {old : Array Value} {t : TypeId} (hrow : Row w b t old) (hi : (Try.prog.info? ty).map (·.size) = some cs.length) (hs : old.size = cs.length) (h1 : ∀ u ∈ cs, u.oneCell' = true) : (Instr.storeAt ty (.pointer (some ⟨b, 0, none⟩)) (.agg cs.toArray)).run Try.prog w = .ok () (w.setRow b cs.toArray) := by
 simp only [Instr.storeAt, Instr.sureAddr, Sem.run_bind, Sem.run_pure, Result.andThen_ok]
 exact run_storeVar_row (P := Try.prog) _ b t ty old cs.toArray hrow (by simpa using hi) (by simpa using hs) (all_oneCell_toArray h1)
theorem row_set {old cs : Array Value} {t : TypeId} (hrow : Row w b t old) : Row (w.setRow b cs) b t cs := setRow_heap w b old cs t (0, 0) hrow
theorem wpList_mstore {ops : Array Oper} {rest : List Oper} {op : Oper} {a : Act} {Q : Exit → Act → World → Prop} (hw : Region.wanted op (yielded ops a.tmps) = true) (x y : Operand) (ho : op.op = .store ty x y) (hx : a.eval x = .pointer (some ⟨b, o, none⟩)) (hy : a.eval y = .agg cs.toArray)
  (ht : w.there b o cs.length) (hi : (Try.prog.info? ty).map (·.size) = some cs.length) (h1 : ∀ u ∈ cs, u.oneCell' = true)
  (k : wpList Try.prog ops Q rest (a.put op.dst undef) (w.setCells b o cs)) : wpList Try.prog ops Q (op :: rest) a w := by
 unfold wpList
 rw [if_pos hw]
 refine Or.inl ?_
 have hl := run_storeAt_mid (P := Try.prog) w b o ty cs.toArray (by simpa using ht) (by simpa using hi) (all_oneCell_toArray h1)
 unfold Oper.wp execOp
 simp only [ho, hx, hy, Sem.run_bind, hl, Result.andThen_ok]
 exact k
end
section
variable {w : World} {b o : Nat} {F : Nat → Prop}
theorem range_row {t : TypeId} {cs : List Value} (h : Row w b t cs.toArray) : w.rangeAt b 0 cs := fun j u hu => by
 rw [Nat.zero_add, h.at, List.getElem?_toArray]; exact hu
theorem range_rws {α : Type} {f : α → List Value} {k n c : Nat} {l : List α} (h : Rws k f w F (.slice (some ⟨b, o, none⟩) n c) l) {j : Nat} {x : α} (hx : l[j]? = some x) : w.rangeAt b (o + j * k) (f x) := by
 obtain ⟨A, c', e, -, hat⟩ := h
 injection e with e1 e2 e3
 obtain ⟨b', o', e, -, -, hc⟩ := hat (by obtain ⟨hl, _⟩ := List.getElem?_eq_some_iff.1 hx; omega)
 rw [e] at e1
 injection e1 with e1
 injection e1 with e1 e2
 subst e1 e2
 exact fun m u hu => hc j x hx m u hu
end
theorem Kept.setRowK (w : World) (b : Nat) (cs : Array Value) : Kept (fun i => i = b) w (w.setRow b cs) :=
 ⟨rfl, rfl, rfl, by show w.heap.size ≤ (w.heap.modify b _).size; simp, fun k _ hn => by
  show (w.heap.modify b _)[k]? = _
  rw [Array.getElem?_modify, if_neg (fun e => hn e.symm)]⟩
section
variable {ops : Array Oper} {o : Oper} {a : Act} {w : World} {K : Act → World → Prop} {Q : Exit → Act → World → Prop} {E : Prop}
theorem step_rstore {ty t : TypeId} {b : Nat} {old : Array Value} {cs : List Value} (x y : Operand) (hgd : o.guard = none) (ho : o.op = .store ty x y) (hx : a.eval x = .pointer (some ⟨b, 0, none⟩)) (hy : a.eval y = .agg cs.toArray)
  (hrow : Row w b t old) (hi : (Try.prog.info? ty).map (·.size) = some cs.length) (hs : old.size = cs.length) (h1 : ∀ u ∈ cs, u.oneCell' = true)
  (k : ∀ w', Row w' b t cs.toArray → Kept (fun i => i = b) w w' → K (a.put o.dst undef) w') : if Region.wanted o (yielded ops a.tmps) = true then Oper.wp Try.prog o a w K Q else E := by
 rw [if_pos (by simp [Region.wanted, hgd])]
 have hl := row_store (ty := ty) hrow hi hs h1
 unfold Oper.wp execOp
 simp only [ho, hx, hy, Sem.run_bind, hl, Result.andThen_ok]
 exact k _ (row_set hrow) (Kept.setRowK _ _ _)
end
theorem wpList_rstore {ops : Array Oper} {rest : List Oper} {op : Oper} {a : Act} {w : World} {Q : Exit → Act → World → Prop} {ty t : TypeId} {b : Nat} {old : Array Value} {cs : List Value} (hw : Region.wanted op (yielded ops a.tmps) = true) (x y : Operand) (ho : op.op = .store ty x y) (hx : a.eval x = .pointer (some ⟨b, 0, none⟩)) (hy : a.eval y = .agg cs.toArray)
  (hrow : Row w b t old) (hi : (Try.prog.info? ty).map (·.size) = some cs.length) (hs : old.size = cs.length) (h1 : ∀ u ∈ cs, u.oneCell' = true)
  (k : ∀ w', Row w' b t cs.toArray → Kept (fun i => i = b) w w' → wpList Try.prog ops Q rest (a.put op.dst undef) w') : wpList Try.prog ops Q (op :: rest) a w := by
 unfold wpList
 rw [if_pos hw]
 refine Or.inl ?_
 have hl := row_store (ty := ty) hrow hi hs h1
 unfold Oper.wp execOp
 simp only [ho, hx, hy, Sem.run_bind, hl, Result.andThen_ok]
 exact k _ (row_set hrow) (Kept.setRowK _ _ _)
theorem wpList_buildK {k : Nat} {ops : Array Oper} {rest : List Oper} {op : Oper} {a : Act} {W : World} {Q : Exit → Act → World → Prop} (hg : op.guard = none) (t e : TypeId) (x : Operand) (ho : op.op = .buildSlice t 1 #[(0, x)]) {cs : List Value} {i : TypeInfo} {z : Value} (hx : a.eval x = .agg cs.toArray)
  (hu : Try.prog.underlying t = some (.slice e)) (hi : Try.prog.info? e = some i) (hz : i.zero = some z) (h67 : i.size = k) (hk0 : 0 < k) (hk1 : k < 1000) (hl : cs.length = k)
  (K : wpList Try.prog ops Q rest (a.put op.dst (.slice (some ⟨W.heap.size, 0, none⟩) 1 1)) (W.alloc (.cells cs.toArray e))) : wpList Try.prog ops Q (op :: rest) a W := by
 refine wpList_buildSlice hg t e 1 #[(0, x)] ho cs.toArray i z hu hi hz (by rw [h67]; omega) (by rw [h67]; omega) ?_ K
 have := Great.fill_whole (s := k) hk0 [.agg cs.toArray] ((Array.range (1 * i.size)).map (z.cells[· % z.cells.size]!)) (fun v hv => by rw [List.mem_singleton.1 hv]; show cs.toArray.size = k; rw [List.size_toArray, hl]) (by rw [h67]; simp)
 rw [h67] at this ⊢
 simpa [hx, Value.cells] using this
theorem rows_made {α : Type} {k : Nat} {f : α → List Value} (w : World) (t : TypeId) (r : α) : Rws k f (w.alloc (.cells (f r).toArray t)) (NewIn w (w.alloc (.cells (f r).toArray t))) (.slice (some ⟨w.heap.size, 0, none⟩) 1 1) [r] := by
 refine ⟨_, 1, rfl, Nat.le_refl _, fun _ => ⟨w.heap.size, 0, rfl, ⟨Nat.le_refl _, by simp⟩, by simp, fun i x hx j u hu => ?_⟩⟩
 have hi : i = 0 := by obtain ⟨h, _⟩ := List.getElem?_eq_some_iff.1 hx; simpa using h
 subst hi
 have e : x = r := by simpa using hx.symm
 subst e
 have := range_row (Row.made w t (f x).toArray) j u hu
 rw [Nat.zero_add] at this
 simpa using this
def setAt (xs : List Value) (o : Nat) : List Value → List Value
 | [] => xs
 | v :: r => setAt (xs.set o v) (o + 1) r
theorem setAt_mid (A B : List Value) : ∀ (us C : List Value) (j : Nat), j + us.length ≤ C.length → setAt (A ++ C ++ B) (A.length + j) us = A ++ setAt C j us ++ B
 | [], _, _, _ => rfl
 | v :: r, C, j, h => by
  have h : j + (r.length + 1) ≤ C.length := h
  show setAt ((A ++ C ++ B).set (A.length + j) v) (A.length + j + 1) r = A ++ setAt (C.set j v) (j + 1) r ++ B
  rw [List.append_assoc, List.set_append_right _ _ (by omega), show A.length + j - A.length = j by omega, List.set_append_left _ _ (by omega), ← List.append_assoc, Nat.add_assoc]
  exact setAt_mid A B r (C.set j v) (j + 1) (by rw [List.length_set]; omega)
theorem setAt_all : ∀ (us xs : List Value), xs.length = us.length → setAt xs 0 us = us
  | [], xs, h => List.eq_nil_of_length_eq_zero h
  | v :: r, [], h => by cases h
  | v :: r, x :: xs, h => by
    show setAt (v :: xs) 1 r = v :: r
    have := setAt_mid [v] [] r xs 0 (by have : xs.length = r.length := by simpa using h
                                        omega)
    simp only [List.append_nil, List.length_singleton, Nat.add_zero, List.singleton_append] at this
    rw [this, setAt_all r xs (by simpa using h)]
section
variable {α : Type} {f : α → List Value} {k : Nat}
theorem kn_flat_at {l : List α} (hk : ∀ x ∈ l, (f x).length = k) {i : Nat} {x : α} (hx : l[i]? = some x) : l.flatMap f = (l.take i).flatMap f ++ f x ++ (l.drop (i + 1)).flatMap f ∧ ((l.take i).flatMap f).length = i * k := by
 obtain ⟨h, e⟩ := List.getElem?_eq_some_iff.1 hx
 constructor
 ·have e2 : l = l.take i ++ x :: l.drop (i + 1) := by rw [← e, List.getElem_cons_drop, List.take_append_drop]
  conv => lhs; rw [e2]
  rw [List.flatMap_append, List.flatMap_cons, List.append_assoc]
 ·rw [rows_len (k := k) (f := f) _ (fun y hy => hk y (List.mem_of_mem_take hy)), List.length_take, Nat.min_eq_left (by omega)]
theorem kn_flat_set {l : List α} (hk : ∀ x ∈ l, (f x).length = k) {i : Nat} {x y : α} (hx : l[i]? = some x) (j : Nat) (us : List Value) (hj : j + us.length ≤ k) (hy : setAt (f x) j us = f y) : setAt (l.flatMap f) (i * k + j) us = (l.set i y).flatMap f := by
 obtain ⟨e1, e2⟩ := kn_flat_at hk hx
 obtain ⟨h, _⟩ := List.getElem?_eq_some_iff.1 hx
 rw [e1, ← e2, setAt_mid _ _ us (f x) j (by rw [hk x (List.mem_of_getElem? hx)]; exact hj), hy, List.set_eq_take_append_cons_drop, if_pos h, List.flatMap_append, List.flatMap_cons, List.append_assoc]
theorem own_setCells {base e size n g cap : Nat} : ∀ (us : List Value) {w : World} {xs : List Value} (j : Nat), w.ownsRow base e size (.slice (some ⟨g, 0, none⟩) n cap) n xs → (w.setCells g j us).ownsRow base e size (.slice (some ⟨g, 0, none⟩) n cap) n (setAt xs j us) ∧ w.grownBy (w.setCells g j us) (some g)
 | [], w, xs, j, h => ⟨h, rfl, rfl, rfl, Nat.le_refl _, fun _ _ _ => rfl⟩
 | u :: us, w, xs, j, h => by
  obtain ⟨h1, h2⟩ := h.stored j u
  obtain ⟨h3, h4⟩ := own_setCells us (j + 1) h1
  exact ⟨h3, gb_trans h2 h4⟩
theorem RowsOwn.putCells {t : TypeId} {w W : World} {l : List α} {g n cap : Nat} (h : RowsOwn t k f w l (.slice (some ⟨g, 0, none⟩) n cap) W) (hn : l.length = n) (hk : ∀ x ∈ l, (f x).length = k) {i : Nat} {x y : α} (hx : l[i]? = some x) (j : Nat) (us : List Value) (hj : j + us.length ≤ k) (hy : setAt (f x) j us = f y) :
  RowsOwn t k f w (l.set i y) (.slice (some ⟨g, 0, none⟩) n cap) (W.setCells g (i * k + j) us) ∧ W.grownBy (W.setCells g (i * k + j) us) (some g) := by
 subst hn
 obtain ⟨h1, h2⟩ := own_setCells us (i * k + j) h.1
 rw [kn_flat_set hk hx j us hj hy] at h1
 refine ⟨⟨by rw [List.length_set]; exact h1, h.2.grown h2 h.2.size (fun m hm => ?_)⟩, h2⟩
 injection hm with hm
 rw [← hm]
 exact (h.1.lt g rfl).1
end
end Go.Proofs.Ytgpeobmaneponaa
namespace Go.Proofs.Ytgpeobmaneponaa
open Go.RowKit Go.Sort
theorem txt_same (p q : List UInt8) : ((mk p).toList == (mk q).toList) = decide (p = q) := by
 rw [Lib.toList_data, Lib.toList_data, mk_data, mk_data]
 by_cases h : p = q
 ·rw [h, decide_eq_true rfl]; exact beq_self_eq_true _
 ·rw [decide_eq_false h, beq_eq_false_iff_ne]; exact h
theorem ver_eqIn (m : Nat) (w : World) (x y : Ver.V) : (Op.equalIn (m + 2) 23 (verA x) (verA y)).run Try.prog w = .ok (decide (x = y)) w := by
 have hS : Try.prog.underlying 23 = some (.struct (Try.prog.fieldsOf 23)) := by kernel_rfl
 have hp : Try.prog.stoodInHeld 23 = false := by kernel_rfl
 have u3 := Try.underlying3
 have a3 := Try.isAgg3
 have z3 := Try.sizeOf3
 obtain ⟨x1, x2⟩ := x
 obtain ⟨y1, y2⟩ := y
 rw [show m + 2 = (m + 1) + 1 from rfl, run_equalIn_agg w (m + 1) 23 _ _ hS hp]
 simp only [Program.fieldsOf, Try.underlying23]
 have hT : ∀ (w : World) (a b : Int), (Op.equalIn (m + 1) 3 (.int .i64 a) (.int .i64 b)).run Try.prog w = .ok (a == b) w := fun w a b => run_equalIn_int w m 3 _ _ a b u3
 simp only [Op.eqFields]
 generalize Op.equalIn (m + 1) = EQ at hT ⊢
 go_simp
 by_cases h0 : x1 = y1 <;> by_cases h1 : x2 = y2 <;> simp [h0, h1]
theorem stp_eqIn (m : Nat) (w : World) (a b : Ver.S) : (Op.equalIn (m + 3) 25 (stpA a) (stpA b)).run Try.prog w = .ok (decide (a = b)) w := by
 have hS : Try.prog.underlying 25 = some (.struct (Try.prog.fieldsOf 25)) := by kernel_rfl
 have hp : Try.prog.stoodInHeld 25 = false := by kernel_rfl
 have u3 := Try.underlying3
 have a3 := Try.isAgg3
 have z3 := Try.sizeOf3
 have a23 := Try.isAgg23
 have z23 := Try.sizeOf23
 obtain ⟨t, x, y⟩ := a
 obtain ⟨t', x', y'⟩ := b
 have hR := fun w => ver_eqIn m w ⟨x, y⟩ ⟨x', y'⟩
 rw [show m + 3 = (m + 2) + 1 from rfl, run_equalIn_agg w (m + 2) 25 _ _ hS hp]
 simp only [Program.fieldsOf, Try.underlying25]
 have hT : ∀ (w : World) (p q : Int), (Op.equalIn (m + 2) 3 (.int .i64 p) (.int .i64 q)).run Try.prog w = .ok (p == q) w := fun w p q => run_equalIn_int w (m + 1) 3 _ _ p q u3
 simp only [Op.eqFields]
 generalize Op.equalIn (m + 2) = EQ at hR hT ⊢
 dsimp only [verA] at hR
 go_simp
 by_cases h0 : t = t' <;> by_cases h1 : x = x' <;> by_cases h2 : y = y' <;> simp [h0, h1, h2]
theorem up_eqIn (w : World) (a b : Upd.U) : (Op.equalIn 10000 27 (upA a) (upA b)).run Try.prog w = .ok (decide (a = b)) w := by
 have hS : Try.prog.underlying 27 = some (.struct (Try.prog.fieldsOf 27)) := by kernel_rfl
 have hp : Try.prog.stoodInHeld 27 = false := by kernel_rfl
 have u9 := Try.underlying9
 have a9 := Try.isAgg9
 have z9 := Try.sizeOf9
 have u4 := Try.underlying4
 have a4 := Try.isAgg4
 have z4 := Try.sizeOf4
 have a23 := Try.isAgg23
 have z23 := Try.sizeOf23
 have a25 := Try.isAgg25
 have z25 := Try.sizeOf25
 obtain ⟨⟨i1, i2⟩, ⟨t, ⟨v1, v2⟩⟩, p, d, dd⟩ := a
 obtain ⟨⟨j1, j2⟩, ⟨s, ⟨u1, u2⟩⟩, q, c, cc⟩ := b
 have hV := fun w => ver_eqIn 9997 w ⟨i1, i2⟩ ⟨j1, j2⟩
 have hW := fun w => stp_eqIn 9996 w ⟨t, ⟨v1, v2⟩⟩ ⟨s, ⟨u1, u2⟩⟩
 have e1 := txt_same p q
 have e2 := txt_same d c
 rw [show (10000 : Nat) = 9999 + 1 from rfl, run_equalIn_agg w 9999 27 _ _ hS hp]
 simp only [Program.fieldsOf, Try.underlying27]
 have hT : ∀ (w : World) (a b : ByteArray), (Op.equalIn 9999 9 (.string a) (.string b)).run Try.prog w = .ok (a.toList == b.toList) w := fun w a b => run_equalIn_string w 9998 9 a b u9
 have hB : ∀ (w : World) (a b : Bool), (Op.equalIn 9999 4 (.bool a) (.bool b)).run Try.prog w = .ok (a == b) w := fun w a b => run_equalIn_bool w 9998 4 a b u4
 simp only [Op.eqFields]
 generalize Op.equalIn 9999 = EQ at hV hW hT hB ⊢
 dsimp only [verA, stpA] at hV hW
 generalize hx : decide ((⟨i1, i2⟩ : Ver.V) = ⟨j1, j2⟩) = k1 at hV
 generalize hy : decide ((⟨t, ⟨v1, v2⟩⟩ : Ver.S) = ⟨s, ⟨u1, u2⟩⟩) = k2 at hW
 generalize hp1 : decide (p = q) = k3 at e1
 generalize hp2 : decide (d = c) = k4 at e2
 have hD : decide ((⟨⟨i1, i2⟩, ⟨t, ⟨v1, v2⟩⟩, p, d, dd⟩ : Upd.U) = ⟨⟨j1, j2⟩, ⟨s, ⟨u1, u2⟩⟩, q, c, cc⟩) = (k1 && (k2 && (k3 && (k4 && (dd == cc))))) := by
  rw [← hx, ← hy, ← hp1, ← hp2, Bool.eq_iff_iff, decide_eq_true_iff]
  simp only [Bool.and_eq_true, decide_eq_true_iff, Upd.U.mk.injEq, beq_iff_eq]
 rw [hD]
 clear hD hx hy hp1 hp2
 generalize mk p = xs at *
 generalize mk q = ys at *
 generalize mk d = zs at *
 generalize mk c = us at *
 go_simp
 cases k1 <;> cases k2 <;> cases k3 <;> cases k4 <;> cases dd <;> cases cc <;> simp [e1, e2]
theorem up_eql (w : World) (a b : Upd.U) : (binOp .eql 27 (upA a) (upA b)).run Try.prog w = .ok (.bool (decide (a = b))) w := by rw [run_eql_struct, up_eqIn]; rfl
theorem up_neql (w : World) (a b : Upd.U) : (binOp .neq 27 (upA a) (upA b)).run Try.prog w = .ok (.bool (!decide (a = b))) w := by rw [run_neq_struct, up_eqIn]; rfl
theorem ver_eql (w : World) (a b : Ver.V) : (binOp .eql 23 (verA a) (verA b)).run Try.prog w = .ok (.bool (decide (a = b))) w := by rw [run_eql_struct, ver_eqIn 9998]; rfl
theorem ver_neql (w : World) (a b : Ver.V) : (binOp .neq 23 (verA a) (verA b)).run Try.prog w = .ok (.bool (!decide (a = b))) w := by rw [run_neq_struct, ver_eqIn 9998]; rfl
theorem stp_eql (w : World) (a b : Ver.S) : (binOp .eql 25 (stpA a) (stpA b)).run Try.prog w = .ok (.bool (decide (a = b))) w := by rw [run_eql_struct, stp_eqIn 9997]; rfl
theorem stp_neql (w : World) (a b : Ver.S) : (binOp .neq 25 (stpA a) (stpA b)).run Try.prog w = .ok (.bool (!decide (a = b))) w := by rw [run_neq_struct, stp_eqIn 9997]; rfl
theorem wpList_bin {P : Program} {ops : Array Oper} {rest : List Oper} {op : Oper} {a : Act} {w : World} {Q : Exit → Act → World → Prop} (hw : Region.wanted op (yielded ops a.tmps) = true) (b : BinOp) (t t2 : TypeId) (x y : Operand) (ho : op.op = .binOp b t x y t2) {us vs : Array Value} {r : Value} (hx : a.eval x = .agg us) (hy : a.eval y = .agg vs) (hm : P.eqGuardType P.depth t = false) (h : (binOp b t (.agg us) (.agg vs)).run P w = .ok r w)
  (k : wpList P ops Q rest (a.put op.dst r) w) : wpList P ops Q (op :: rest) a w := by
 unfold wpList
 rw [if_pos hw]
 refine Or.inl ?_
 unfold Oper.wp execOp
 have hg := run_eqGuard_agg w b t x y us vs hm
 simp only [ho, hx, hy, Sem.run_bind, hg, h, Result.andThen_ok]
 exact k
theorem exec_bin {P : Program} {f : Operand → Value} {op : Oper} {w : World} {b : BinOp} {t t2 : TypeId} {x y : Operand} (ho : op.op = .binOp b t x y t2) {us vs : Array Value} {r : Value} (hx : f x = .agg us) (hy : f y = .agg vs) (hm : P.eqGuardType P.depth t = false) (h : (binOp b t (.agg us) (.agg vs)).run P w = .ok r w) : (execOp f op).run P w = .ok (.value r) w := by
 unfold execOp
 have hg := run_eqGuard_agg w b t x y us vs hm
 simp only [ho, hx, hy, Sem.run_bind, hg, h, Result.andThen_ok]
 rfl
theorem wpList_mstoreV {w : World} {b o : Nat} {cs : List Value} {ty : TypeId} {ops : Array Oper} {rest : List Oper} {op : Oper} {a : Act} {Q : Exit → Act → World → Prop} (hw : Region.wanted op (yielded ops a.tmps) = true) (x y : Operand) (ho : op.op = .store ty x y) (hx : a.eval x = .pointer (some ⟨b, o, none⟩)) (hy : a.eval y = .agg cs.toArray)
  (ht : w.there b o cs.length) (hi : (Try.prog.info? ty).map (·.size) = some cs.length) (h1 : ∀ u ∈ cs, u.oneCell' = true)
  (k : ∀ w', Hid (w' = w.setCells b o cs) → wpList Try.prog ops Q rest (a.put op.dst undef) w') : wpList Try.prog ops Q (op :: rest) a w :=
 wpList_mstore hw x y ho hx hy ht hi h1 (k _ (Lib.hid rfl))
theorem upGuard : Try.prog.eqGuardType Try.prog.depth 27 = false := by kernel_rfl
theorem verGuard : Try.prog.eqGuardType Try.prog.depth 23 = false := by kernel_rfl
theorem stpGuard : Try.prog.eqGuardType Try.prog.depth 25 = false := by kernel_rfl
end Go.Proofs.Ytgpeobmaneponaa
