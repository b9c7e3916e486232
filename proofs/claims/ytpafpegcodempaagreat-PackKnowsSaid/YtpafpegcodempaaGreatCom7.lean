import Derived.Test.YtpafpegcodempaaGreatCom4
import Derived.Test.YtpafpegcodempaaGreatCom6
import Derived.Test.YtpafpegcodempaaGreatCom5
import Derived.Test.YtpafpegcodempaaGreatCom3
import Derived.Deep.WholeRow
import Derived.Deep.MidRow
import Derived.Great.BuildSlice
import Derived.Deep.QuietTactic
set_option maxRecDepth 100000
set_option linter.all false
set_option maxHeartbeats 12800000
namespace Go.Proofs.YtpafpegcodempaaGreat
open Go.RowKit
structure Lies (ty : TypeId) (w : World) (b o : Nat) (cs : List Value) : Prop where
 at_ : w.rangeAt b o cs
 row : ∃ d, Tryz.prog.underlying ty = some d ∧ d.isRow = true
 size : (Tryz.prog.info? ty).map (·.size) = some cs.length
section
variable {w w' : World} {b o : Nat} {cs : List Value} {ty : TypeId}
theorem Lies.run (h : Lies ty w b o cs) : (Instr.loadAt ty (.pointer (some ⟨b, o, none⟩))).run Tryz.prog w = .ok (.agg cs.toArray) w := by
 obtain ⟨d, hu, hd⟩ := h.row
 simp only [Instr.loadAt, Instr.sureAddr, Sem.run_bind, Sem.run_pure, Result.andThen_ok, run_loadVar_mid w b o ty cs d h.at_ hu hd h.size]
theorem wpList_mload {ops : Array Oper} {rest : List Oper} {op : Oper} {a : Act} {Q : Exit → Act → World → Prop} (hw : Region.wanted op (yielded ops a.tmps) = true) (x : Operand) (ho : op.op = .load ty x) (hx : a.eval x = .pointer (some ⟨b, o, none⟩)) (h : Lies ty w b o cs)
  (k : wpList Tryz.prog ops Q rest (a.put op.dst (.agg cs.toArray)) w) : wpList Tryz.prog ops Q (op :: rest) a w := by
 unfold wpList
 rw [if_pos hw]
 refine Or.inl ?_
 have hl := h.run
 unfold Oper.wp execOp
 simp only [ho, hx, Sem.run_bind, hl, Result.andThen_ok]
 exact k
theorem exec_mload {f : Operand → Value} {op : Oper} {x : Operand} (ho : op.op = .load ty x) (hx : f x = .pointer (some ⟨b, o, none⟩)) (h : Lies ty w b o cs) : (execOp f op).run Tryz.prog w = .ok (.value (.agg cs.toArray)) w := by
 have hl := h.run
 unfold execOp
 simp only [ho, hx, Sem.run_bind, hl, Result.andThen_ok]
 rfl
theorem wq_mload {ops : Array Oper} {rest : List Oper} {op : Oper} {a : Act} {C : World → Prop} {Q : Act → Prop} (hw : Region.wanted op (yielded ops a.tmps) = true) (x : Operand) (ho : op.op = .load ty x) (hx : a.eval x = .pointer (some ⟨b, o, none⟩)) (h : ∀ w, C w → Lies ty w b o cs)
  (k : WQ Tryz.prog ops C Q rest (a.put op.dst (.agg cs.toArray))) : WQ Tryz.prog ops C Q (op :: rest) a :=
 wq_take hw (fun w hC => exec_mload ho hx (h w hC)) k
theorem Lies.below {B : Nat} (h : Lies ty w b o cs) (hb : Below B w w') (hB : b < B) : Lies ty w' b o cs := ⟨fun j v hv => (hb.cell (p := ⟨b, o + j, none⟩) hB).trans (h.at_ j v hv), h.row, h.size⟩
theorem Lies.inB (h : Lies ty w b o cs) (hb : b < w.heap.size) (k : InB w w') : Lies ty w' b o cs := h.below k.below hb
theorem setRow_alloc (w : World) (old cs : Array Value) (t : TypeId) : (w.alloc (.cells old t)).setRow w.heap.size cs = w.alloc (.cells cs t) := by
 unfold World.setRow World.alloc
 congr 1
 apply Array.ext_getElem?
 intro i
 rw [Array.getElem?_modify]
 by_cases h : w.heap.size = i
 ·subst h
  simp
 ·rw [if_neg h]
  rw [Array.getElem?_push, Array.getElem?_push]
  rw [if_neg (fun e => h e.symm), if_neg (fun e => h e.symm)]
theorem wpList_nstore {ops : Array Oper} {rest : List Oper} {op : Oper} {a : Act} {Q : Exit → Act → World → Prop} {old : Array Value} {t : TypeId} (hw : Region.wanted op (yielded ops a.tmps) = true) (x y : Operand) (ho : op.op = .store ty x y) (hx : a.eval x = .pointer (some ⟨w.heap.size, 0, none⟩)) (hy : a.eval y = .agg cs.toArray)
  (hi : (Tryz.prog.info? ty).map (·.size) = some cs.length) (hs : old.size = cs.length) (h1 : ∀ u ∈ cs, u.oneCell' = true)
  (k : wpList Tryz.prog ops Q rest (a.put op.dst undef) (w.alloc (.cells cs.toArray t))) : wpList Tryz.prog ops Q (op :: rest) a (w.alloc (.cells old t)) := by
 unfold wpList
 rw [if_pos hw]
 refine Or.inl ?_
 have hrow : (w.alloc (.cells old t)).heap[w.heap.size]? = some (.cells old t (0, 0)) := Row.made w t old
 have hl : (Instr.storeAt ty (.pointer (some ⟨w.heap.size, 0, none⟩)) (.agg cs.toArray)).run Tryz.prog (w.alloc (.cells old t)) = .ok () (w.alloc (.cells cs.toArray t)) := by
  simp only [Instr.storeAt, Instr.sureAddr, Sem.run_bind, Sem.run_pure, Result.andThen_ok]
  rw [run_storeVar_row (P := Tryz.prog) _ w.heap.size t ty old cs.toArray hrow (by simpa using hi) (by simpa using hs) (all_oneCell_toArray h1), setRow_alloc]
 unfold Oper.wp execOp
 simp only [ho, hx, hy, Sem.run_bind, hl, Result.andThen_ok]
 exact k
theorem row_store {old : Array Value} {t : TypeId} (hrow : Row w b t old) (hi : (Tryz.prog.info? ty).map (·.size) = some cs.length) (hs : old.size = cs.length) (h1 : ∀ u ∈ cs, u.oneCell' = true) : (Instr.storeAt ty (.pointer (some ⟨b, 0, none⟩)) (.agg cs.toArray)).run Tryz.prog w = .ok () (w.setRow b cs.toArray) := by
 simp only [Instr.storeAt, Instr.sureAddr, Sem.run_bind, Sem.run_pure, Result.andThen_ok]
 exact run_storeVar_row (P := Tryz.prog) _ b t ty old cs.toArray hrow (by simpa using hi) (by simpa using hs) (all_oneCell_toArray h1)
theorem row_set {old cs : Array Value} {t : TypeId} (hrow : Row w b t old) : Row (w.setRow b cs) b t cs := setRow_heap w b old cs t (0, 0) hrow
theorem wpList_mstore {ops : Array Oper} {rest : List Oper} {op : Oper} {a : Act} {Q : Exit → Act → World → Prop} (hw : Region.wanted op (yielded ops a.tmps) = true) (x y : Operand) (ho : op.op = .store ty x y) (hx : a.eval x = .pointer (some ⟨b, o, none⟩)) (hy : a.eval y = .agg cs.toArray)
  (ht : w.there b o cs.length) (hi : (Tryz.prog.info? ty).map (·.size) = some cs.length) (h1 : ∀ u ∈ cs, u.oneCell' = true)
  (k : wpList Tryz.prog ops Q rest (a.put op.dst undef) (w.setCells b o cs)) : wpList Tryz.prog ops Q (op :: rest) a w := by
 unfold wpList
 rw [if_pos hw]
 refine Or.inl ?_
 have hl := run_storeAt_mid (P := Tryz.prog) w b o ty cs.toArray (by simpa using ht) (by simpa using hi) (all_oneCell_toArray h1)
 unfold Oper.wp execOp
 simp only [ho, hx, hy, Sem.run_bind, hl, Result.andThen_ok]
 exact k
end
section
variable {w : World} {b o : Nat} {F : Nat → Prop}
theorem range_row {t : TypeId} {cs : List Value} (h : Row w b t cs.toArray) : w.rangeAt b 0 cs := fun j u hu => by
 rw [Nat.zero_add, h.at, List.getElem?_toArray]; exact hu
theorem range_rws {α : Type} {f : α → List Value} {k n c : Nat} {l : List α} (h : Rws k f w F (.slice (some ⟨b, o, none⟩) n c) l) {j : Nat} {x : α} (hx : l[j]? = some x) : w.rangeAt b (o + j * k) (f x) := by
 obtain ⟨A, c', e, -, hat⟩ := h
 injection e with e1 e2 e3
 obtain ⟨b', o', e, -, -, hc⟩ := hat (by obtain ⟨hl, _⟩ := List.getElem?_eq_some_iff.1 hx; omega)
 rw [e] at e1
 injection e1 with e1
 injection e1 with e1 e2
 subst e1 e2
 exact fun m u hu => hc j x hx m u hu
end
theorem Kept.setRowK (w : World) (b : Nat) (cs : Array Value) : Kept (fun i => i = b) w (w.setRow b cs) :=
 ⟨rfl, rfl, rfl, by show w.heap.size ≤ (w.heap.modify b _).size; simp, fun k _ hn => by
  show (w.heap.modify b _)[k]? = _
  rw [Array.getElem?_modify, if_neg (fun e => hn e.symm)]⟩
section
variable {ops : Array Oper} {o : Oper} {a : Act} {w : World} {K : Act → World → Prop} {Q : Exit → Act → World → Prop} {E : Prop}
end
theorem wpList_rstore {ops : Array Oper} {rest : List Oper} {op : Oper} {a : Act} {w : World} {Q : Exit → Act → World → Prop} {ty t : TypeId} {b : Nat} {old : Array Value} {cs : List Value} (hw : Region.wanted op (yielded ops a.tmps) = true) (x y : Operand) (ho : op.op = .store ty x y) (hx : a.eval x = .pointer (some ⟨b, 0, none⟩)) (hy : a.eval y = .agg cs.toArray)
  (hrow : Row w b t old) (hi : (Tryz.prog.info? ty).map (·.size) = some cs.length) (hs : old.size = cs.length) (h1 : ∀ u ∈ cs, u.oneCell' = true)
  (k : ∀ w', Row w' b t cs.toArray → Kept (fun i => i = b) w w' → wpList Tryz.prog ops Q rest (a.put op.dst undef) w') : wpList Tryz.prog ops Q (op :: rest) a w := by
 unfold wpList
 rw [if_pos hw]
 refine Or.inl ?_
 have hl := row_store (ty := ty) hrow hi hs h1
 unfold Oper.wp execOp
 simp only [ho, hx, hy, Sem.run_bind, hl, Result.andThen_ok]
 exact k _ (row_set hrow) (Kept.setRowK _ _ _)
theorem wpList_buildK {k : Nat} {ops : Array Oper} {rest : List Oper} {op : Oper} {a : Act} {W : World} {Q : Exit → Act → World → Prop} (hg : op.guard = none) (t e : TypeId) (x : Operand) (ho : op.op = .buildSlice t 1 #[(0, x)]) {cs : List Value} {i : TypeInfo} {z : Value} (hx : a.eval x = .agg cs.toArray)
  (hu : Tryz.prog.underlying t = some (.slice e)) (hi : Tryz.prog.info? e = some i) (hz : i.zero = some z) (h67 : i.size = k) (hk0 : 0 < k) (hk1 : k < 1000) (hl : cs.length = k)
  (K : wpList Tryz.prog ops Q rest (a.put op.dst (.slice (some ⟨W.heap.size, 0, none⟩) 1 1)) (W.alloc (.cells cs.toArray e))) : wpList Tryz.prog ops Q (op :: rest) a W := by
 refine wpList_buildSlice hg t e 1 #[(0, x)] ho cs.toArray i z hu hi hz (by rw [h67]; omega) (by rw [h67]; omega) ?_ K
 have := Great.fill_whole (s := k) hk0 [.agg cs.toArray] ((Array.range (1 * i.size)).map (z.cells[· % z.cells.size]!)) (fun v hv => by rw [List.mem_singleton.1 hv]; show cs.toArray.size = k; rw [List.size_toArray, hl]) (by rw [h67]; simp)
 rw [h67] at this ⊢
 simpa [hx, Value.cells] using this
theorem rows_made {α : Type} {k : Nat} {f : α → List Value} (w : World) (t : TypeId) (r : α) : Rws k f (w.alloc (.cells (f r).toArray t)) (NewIn w (w.alloc (.cells (f r).toArray t))) (.slice (some ⟨w.heap.size, 0, none⟩) 1 1) [r] := by
 refine ⟨_, 1, rfl, Nat.le_refl _, fun _ => ⟨w.heap.size, 0, rfl, ⟨Nat.le_refl _, by simp⟩, by simp, fun i x hx j u hu => ?_⟩⟩
 have hi : i = 0 := by obtain ⟨h, _⟩ := List.getElem?_eq_some_iff.1 hx; simpa using h
 subst hi
 have e : x = r := by simpa using hx.symm
 subst e
 have := range_row (Row.made w t (f x).toArray) j u hu
 rw [Nat.zero_add] at this
 simpa using this
def setAt (xs : List Value) (o : Nat) : List Value → List Value
 | [] => xs
 | v :: r => setAt (xs.set o v) (o + 1) r
theorem setAt_mid (A B : List Value) : ∀ (us C : List Value) (j : Nat), j + us.length ≤ C.length → setAt (A ++ C ++ B) (A.length + j) us = A ++ setAt C j us ++ B
 | [], _, _, _ => rfl
 | v :: r, C, j, h => by
  have h : j + (r.length + 1) ≤ C.length := h
  show setAt ((A ++ C ++ B).set (A.length + j) v) (A.length + j + 1) r = A ++ setAt (C.set j v) (j + 1) r ++ B
  rw [List.append_assoc, List.set_append_right _ _ (by omega), show A.length + j - A.length = j by omega, List.set_append_left _ _ (by omega), ← List.append_assoc, Nat.add_assoc]
  exact setAt_mid A B r (C.set j v) (j + 1) (by rw [List.length_set]; omega)
section
variable {α : Type} {f : α → List Value} {k : Nat}
theorem kn_flat_at {l : List α} (hk : ∀ x ∈ l, (f x).length = k) {i : Nat} {x : α} (hx : l[i]? = some x) : l.flatMap f = (l.take i).flatMap f ++ f x ++ (l.drop (i + 1)).flatMap f ∧ ((l.take i).flatMap f).length = i * k := by
 obtain ⟨h, e⟩ := List.getElem?_eq_some_iff.1 hx
 constructor
 ·have e2 : l = l.take i ++ x :: l.drop (i + 1) := by rw [← e, List.getElem_cons_drop, List.take_append_drop]
  conv => lhs; rw [e2]
  rw [List.flatMap_append, List.flatMap_cons, List.append_assoc]
 ·rw [rows_len (k := k) (f := f) _ (fun y hy => hk y (List.mem_of_mem_take hy)), List.length_take, Nat.min_eq_left (by omega)]
theorem kn_flat_set {l : List α} (hk : ∀ x ∈ l, (f x).length = k) {i : Nat} {x y : α} (hx : l[i]? = some x) (j : Nat) (us : List Value) (hj : j + us.length ≤ k) (hy : setAt (f x) j us = f y) : setAt (l.flatMap f) (i * k + j) us = (l.set i y).flatMap f := by
 obtain ⟨e1, e2⟩ := kn_flat_at hk hx
 obtain ⟨h, _⟩ := List.getElem?_eq_some_iff.1 hx
 rw [e1, ← e2, setAt_mid _ _ us (f x) j (by rw [hk x (List.mem_of_getElem? hx)]; exact hj), hy, List.set_eq_take_append_cons_drop, if_pos h, List.flatMap_append, List.flatMap_cons, List.append_assoc]
theorem own_setCells {base e size n g cap : Nat} : ∀ (us : List Value) {w : World} {xs : List Value} (j : Nat), w.ownsRow base e size (.slice (some ⟨g, 0, none⟩) n cap) n xs → (w.setCells g j us).ownsRow base e size (.slice (some ⟨g, 0, none⟩) n cap) n (setAt xs j us) ∧ w.grownBy (w.setCells g j us) (some g)
 | [], w, xs, j, h => ⟨h, rfl, rfl, rfl, Nat.le_refl _, fun _ _ _ => rfl⟩
 | u :: us, w, xs, j, h => by
  obtain ⟨h1, h2⟩ := h.stored j u
  obtain ⟨h3, h4⟩ := own_setCells us (j + 1) h1
  exact ⟨h3, gb_trans h2 h4⟩
theorem RowsOwn.putCells {t : TypeId} {w W : World} {l : List α} {g n cap : Nat} (h : RowsOwn t k f w l (.slice (some ⟨g, 0, none⟩) n cap) W) (hn : l.length = n) (hk : ∀ x ∈ l, (f x).length = k) {i : Nat} {x y : α} (hx : l[i]? = some x) (j : Nat) (us : List Value) (hj : j + us.length ≤ k) (hy : setAt (f x) j us = f y) :
  RowsOwn t k f w (l.set i y) (.slice (some ⟨g, 0, none⟩) n cap) (W.setCells g (i * k + j) us) ∧ W.grownBy (W.setCells g (i * k + j) us) (some g) := by
 subst hn
 obtain ⟨h1, h2⟩ := own_setCells us (i * k + j) h.1
 rw [kn_flat_set hk hx j us hj hy] at h1
 refine ⟨⟨by rw [List.length_set]; exact h1, h.2.grown h2 h.2.size (fun m hm => ?_)⟩, h2⟩
 injection hm with hm
 rw [← hm]
 exact (h.1.lt g rfl).1
end
open Go.RowKit Go.Sort
theorem pck_layVer {id : FuncId} (L : Lays id) {w : World} {c : Nat} {ok : Bool} (x : Ver.V) (hx : Pck.NnV x) (hE : ErrAt w c ok) :
  Calls Tryz.prog 236 #[.func (.func id) #[] #[.pointer (some ⟨c, 0, none⟩)], verA x] w (PutTo w c ok (Pck.ver x)) := by
 obtain ⟨a, b⟩ := x
 have hcf := run_callFunc_own L.there
 have hcw : c < w.heap.size := Row.inHeap hE
 have FO : ∀ f ∈ [flN a, flN b], FlOk f := by
  intro f hf
  simp only [List.mem_cons, List.not_mem_nil, or_false] at hf
  rcases hf with rfl | rfl
  ·exact flN_ok hx.1.1 hx.1.2
  ·exact flN_ok hx.2.1 hx.2.2
 have AB : allBytes [flN a, flN b] = Pck.ver ⟨a, b⟩ := by simp only [allBytes, List.flatMap_cons, List.flatMap_nil, List.append_nil, flN_all, flT_all]; rfl
 have LY : Hid (∀ (W : World) (bk : Nat), ErrAt W c ok → FieldsAt W bk 0 [flN a, flN b] → bk < W.heap.size → Calls Tryz.prog id #[.slice (some ⟨bk, 0, none⟩) 2 2, .pointer (some ⟨c, 0, none⟩)] W (PutTo W c ok (Pck.ver ⟨a, b⟩))) := Lib.hid (fun W bk h1 h2 h3 => by have := L.lays (cap := 2) h1 h2 h3 (by simp) FO; rwa [AB] at this)
 dsimp only [verA]
 have hbox := Row.made w 51 #[.int .i64 a, .int .i64 b]
 have HX : Hid (∀ W : World, (w.alloc (.cells #[.int .i64 a, .int .i64 b] 51)).grownBy W (some c) → Row W w.heap.size 51 #[.int .i64 a, .int .i64 b]) := Lib.hid (fun W hW => hbox.grown hW (fun e => by injection e with e; omega))
 have E0 : Hid (ErrAt (w.alloc (.cells #[.int .i64 a, .int .i64 b] 51)).drew c ok) := Lib.hid (hE.new _)
 have G0 : Hid (w.grownBy (w.alloc (.cells #[.int .i64 a, .int .i64 b] 51)) (some c)) := Lib.hid (gb_new (gb_refl _ _) _)
 clear hE FO AB hbox hcw hx L
 go_enter Tryz.func236, Tryz.ntmps236
 go_wp2_with fail
 refine wp_region_held_drew (S := (fun w' : World => (w.alloc (.cells #[.int .i64 a, .int .i64 b] 51)).grownBy w' (some c))) (by kernel_rfl) (gb_draw (gb_refl _ _)) (fun hHeld => ?_)
 refine wpAnyH_td (i := 0) rfl ?_
 simp only [zz]
 refine wpAnyH_td (i := 1) rfl ?_
 simp only [zz]
 refine wpAnyH_tk (i := 2) (v := ?_) rfl (Or.inl ⟨by rfl, (by intro w hSw; have c0 := (HX.out _ hSw).at 0; go_simp; try with_reducible rfl)⟩) (by assumption) ?_
 simp only [zz]
 refine wpAnyH_td (i := 4) rfl ?_
 simp only [zz]
 refine wpAnyH_tk (i := 5) (v := ?_) rfl (Or.inl ⟨by rfl, (by intro w hSw; have c1 := (HX.out _ hSw).at 1; go_simp; try with_reducible rfl)⟩) (by assumption) ?_
 simp only [zz]
 refine wpAnyH_ready (rs := [3]) (by kernel_rfl) (by simp) ?_
 refine AllReadyH.cons rfl (fun K hK => ?_) AllReadyH.nil
 go_simp
 go_at_call 121
 refine (field_n _ _).mono ?_
 rintro e w3 ⟨rfl, hb⟩
 have E3 := Lib.hid (E0.out.below hb)
 refine hK.out _ _ (gb_trans hHeld (gb_below hb _)) (fun hHeld => ?_)
 clear hb
 clear hK K
 refine wpAnyH_ready (rs := [6]) (by kernel_rfl) (by simp) ?_
 refine AllReadyH.cons rfl (fun K hK => ?_) AllReadyH.nil
 go_simp
 go_at_call 121
 refine (field_n _ _).mono ?_
 rintro e w6 ⟨rfl, hb⟩
 have E6 := Lib.hid (E3.out.below hb)
 refine hK.out _ _ (gb_trans hHeld (gb_below hb _)) (fun hHeld => ?_)
 clear hb
 clear hK K
 refine wpAnyH_ready (rs := [7]) (by kernel_rfl) (by simp) ?_
 refine AllReadyH.cons rfl (fun K hK => ?_) AllReadyH.nil
 go_simp
 have E7 : Hid (ErrAt (w6.alloc (.cells #[.int .i64 a, .string ⟨#[]⟩, .bool false, .int .i64 b, .string ⟨#[]⟩, .bool false] 164)) c ok) := Lib.hid (E6.out.new _)
 have F7 : Hid (FieldsAt (w6.alloc (.cells #[.int .i64 a, .string ⟨#[]⟩, .bool false, .int .i64 b, .string ⟨#[]⟩, .bool false] 164)) w6.heap.size 0 [flN a, flN b]) := Lib.hid (fields_at (Rws.made w6 164 [flN a, flN b] (fun f _ => fl3_len f)) (by simp))
 refine hK.out _ _ (gb_new hHeld _) (fun hHeld => ?_)
 clear hK K
 refine wpAnyH_ready (rs := [8]) (by kernel_rfl) (by simp) ?_
 refine AllReadyH.cons rfl (fun K hK => ?_) AllReadyH.nil
 go_simp
 refine (LY.out _ _ E7.out F7.out (by simp)).mono ?_
 rintro e w9 ⟨rfl, h8, h9⟩
 have E9 := Lib.hid h8
 have G9 := Lib.hid (gb_trans hHeld h9)
 refine hK.out _ _ G9.out (fun hHeld => ?_)
 clear h8 h9
 clear hK K
 refine wpAnyH_td (i := 9) rfl ?_
 simp only [zz]
 refine wpAnyH_done (by kernel_rfl) ?_ _
 go_wp2_with fail
 go_ret
 exact ⟨rfl, E9.out, gb_trans G0.out G9.out⟩
theorem pck_layCl {id : FuncId} (L : Lays id) {w : World} {c : Nat} {ok : Bool} (x : Flt.Cl) (hx : Flt.Right x) (hE : ErrAt w c ok) :
  Calls Tryz.prog 230 #[.func (.func id) #[] #[.pointer (some ⟨c, 0, none⟩)], clA x] w (PutTo w c ok (Pck.cl x)) := by
 obtain ⟨p, a, b⟩ := x
 have hcf := run_callFunc_own L.there
 have hcw : c < w.heap.size := Row.inHeap hE
 have FO : ∀ f ∈ [flT p, flN a, flN b], FlOk f := by
  intro f hf
  simp only [List.mem_cons, List.not_mem_nil, or_false] at hf
  have h0 := Pck.right_pre hx
  obtain ⟨-, h1, h2, h3⟩ := hx
  dsimp only at h0 h1 h2 h3
  rcases hf with rfl | rfl | rfl
  ·exact flT_ok (by omega)
  ·exact flN_ok h1 (by omega)
  ·exact flN_ok (by omega) (by omega)
 have AB : allBytes [flT p, flN a, flN b] = Pck.cl ⟨p, a, b⟩ := by simp only [allBytes, List.flatMap_cons, List.flatMap_nil, List.append_nil, flN_all, flT_all]; rfl
 have LY : Hid (∀ (W : World) (bk : Nat), ErrAt W c ok → FieldsAt W bk 0 [flT p, flN a, flN b] → bk < W.heap.size → Calls Tryz.prog id #[.slice (some ⟨bk, 0, none⟩) 3 3, .pointer (some ⟨c, 0, none⟩)] W (PutTo W c ok (Pck.cl ⟨p, a, b⟩))) := Lib.hid (fun W bk h1 h2 h3 => by have := L.lays (cap := 3) h1 h2 h3 (by simp) FO; rwa [AB] at this)
 dsimp only [clA]
 have FF : Hid (∀ W : World, FieldsAt (W.alloc (.cells #[.int .i64 0, .string (mk p), .bool true, .int .i64 a, .string ⟨#[]⟩, .bool false, .int .i64 b, .string ⟨#[]⟩, .bool false] 164)) W.heap.size 0 [flT p, flN a, flN b]) := Lib.hid (fun W => fields_at (Rws.made W 164 [flT p, flN a, flN b] (fun f _ => fl3_len f)) (by simp))
 generalize hq : mk p = q at *
 clear hq
 have hbox := Row.made w 116 #[.string q, .int .i64 a, .int .i64 b]
 have HX : Hid (∀ W : World, (w.alloc (.cells #[.string q, .int .i64 a, .int .i64 b] 116)).grownBy W (some c) → Row W w.heap.size 116 #[.string q, .int .i64 a, .int .i64 b]) := Lib.hid (fun W hW => hbox.grown hW (fun e => by injection e with e; omega))
 have E0 : Hid (ErrAt (w.alloc (.cells #[.string q, .int .i64 a, .int .i64 b] 116)).drew c ok) := Lib.hid (hE.new _)
 have G0 : Hid (w.grownBy (w.alloc (.cells #[.string q, .int .i64 a, .int .i64 b] 116)) (some c)) := Lib.hid (gb_new (gb_refl _ _) _)
 clear hE FO AB hbox hcw hx L
 go_enter Tryz.func230, Tryz.ntmps230
 go_wp2_with fail
 refine wp_region_held_drew (S := (fun w' : World => (w.alloc (.cells #[.string q, .int .i64 a, .int .i64 b] 116)).grownBy w' (some c))) (by kernel_rfl) (gb_draw (gb_refl _ _)) (fun hHeld => ?_)
 refine wpAnyH_td (i := 0) rfl ?_
 simp only [zz]
 refine wpAnyH_td (i := 1) rfl ?_
 simp only [zz]
 refine wpAnyH_tk (i := 2) (v := ?_) rfl (Or.inl ⟨by rfl, (by intro w hSw; have c0 := (HX.out _ hSw).at 0; go_simp; try with_reducible rfl)⟩) (by assumption) ?_
 simp only [zz]
 refine wpAnyH_td (i := 4) rfl ?_
 simp only [zz]
 refine wpAnyH_td (i := 5) rfl ?_
 simp only [zz]
 refine wpAnyH_tk (i := 6) (v := ?_) rfl (Or.inl ⟨by rfl, (by intro w hSw; have c1 := (HX.out _ hSw).at 1; go_simp; try with_reducible rfl)⟩) (by assumption) ?_
 simp only [zz]
 refine wpAnyH_td (i := 8) rfl ?_
 simp only [zz]
 refine wpAnyH_td (i := 9) rfl ?_
 simp only [zz]
 refine wpAnyH_tk (i := 10) (v := ?_) rfl (Or.inl ⟨by rfl, (by intro w hSw; have c2 := (HX.out _ hSw).at 2; go_simp; try with_reducible rfl)⟩) (by assumption) ?_
 simp only [zz]
 refine wpAnyH_ready (rs := [3]) (by kernel_rfl) (by simp) ?_
 refine AllReadyH.cons rfl (fun K hK => ?_) AllReadyH.nil
 go_simp
 go_at_call 173
 refine (field_t _ _).mono ?_
 rintro e w3 ⟨rfl, hb⟩
 have E3 := Lib.hid (E0.out.below hb)
 refine hK.out _ _ (gb_trans hHeld (gb_below hb _)) (fun hHeld => ?_)
 clear hb
 clear hK K
 refine wpAnyH_ready (rs := [7]) (by kernel_rfl) (by simp) ?_
 refine AllReadyH.cons rfl (fun K hK => ?_) AllReadyH.nil
 go_simp
 go_at_call 121
 refine (field_n _ _).mono ?_
 rintro e w7 ⟨rfl, hb⟩
 have E7 := Lib.hid (E3.out.below hb)
 refine hK.out _ _ (gb_trans hHeld (gb_below hb _)) (fun hHeld => ?_)
 clear hb
 clear hK K
 refine wpAnyH_ready (rs := [11]) (by kernel_rfl) (by simp) ?_
 refine AllReadyH.cons rfl (fun K hK => ?_) AllReadyH.nil
 go_simp
 go_at_call 121
 refine (field_n _ _).mono ?_
 rintro e w11 ⟨rfl, hb⟩
 have E11 := Lib.hid (E7.out.below hb)
 refine hK.out _ _ (gb_trans hHeld (gb_below hb _)) (fun hHeld => ?_)
 clear hb
 clear hK K
 refine wpAnyH_ready (rs := [12]) (by kernel_rfl) (by simp) ?_
 refine AllReadyH.cons rfl (fun K hK => ?_) AllReadyH.nil
 go_simp
 have E12 : Hid (ErrAt (w11.alloc (.cells #[.int .i64 0, .string q, .bool true, .int .i64 a, .string ⟨#[]⟩, .bool false, .int .i64 b, .string ⟨#[]⟩, .bool false] 164)) c ok) := Lib.hid (E11.out.new _)
 have F12 : Hid (FieldsAt (w11.alloc (.cells #[.int .i64 0, .string q, .bool true, .int .i64 a, .string ⟨#[]⟩, .bool false, .int .i64 b, .string ⟨#[]⟩, .bool false] 164)) w11.heap.size 0 [flT p, flN a, flN b]) := Lib.hid (FF.out w11)
 refine hK.out _ _ (gb_new hHeld _) (fun hHeld => ?_)
 clear hK K
 refine wpAnyH_ready (rs := [13]) (by kernel_rfl) (by simp) ?_
 refine AllReadyH.cons rfl (fun K hK => ?_) AllReadyH.nil
 go_simp
 refine (LY.out _ _ E12.out F12.out (by simp)).mono ?_
 rintro e w9 ⟨rfl, h8, h9⟩
 have E9 := Lib.hid h8
 have G9 := Lib.hid (gb_trans hHeld h9)
 refine hK.out _ _ G9.out (fun hHeld => ?_)
 clear h8 h9
 clear hK K
 refine wpAnyH_td (i := 14) rfl ?_
 simp only [zz]
 refine wpAnyH_done (by kernel_rfl) ?_ _
 go_wp2_with fail
 go_ret
 exact ⟨rfl, E9.out, gb_trans G0.out G9.out⟩
open Go.RowKit Go.Sort
theorem pck_n {w : World} {b : Nat} {l : List UInt8} {e : Int} (h : RdL w b l e) (hm : l.length ≤ 100000) :
  Calls Tryz.prog 143 #[.pointer (some ⟨b, 0, none⟩)] w fun ed w' => ed = .returned (.int .i64 (Pck.rn l e).1) ∧ RdL w' b (Pck.rn l e).2.1 (Pck.rn l e).2.2 ∧ w.grownBy w' (some b) := n_any h (by omega)
theorem pck_t {w : World} {b : Nat} {l : List UInt8} {e : Int} (h : RdL w b l e) (hm : l.length ≤ 100000) :
  Calls Tryz.prog 139 #[.pointer (some ⟨b, 0, none⟩)] w fun ed w' => ed = .returned (.string (mk (Pck.rt l e).1)) ∧ RdL w' b (Pck.rt l e).2.1 (Pck.rt l e).2.2 ∧ w.grownBy w' (some b) := t_any h (by omega)
theorem pck_inner {w : World} {b : Nat} {l : List UInt8} {e : Int} (h : RdL w b l e) (hm : l.length ≤ 100000) :
  Calls Tryz.prog 180 #[.pointer (some ⟨b, 0, none⟩)] w fun ed w' => ∃ p, ed = .returned (.pointer (some ⟨p, 0, none⟩)) ∧ RdL w' p (stepT l e).1 0 ∧ w.heap.size ≤ p ∧ RdL w' b (stepT l e).2.1 (stepT l e).2.2 ∧ w.grownBy w' (some b) := by
 have N1 := Lib.hid (pck_t h hm)
 have hbw : b < w.heap.size := Row.inHeap h
 have HB := Lib.hid hbw
 unfold Pck.rt at N1
 generalize stepT l e = s1 at *
 obtain ⟨t, l1, e1⟩ := s1
 dsimp only at N1 ⊢
 have OV := Lib.hid (fun W => over_any (mk t) W)
 rw [mk_data] at OV
 generalize mk t = x at *
 clear h hm hbw
 go_enter Tryz.func180, Tryz.ntmps180
 go_wp2_with fail
 refine N1.out.mono ?_
 rintro ed w1 ⟨rfl, h1, g1⟩
 have D1 := Lib.hid h1
 have G1 := Lib.hid g1
 clear h1 g1
 go_wp2_with fail
 refine (OV.out _).mono ?_
 rintro ed w2 ⟨rfl, h2, b2⟩
 have D2 := Lib.hid h2
 have B2 := Lib.hid b2
 clear h2 b2
 go_wp2_with fail
 go_ret
 exact ⟨_, rfl, D2.out, G1.out.size, Row.below D1.out B2.out (Row.inHeap D1.out), gb_trans G1.out (gb_below B2.out _)⟩
theorem pck_ver {w : World} {b : Nat} {l : List UInt8} {e : Int} (h : RdL w b l e) (hm : l.length ≤ 100000) :
  Calls Tryz.prog 269 #[.pointer (some ⟨b, 0, none⟩)] w fun ed w' => ed = .returned (verA (Pck.rdVer l e).1) ∧ RdL w' b (Pck.rdVer l e).2.1 (Pck.rdVer l e).2.2 ∧ w.grownBy w' (some b) := by
 have hbw : b < w.heap.size := Row.inHeap h
 simp only [Pck.rdVer, Pck.bnd, Pck.ret]
 have hl1 := Pck.rn_left l e
 have N1 := Lib.hid (fun (W : World) (h : RdL W b l e) => pck_n h (by omega))
 generalize Pck.rn l e = s1 at *
 obtain ⟨x, l1, e1⟩ := s1
 dsimp only at hl1 N1 ⊢
 have hl2 := Pck.rn_left l1 e1
 have N2 := Lib.hid (fun (W : World) (h : RdL W b l1 e1) => pck_n h (by omega))
 generalize Pck.rn l1 e1 = s2 at *
 obtain ⟨y, l2, e2⟩ := s2
 dsimp only at hl2 N2 ⊢
 clear hl1 hl2
 dsimp only [verA]
 have D0 : Hid (RdL (w.alloc (.cells #[.int .i64 0, .int .i64 0] 51)) b l e) := Lib.hid (Row.behindNew h _)
 have G0 := Lib.hid (gb_new (gb_refl w (some b)) (.cells #[.int .i64 0, .int .i64 0] 51))
 have R0 := Lib.hid (Row.made w 51 #[.int .i64 0, .int .i64 0])
 have Hne : Hid (some b ≠ some w.heap.size) := Lib.hid (fun e => by injection e with e; omega)
 have Hsz : Hid ((Tryz.prog.info? 51).map (·.size) = some 2) := Lib.hid (by kernel_rfl)
 clear h hm hbw
 go_enter Tryz.func269, Tryz.ntmps269
 go_wp2_with fail
 refine (N1.out _ D0.out).mono ?_
 rintro ed w1 ⟨rfl, h1, g1⟩
 have R1 := Lib.hid (R0.out.grown g1 Hne.out)
 have D1 := Lib.hid h1
 have G1 := Lib.hid (gb_trans G0.out g1)
 clear h1 g1
 go_wp2_with fail
 refine (N2.out _ D1.out).mono ?_
 rintro ed w2 ⟨rfl, h1, g1⟩
 have R2 := Lib.hid (R1.out.grown g1 Hne.out)
 have D2 := Lib.hid h1
 have G2 := Lib.hid (gb_trans G1.out g1)
 clear h1 g1
 go_wp2_with (refine wpList_rstore (cs := [.int .i64 x, .int .i64 y]) (by rfl) (.tmp 2) (.tmp 7) (by rfl) (by rfl) (by rfl) R2.out Hsz.out rfl (by simp [Value.oneCell']) ?_)
 rintro w9 hr9 hk9
 have R9 := Lib.hid hr9
 have D9 : Hid (RdL w9 b l2 e2) := Lib.hid (Row.kept D2.out hk9 (fun e => Hne.out (congrArg some e)))
 have G9 := Lib.hid (gb_kept G2.out hk9 (fun i e => by omega))
 clear hr9 hk9
 go_wp2_with fail
 exact bodyPost_ret (v := .agg #[.int .i64 x, .int .i64 y]) (results_cell_row (by rfl) _ _ w.heap.size 51 _ (0, 0) _ (by rfl) R9.out Tryz.underlying51 rfl Hsz.out) rfl ⟨rfl, D9.out, G9.out⟩
theorem pck_cl {w : World} {b : Nat} {l : List UInt8} {e : Int} (h : RdL w b l e) (hm : l.length ≤ 100000) :
  Calls Tryz.prog 279 #[.pointer (some ⟨b, 0, none⟩)] w fun ed w' => ed = .returned (clA (Pck.rdCl l e).1) ∧ RdL w' b (Pck.rdCl l e).2.1 (Pck.rdCl l e).2.2 ∧ w.grownBy w' (some b) := by
 have hbw : b < w.heap.size := Row.inHeap h
 simp only [Pck.rdCl, Pck.bnd, Pck.ret]
 have hl1 := (Pck.rt_left l e).2
 have N1 := Lib.hid (fun (W : World) (h : RdL W b l e) => pck_t h (by omega))
 generalize Pck.rt l e = s1 at *
 obtain ⟨p, l1, e1⟩ := s1
 dsimp only at hl1 N1 ⊢
 have hl2 := Pck.rn_left l1 e1
 have N2 := Lib.hid (fun (W : World) (h : RdL W b l1 e1) => pck_n h (by omega))
 generalize Pck.rn l1 e1 = s2 at *
 obtain ⟨x, l2, e2⟩ := s2
 dsimp only at hl2 N2 ⊢
 have hl3 := Pck.rn_left l2 e2
 have N3 := Lib.hid (fun (W : World) (h : RdL W b l2 e2) => pck_n h (by omega))
 generalize Pck.rn l2 e2 = s3 at *
 obtain ⟨y, l3, e3⟩ := s3
 dsimp only at hl3 N3 ⊢
 clear hl1 hl2 hl3
 dsimp only [clA]
 generalize mk p = pb at *
 have D0 : Hid (RdL (w.alloc (.cells #[.string ⟨#[]⟩, .int .i64 0, .int .i64 0] 116)) b l e) := Lib.hid (Row.behindNew h _)
 have G0 := Lib.hid (gb_new (gb_refl w (some b)) (.cells #[.string ⟨#[]⟩, .int .i64 0, .int .i64 0] 116))
 have R0 := Lib.hid (Row.made w 116 #[.string ⟨#[]⟩, .int .i64 0, .int .i64 0])
 have Hne : Hid (some b ≠ some w.heap.size) := Lib.hid (fun e => by injection e with e; omega)
 have Hsz : Hid ((Tryz.prog.info? 116).map (·.size) = some 3) := Lib.hid (by kernel_rfl)
 clear h hm hbw
 go_enter Tryz.func279, Tryz.ntmps279
 go_wp2_with fail
 refine (N1.out _ D0.out).mono ?_
 rintro ed w1 ⟨rfl, h1, g1⟩
 have R1 := Lib.hid (R0.out.grown g1 Hne.out)
 have D1 := Lib.hid h1
 have G1 := Lib.hid (gb_trans G0.out g1)
 clear h1 g1
 go_wp2_with fail
 refine (N2.out _ D1.out).mono ?_
 rintro ed w2 ⟨rfl, h1, g1⟩
 have R2 := Lib.hid (R1.out.grown g1 Hne.out)
 have D2 := Lib.hid h1
 have G2 := Lib.hid (gb_trans G1.out g1)
 clear h1 g1
 go_wp2_with fail
 refine (N3.out _ D2.out).mono ?_
 rintro ed w3 ⟨rfl, h1, g1⟩
 have R3 := Lib.hid (R2.out.grown g1 Hne.out)
 have D3 := Lib.hid h1
 have G3 := Lib.hid (gb_trans G2.out g1)
 clear h1 g1
 go_wp2_with (refine wpList_rstore (cs := [.string pb, .int .i64 x, .int .i64 y]) (by rfl) (.tmp 2) (.tmp 10) (by rfl) (by rfl) (by rfl) R3.out Hsz.out rfl (by simp [Value.oneCell']) ?_)
 rintro w9 hr9 hk9
 have R9 := Lib.hid hr9
 have D9 : Hid (RdL w9 b l3 e3) := Lib.hid (Row.kept D3.out hk9 (fun e => Hne.out (congrArg some e)))
 have G9 := Lib.hid (gb_kept G3.out hk9 (fun i e => by omega))
 clear hr9 hk9
 go_wp2_with fail
 exact bodyPost_ret (v := .agg #[.string pb, .int .i64 x, .int .i64 y]) (results_cell_row (by rfl) _ _ w.heap.size 116 _ (0, 0) _ (by rfl) R9.out Tryz.underlying116 rfl Hsz.out) rfl ⟨rfl, D9.out, G9.out⟩
open Go.RowKit Go.Sort
theorem ver_drews (w : World) (n : Nat) : Below w.heap.size w (w.drewN n) := ⟨rfl, rfl, rfl, Nat.le_refl _, fun _ _ => rfl⟩
theorem laid_one (w : World) (o : Obj) : Laid w (w.alloc o) := Laid.new w o
theorem laid_two (w : World) (o p : Obj) : Laid w ((w.alloc o).alloc p) := (Laid.new w o).trans (Laid.new _ p)
theorem ref_vright (w : World) (v : Ver.V) : Calls Tryz.prog 87 #[verA v] w fun e w' => e = .returned (.bool (decide (Ver.Right v))) ∧ Laid w w' := by
 have L := Lib.hid (laid_one w)
 have e : decide (Ver.Right v) = (decide ((1 : Int) ≤ v.by_) && (decide (v.by_ ≤ 64) && decide ((1 : Int) ≤ v.n))) := by rw [Bool.eq_iff_iff, decide_eq_true_iff]; simp [Ver.Right]
 have E := Lib.hid e
 clear e
 obtain ⟨x, y⟩ := v
 simp only at E ⊢
 by_cases h1 : (1 : Int) ≤ x
 ·by_cases h2 : x ≤ 64
  ·go_enter Tryz.func87, Tryz.ntmps87
   go_wp2_with fail
   go_ret
   exact ⟨by rw [E.out]; first | (simp [h1, h2]; done) | (simp [h1, h2]; omega), L.out _⟩
  ·go_enter Tryz.func87, Tryz.ntmps87
   go_wp2_with fail
   go_ret
   exact ⟨by rw [E.out]; first | (simp [h1, h2]; done) | (simp [h1, h2]; omega), L.out _⟩
 ·go_enter Tryz.func87, Tryz.ntmps87
  go_wp2_with fail
  go_ret
  exact ⟨by rw [E.out]; first | (simp [h1]; done) | (simp [h1]; omega), L.out _⟩
theorem before_alt (x y x' y' : Int) : decide (Ver.Before ⟨x, y⟩ ⟨x', y'⟩) = (decide (x < x') || (decide (x = x') && decide (y < y'))) := by rw [Bool.eq_iff_iff, decide_eq_true_iff]; simp [Ver.Before]
theorem ref_vbefore (w : World) (a b : Ver.V) : Calls Tryz.prog 54 #[verA a, verA b] w fun e w' => e = .returned (.bool (decide (Ver.Before a b))) ∧ Laid w w' := by
 have L := Lib.hid (laid_two w)
 obtain ⟨x, y⟩ := a
 obtain ⟨x', y'⟩ := b
 have E := Lib.hid (before_alt x y x' y')
 by_cases h1 : x < x'
 ·go_enter Tryz.func54, Tryz.ntmps54
  go_wp2_with fail
  go_ret
  exact ⟨by rw [E.out]; first | (simp [h1]; done) | (simp [h1]; omega), L.out _ _⟩
 ·by_cases h2 : x = x'
  ·subst h2
   go_enter Tryz.func54, Tryz.ntmps54
   go_wp2_with fail
   go_ret
   exact ⟨by rw [E.out]; first | (simp [h1]; done) | (simp [h1]; omega), L.out _ _⟩
  ·go_enter Tryz.func54, Tryz.ntmps54
   go_wp2_with fail
   go_ret
   exact ⟨by rw [E.out]; first | (simp [h1, h2]; done) | (simp [h1, h2]; omega), L.out _ _⟩
end Go.Proofs.YtpafpegcodempaaGreat
