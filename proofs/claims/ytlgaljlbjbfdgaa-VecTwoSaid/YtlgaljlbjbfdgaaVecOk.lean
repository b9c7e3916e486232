/- What the package vec is to answer to layer 13's laws and those above (VecOk); vectors in memory: an array by value in a block of its own. -/
import Derived.Test.YtlgaljlbjbfdgaaVecArr
import Derived.Test.YtlgaljlbjbfdgaaVerOk
import Derived.Test.YtlgaljlbjbfdgaaQuietB
import Derived.Deep.WholeRow
import Derived.Deep.MidRow
set_option linter.unusedSimpArgs false
set_option linter.unusedVariables false
namespace Go.Proofs.Ytlgaljlbjbfdgaa
open Go.RowKit

/-- A vector's cells. -/
def vecL (v : List Int) : List Value := v.map (Value.int .i64)
def vecR (v : List Int) : Array Value := (vecL v).toArray
abbrev vecA (v : List Int) : Value := .agg (vecR v)
/-- No versions. -/
def Vec.zeros : List Int := List.replicate 65 0
set_option maxRecDepth 100000 in
theorem Vec.zeros_len : Vec.zeros.length = 65 := List.length_replicate
set_option maxRecDepth 100000 in
theorem Vec.zeros_plain : Vec.Plain Vec.zeros := Vec.zero_plain

set_option maxRecDepth 100000 in
theorem vecL_len (v : List Int) : (vecL v).length = v.length := List.length_map ..
set_option maxRecDepth 100000 in
theorem vecR_size {v : List Int} (h : v.length = 65) : (vecR v).size = 65 := by unfold vecR; rw [List.size_toArray, vecL_len, h]
set_option maxRecDepth 100000 in
theorem vecR_get {v : List Int} {i : Nat} {n : Int} (h : v[i]? = some n) : (vecR v)[i]? = some (.int .i64 n) := by
  unfold vecR vecL
  rw [List.getElem?_toArray, List.getElem?_map, h]; rfl
set_option maxRecDepth 100000 in
theorem vecR_one (v : List Int) : (vecR v).all (·.oneCell') = true := all_oneCell_toArray (fun u hu => by
  obtain ⟨n, _, rfl⟩ := List.mem_map.1 hu
  rfl)
set_option maxRecDepth 100000 in
theorem vecR_set (v : List Int) (i : Nat) (n : Int) : (vecR v).setIfInBounds i (.int .i64 n) = vecR (v.set i n) := by
  unfold vecR vecL
  rw [List.setIfInBounds_toArray, List.map_set]
set_option maxRecDepth 100000 in
theorem vecInfo : (Try.prog.info? 23).map (fun i => (i.zero, i.size)) = some (some (vecA Vec.zeros), 65) := by kernel_rfl
set_option maxRecDepth 100000 in
theorem vecZero (w : World) : (zeroValue 23).run Try.prog w = .ok (vecA Vec.zeros) w := (zero_of_info vecInfo).1 w
set_option maxRecDepth 100000 in
theorem vecSize {v : List Int} (h : v.length = 65) : (Try.prog.info? 23).map (·.size) = some (vecR v).size := by rw [vecR_size h]; exact (zero_of_info vecInfo).2

/-- Block b is the vector v, writable. -/
def VRow (w : World) (b : Nat) (v : List Int) : Prop := Row w b 23 (vecR v) ∧ v.length = 65

section
variable {w w' a : World} {b : Nat} {v : List Int}
set_option maxRecDepth 100000 in
theorem VRow.row (h : VRow w b v) : Row w b 23 (vecR v) := h.1
set_option maxRecDepth 100000 in
theorem VRow.len (h : VRow w b v) : v.length = 65 := h.2
set_option maxRecDepth 100000 in
theorem VRow.inHeap (h : VRow w b v) : b < w.heap.size := h.1.inHeap
set_option maxRecDepth 100000 in
theorem VRow.at (h : VRow w b v) {i : Nat} {n : Int} (hn : v[i]? = some n) : w.cell? ⟨b, i, none⟩ = some (.int .i64 n) := by rw [h.1.at, vecR_get hn]
set_option maxRecDepth 100000 in
theorem VRow.free (h : VRow w b v) (i : Nat) : w.frozen? ⟨b, i, none⟩ = false := h.1.free i
set_option maxRecDepth 100000 in
theorem VRow.made (w : World) (hv : v.length = 65) : VRow (w.alloc (.cells (vecR v) 23)) w.heap.size v := ⟨Row.made w _ _, hv⟩
set_option maxRecDepth 100000 in
theorem VRow.stored (h : VRow w b v) (i : Nat) (n : Int) : VRow (w.setCell ⟨b, i, none⟩ (.int .i64 n)) b (v.set i n) := ⟨by have := h.1.stored i (.int .i64 n); rwa [vecR_set] at this, by rw [List.length_set]; exact h.2⟩
set_option maxRecDepth 100000 in
theorem VRow.below {B : Nat} (h : VRow w b v) (hb : Below B w w') (hB : b < B) : VRow w' b v := ⟨h.1.below hb hB, h.2⟩
set_option maxRecDepth 100000 in
theorem VRow.load (h : VRow w b v) : (Instr.loadAt 23 (.pointer (some ⟨b, 0, none⟩))).run Try.prog w = .ok (vecA v) w := by
  simp only [Instr.loadAt, Instr.sureAddr, Sem.run_bind, Sem.run_pure, Result.andThen]
  exact run_loadVar_row _ _ _ _ _ (0, 0) _ h.1 Try.underlying23 rfl (vecSize h.2)
set_option maxRecDepth 100000 in
theorem VRow.set (h : VRow w b v) (u : List Int) (hu : u.length = 65) : VRow (w.setRow b (vecR u)) b u := by
  have h1 : w.heap[b]? = some (Obj.cells (vecR v) 23 (0, 0)) := h.1
  refine ⟨?_, hu⟩
  show (w.heap.modify b _)[b]? = _
  rw [Array.getElem?_modify, if_pos rfl, h1]
  rfl
set_option maxRecDepth 100000 in
theorem VRow.store (h : VRow w b v) {u : List Int} (hu : u.length = 65) : (Instr.storeAt 23 (.pointer (some ⟨b, 0, none⟩)) (vecA u)).run Try.prog w = .ok () (w.setRow b (vecR u)) := by
  simp only [Instr.storeAt, Instr.sureAddr, Sem.run_bind, Sem.run_pure, Result.andThen]
  exact run_storeVar_row _ _ _ _ _ _ h.1 (vecSize hu) (by rw [vecR_size h.2, vecR_size hu]) (vecR_one u)
set_option maxRecDepth 100000 in
/-- A whole vector loaded, stored, in a region without orders (guarded or not). -/
theorem wpList_vload {ops : Array Oper} {rest : List Oper} {op : Oper} {a : Act} {Q : Exit → Act → World → Prop} (hw : Region.wanted op (yielded ops a.tmps) = true) (x : Operand) (ho : op.op = .load 23 x) (hx : a.eval x = .pointer (some ⟨b, 0, none⟩)) (h : VRow w b v)
    (k : wpList Try.prog ops Q rest (a.put op.dst (vecA v)) w) : wpList Try.prog ops Q (op :: rest) a w := by
  unfold wpList
  rw [if_pos hw]
  refine Or.inl ?_
  have hl := h.load
  unfold Oper.wp execOp
  simp only [ho, hx, Sem.run_bind, hl, Result.andThen_ok]
  exact k
set_option maxRecDepth 100000 in
theorem wpList_vstore {ops : Array Oper} {rest : List Oper} {op : Oper} {a : Act} {Q : Exit → Act → World → Prop} (hw : Region.wanted op (yielded ops a.tmps) = true) (x y : Operand) (ho : op.op = .store 23 x y) {u : List Int} (hx : a.eval x = .pointer (some ⟨b, 0, none⟩)) (hy : a.eval y = vecA u) (h : VRow w b v) (hu : u.length = 65)
    (k : wpList Try.prog ops Q rest (a.put op.dst undef) (w.setRow b (vecR u))) : wpList Try.prog ops Q (op :: rest) a w := by
  unfold wpList
  rw [if_pos hw]
  refine Or.inl ?_
  have hl := h.store hu
  unfold Oper.wp execOp
  simp only [ho, hx, hy, Sem.run_bind, hl, Result.andThen_ok]
  exact k
set_option maxRecDepth 100000 in
/-- The same in a region that draws. -/
theorem exec_vload {f : Operand → Value} {op : Oper} {x : Operand} (ho : op.op = .load 23 x) (hx : f x = .pointer (some ⟨b, 0, none⟩)) (h : VRow w b v) : (execOp f op).run Try.prog w = .ok (.value (vecA v)) w := by
  have hl := h.load
  unfold execOp
  simp only [ho, hx, Sem.run_bind, hl, Result.andThen_ok]
  rfl
set_option maxRecDepth 100000 in
theorem step_vstore {ops : Array Oper} {o : Oper} {a : Act} {K : Act → World → Prop} {Q : Exit → Act → World → Prop} {E : Prop} (x y : Operand) (hgd : o.guard = none) (ho : o.op = .store 23 x y) {u : List Int} (hx : a.eval x = .pointer (some ⟨b, 0, none⟩)) (hy : a.eval y = vecA u) (h : VRow w b v) (hu : u.length = 65)
    (k : K (a.put o.dst undef) (w.setRow b (vecR u))) : if Region.wanted o (yielded ops a.tmps) = true then Oper.wp Try.prog o a w K Q else E := by
  rw [if_pos (by simp [Region.wanted, hgd])]
  have hl := h.store hu
  unfold Oper.wp execOp
  simp only [ho, hx, hy, Sem.run_bind, hl, Result.andThen_ok]
  exact k
set_option maxRecDepth 100000 in
theorem VRow.draws (h : VRow w b v) (n : Nat) : VRow (w.drewN n) b v := h
set_option maxRecDepth 100000 in
theorem VRow.grown (h : VRow w b v) (n : Nat) (os : Array Obj) : VRow (Sort.grow (w.drewN n) os) b v := ⟨(Sort.heap_grow_old (w.drewN n) os h.1.inHeap).trans h.1, h.2⟩
set_option maxRecDepth 100000 in
theorem VRow.alloc (h : VRow w b v) (o : Obj) : VRow (w.alloc o) b v := ⟨h.1.behindNew o, h.2⟩
set_option maxRecDepth 100000 in
theorem VRow.storedElsewhere (h : VRow w b v) {p : Addr} (hp : p.block ≠ b) (u : Value) : VRow (w.setCell p u) b v := ⟨h.1.storedElsewhere hp u, h.2⟩
set_option maxRecDepth 100000 in
theorem VRow.setElsewhere (h : VRow w b v) {c : Nat} (hc : c ≠ b) (cs : Array Value) : VRow (w.setRow c cs) b v := by
  refine ⟨?_, h.2⟩
  show (w.heap.modify c _)[b]? = _
  rw [Array.getElem?_modify, if_neg hc]
  exact h.1

set_option maxRecDepth 100000 in
theorem row_setElsewhere {t : TypeId} {cs : Array Value} (h : Row w b t cs) {c : Nat} (hc : c ≠ b) (us : Array Value) : Row (w.setRow c us) b t cs := by
  show (w.heap.modify c _)[b]? = _
  rw [Array.getElem?_modify, if_neg hc]
  exact h

/-! ### Only orders drawn, and new blocks laid (and written) -/
set_option maxRecDepth 100000 in
theorem Laid.drew (h : Laid a w) : Laid a w.drew := by
  obtain ⟨q, os, rfl⟩ := h
  exact ⟨q + 1, os, rfl⟩
set_option maxRecDepth 100000 in
theorem Laid.draws (h : Laid a w) (n : Nat) : Laid a (w.drewN n) := by
  obtain ⟨q, os, rfl⟩ := h
  exact ⟨q + n, os, by show Sort.grow ((a.drewN q).drewN n) os = _; rw [World.drewN_drewN]⟩
set_option maxRecDepth 100000 in
theorem Laid.alloc (h : Laid a w) (o : Obj) : Laid a (w.alloc o) := h.trans (Laid.new w o)
set_option maxRecDepth 100000 in
theorem Laid.size (h : Laid a w) : a.heap.size ≤ w.heap.size := h.below.size
set_option maxRecDepth 100000 in
theorem Laid.grown (h : Laid a w) (n : Nat) (os : Array Obj) : Laid a (Sort.grow (w.drewN n) os) := h.trans ⟨n, os, rfl⟩
set_option maxRecDepth 100000 in
theorem Laid.heap (h : Laid a w) (f : Array Obj → Array Obj) (hf : ∀ os : Array Obj, ∃ os', f (a.heap ++ os) = a.heap ++ os') : Laid a { w with heap := f w.heap } := by
  obtain ⟨q, os, rfl⟩ := h
  obtain ⟨os', e⟩ := hf os
  exact ⟨q, os', by show { Sort.grow (a.drewN q) os with heap := f (a.heap ++ os) } = _; rw [e]; rfl⟩
set_option maxRecDepth 100000 in
theorem Laid.stored (h : Laid a w) {p : Addr} (hp : a.heap.size ≤ p.block) (u : Value) : Laid a (w.setCell p u) :=
  h.heap (fun hp => hp.modify p.block _) (fun os => ⟨_, Sort.modify_append_right a.heap os p.block _ hp⟩)
set_option maxRecDepth 100000 in
theorem Laid.set (h : Laid a w) {b : Nat} (hb : a.heap.size ≤ b) (cs : Array Value) : Laid a (w.setRow b cs) :=
  h.heap (fun hp => hp.modify b _) (fun os => ⟨_, Sort.modify_append_right a.heap os b _ hb⟩)
end

set_option maxRecDepth 100000 in
/-- The number at an index, out of a vector as a value; where it lies. -/
theorem vec_index {v : List Int} {k : Nat} {n : Int} (hk : k < 65) (hn : v[k]? = some n) (w : World) : (Instr.index 23 (vecA v) (.int .i64 (k : Int))).run Try.prog w = .ok (.int .i64 n) w := by
  have hu := Try.underlying23
  have ha := Try.isAgg3
  have hs := Try.sizeOf3
  have hg : (vecR v)[k]? = some (.int .i64 n) := vecR_get hn
  have h1 : (0 : Int) ≤ (k : Int) ∧ (k : Int) < 65 := by omega
  simp [Instr.index, run_underlying hu, asIntOf, h1, go_sem, ha, hs, part, hg]
  intro h
  omega
set_option maxRecDepth 100000 in
theorem vec_addr {k : Nat} (hk : k < 65) (b : Nat) (w : World) : (Instr.indexAt 23 (.pointer (some ⟨b, 0, none⟩)) (.int .i64 (k : Int))).run Try.prog w = .ok (.pointer (some ⟨b, k, none⟩)) w := by
  have hu := Try.underlying23
  have hs := Try.sizeOf3
  have h1 : (0 : Int) ≤ (k : Int) ∧ (k : Int) < 65 := by omega
  simp [Instr.indexAt, Instr.sureAddr, run_underlying hu, asIntOf, h1, go_sem, hs, Addr.add]
  rw [if_pos hk]
  by_cases h0 : k = 0
  · subst h0; rfl
  · rw [if_neg h0]

set_option maxRecDepth 100000 in
theorem wq_vload {ops : Array Oper} {rest : List Oper} {op : Oper} {a : Act} {C : World → Prop} {Q : Act → Prop} {b : Nat} {v : List Int} (hw : Region.wanted op (yielded ops a.tmps) = true) (x : Operand) (ho : op.op = .load 23 x) (hx : a.eval x = .pointer (some ⟨b, 0, none⟩)) (h : ∀ w, C w → VRow w b v)
    (k : WQ Try.prog ops C Q rest (a.put op.dst (vecA v))) : WQ Try.prog ops C Q (op :: rest) a :=
  wq_take hw (fun w hC => exec_vload ho hx (h w hC)) k
set_option maxRecDepth 100000 in
theorem inB_laid {P : Program} {f : FuncId} {args : Array Value} {W w : World} {v : Value} (hC : InB W w) (h : Calls P f args w fun e w' => e = .returned v ∧ Laid w w') : Calls P f args w fun e w' => e = .returned v ∧ InB W w' :=
  h.mono fun _ _ ⟨he, hb⟩ => ⟨he, hC.trans hb.below⟩
set_option maxRecDepth 100000 in
theorem VRow.inB {w w' : World} {b : Nat} {v : List Int} (h : VRow w b v) (k : InB w w') : VRow w' b v := h.below k.below h.inHeap

set_option maxRecDepth 100000 in
/-- A new vector in a region that draws. -/
theorem step_valloc {ops : Array Oper} {o : Oper} {a : Act} {w : World} {K : Act → World → Prop} {Q : Exit → Act → World → Prop} {E : Prop} (hgd : o.guard = none) (ho : o.op = .alloc 23)
    (h : ∀ (g : Nat) (w' : World), w.heap.size = g → VRow w' g Vec.zeros → Laid w w' → K (a.put o.dst (.pointer (some ⟨g, 0, none⟩))) w') : if Region.wanted o (yielded ops a.tmps) = true then Oper.wp Try.prog o a w K Q else E := by
  rw [if_pos (by simp [Region.wanted, hgd])]
  have hz := vecZero
  have h1 := h w.heap.size (w.alloc (.cells (vecR Vec.zeros) 23)) rfl (VRow.made w Vec.zeros_len) (Laid.new w _)
  unfold Oper.wp execOp
  simp only [ho]
  go_simp
  exact h1

structure VecOk : Prop where
  clean : ∀ {w : World} {v : List Int}, v.length = 65 → Calls Try.prog 7 #[vecA v] w fun e w' => e = .returned (vecA (Vec.clean v)) ∧ Laid w w'
  has : ∀ {w : World} {v : List Int} (x : Ver.V), v.length = 65 → Ver.Bd x → Calls Try.prog 10 #[vecA v, verA x] w fun e w' => e = .returned (.bool (decide (Vec.Has v x))) ∧ Laid w w'
  ofl : ∀ {w : World} {F : Nat → Prop} {s : Value} {l : List Ver.V}, Vrs w F s l → l.length ≤ 1000000 → (∀ x ∈ l, Ver.Bd x) → Calls Try.prog 17 #[s] w fun e w' => e = .returned (vecA (Vec.ofl l)) ∧ Laid w w'
  add : ∀ {w : World} {v : List Int} (x : Ver.V), v.length = 65 → Ver.Bd x → Calls Try.prog 18 #[vecA v, verA x] w fun e w' => e = .returned (vecA (Vec.add v x)) ∧ Laid w w'
  join : ∀ {w : World} {a b : List Int}, a.length = 65 → b.length = 65 → Calls Try.prog 22 #[vecA a, vecA b] w fun e w' => e = .returned (vecA (Vec.join a b)) ∧ Laid w w'
  meet : ∀ {w : World} {a b : List Int}, a.length = 65 → b.length = 65 → Calls Try.prog 23 #[vecA a, vecA b] w fun e w' => e = .returned (vecA (Vec.meet a b)) ∧ Laid w w'
  covers : ∀ {w : World} {a b : List Int}, a.length = 65 → b.length = 65 → Calls Try.prog 24 #[vecA a, vecA b] w fun e w' => e = .returned (.bool (decide (Vec.Covers a b))) ∧ Laid w w'
  ends : ∀ {w : World} {v : List Int}, v.length = 65 → Calls Try.prog 8 #[vecA v] w fun e w' => ∃ s, e = .returned s ∧ Vrs w' (NewIn w w') s (Vec.ends v) ∧ Below w.heap.size w w'
  sum : ∀ {w : World} {v : List Int}, v.length = 65 → Calls Try.prog 16 #[vecA v] w fun e w' => e = .returned (.int .i64 ((Vec.ends v).length : Int)) ∧ Below w.heap.size w w'
end Go.Proofs.Ytlgaljlbjbfdgaa
