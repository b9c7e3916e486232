import Derived.Test.YtpafpegcodempaaCom4
import Derived.Test.YtpafpegcodempaaCom2
import Derived.Deep.WholeRow
import Derived.Deep.MidRow
import Derived.OrdersHeld
import Derived.Tactics
import Derived.Deep.RegionHeld
import Derived.Deep.QuietTactic
set_option maxRecDepth 100000
set_option linter.all false
set_option maxHeartbeats 12800000
namespace Go.Proofs.Ytpafpegcodempaa
open Go.RowKit
def vecL (v : List Int) : List Value := v.map (Value.int .i64)
def vecR (v : List Int) : Array Value := (vecL v).toArray
abbrev vecA (v : List Int) : Value := .agg (vecR v)
def Vec.zeros : List Int := List.replicate 65 0
theorem Vec.zeros_len : Vec.zeros.length = 65 := List.length_replicate
theorem vecL_len (v : List Int) : (vecL v).length = v.length := List.length_map ..
theorem vecR_size {v : List Int} (h : v.length = 65) : (vecR v).size = 65 := by unfold vecR; rw [List.size_toArray, vecL_len, h]
theorem vecR_get {v : List Int} {i : Nat} {n : Int} (h : v[i]? = some n) : (vecR v)[i]? = some (.int .i64 n) := by
 unfold vecR vecL
 rw [List.getElem?_toArray, List.getElem?_map, h]; rfl
theorem vecR_one (v : List Int) : (vecR v).all (·.oneCell') = true := all_oneCell_toArray (fun u hu => by
 obtain ⟨n, _, rfl⟩ := List.mem_map.1 hu
 rfl)
theorem vecR_set (v : List Int) (i : Nat) (n : Int) : (vecR v).setIfInBounds i (.int .i64 n) = vecR (v.set i n) := by
 unfold vecR vecL
 rw [List.setIfInBounds_toArray, List.map_set]
theorem vecInfo : (Try.prog.info? 23).map (fun i => (i.zero, i.size)) = some (some (vecA Vec.zeros), 65) := by kernel_rfl
theorem vecZero (w : World) : (zeroValue 23).run Try.prog w = .ok (vecA Vec.zeros) w := (zero_of_info vecInfo).1 w
theorem vecSize {v : List Int} (h : v.length = 65) : (Try.prog.info? 23).map (·.size) = some (vecR v).size := by rw [vecR_size h]; exact (zero_of_info vecInfo).2
def VRow (w : World) (b : Nat) (v : List Int) : Prop := Row w b 23 (vecR v) ∧ v.length = 65
section
variable {w w' a : World} {b : Nat} {v : List Int}
theorem VRow.row (h : VRow w b v) : Row w b 23 (vecR v) := h.1
theorem VRow.len (h : VRow w b v) : v.length = 65 := h.2
theorem VRow.inHeap (h : VRow w b v) : b < w.heap.size := h.1.inHeap
theorem VRow.at (h : VRow w b v) {i : Nat} {n : Int} (hn : v[i]? = some n) : w.cell? ⟨b, i, none⟩ = some (.int .i64 n) := by rw [h.1.at, vecR_get hn]
theorem VRow.free (h : VRow w b v) (i : Nat) : w.frozen? ⟨b, i, none⟩ = false := h.1.free i
theorem VRow.made (w : World) (hv : v.length = 65) : VRow (w.alloc (.cells (vecR v) 23)) w.heap.size v := ⟨Row.made w _ _, hv⟩
theorem VRow.stored (h : VRow w b v) (i : Nat) (n : Int) : VRow (w.setCell ⟨b, i, none⟩ (.int .i64 n)) b (v.set i n) := ⟨by have := h.1.stored i (.int .i64 n); rwa [vecR_set] at this, by rw [List.length_set]; exact h.2⟩
theorem VRow.below {B : Nat} (h : VRow w b v) (hb : Below B w w') (hB : b < B) : VRow w' b v := ⟨h.1.below hb hB, h.2⟩
theorem VRow.load (h : VRow w b v) : (Instr.loadAt 23 (.pointer (some ⟨b, 0, none⟩))).run Try.prog w = .ok (vecA v) w := by
 simp only [Instr.loadAt, Instr.sureAddr, Sem.run_bind, Sem.run_pure, Result.andThen]
 exact run_loadVar_row _ _ _ _ _ (0, 0) _ h.1 Try.underlying23 rfl (vecSize h.2)
theorem VRow.set (h : VRow w b v) (u : List Int) (hu : u.length = 65) : VRow (w.setRow b (vecR u)) b u := by
 have h1 : w.heap[b]? = some (Obj.cells (vecR v) 23 (0, 0)) := h.1
 refine ⟨?_, hu⟩
 show (w.heap.modify b _)[b]? = _
 rw [Array.getElem?_modify, if_pos rfl, h1]
 rfl
theorem VRow.store (h : VRow w b v) {u : List Int} (hu : u.length = 65) : (Instr.storeAt 23 (.pointer (some ⟨b, 0, none⟩)) (vecA u)).run Try.prog w = .ok () (w.setRow b (vecR u)) := by
 simp only [Instr.storeAt, Instr.sureAddr, Sem.run_bind, Sem.run_pure, Result.andThen]
 exact run_storeVar_row _ _ _ _ _ _ h.1 (vecSize hu) (by rw [vecR_size h.2, vecR_size hu]) (vecR_one u)
theorem wpList_vload {ops : Array Oper} {rest : List Oper} {op : Oper} {a : Act} {Q : Exit → Act → World → Prop} (hw : Region.wanted op (yielded ops a.tmps) = true) (x : Operand) (ho : op.op = .load 23 x) (hx : a.eval x = .pointer (some ⟨b, 0, none⟩)) (h : VRow w b v)
  (k : wpList Try.prog ops Q rest (a.put op.dst (vecA v)) w) : wpList Try.prog ops Q (op :: rest) a w := by
 unfold wpList
 rw [if_pos hw]
 refine Or.inl ?_
 have hl := h.load
 unfold Oper.wp execOp
 simp only [ho, hx, Sem.run_bind, hl, Result.andThen_ok]
 exact k
theorem wpList_vstore {ops : Array Oper} {rest : List Oper} {op : Oper} {a : Act} {Q : Exit → Act → World → Prop} (hw : Region.wanted op (yielded ops a.tmps) = true) (x y : Operand) (ho : op.op = .store 23 x y) {u : List Int} (hx : a.eval x = .pointer (some ⟨b, 0, none⟩)) (hy : a.eval y = vecA u) (h : VRow w b v) (hu : u.length = 65)
  (k : wpList Try.prog ops Q rest (a.put op.dst undef) (w.setRow b (vecR u))) : wpList Try.prog ops Q (op :: rest) a w := by
 unfold wpList
 rw [if_pos hw]
 refine Or.inl ?_
 have hl := h.store hu
 unfold Oper.wp execOp
 simp only [ho, hx, hy, Sem.run_bind, hl, Result.andThen_ok]
 exact k
theorem exec_vload {f : Operand → Value} {op : Oper} {x : Operand} (ho : op.op = .load 23 x) (hx : f x = .pointer (some ⟨b, 0, none⟩)) (h : VRow w b v) : (execOp f op).run Try.prog w = .ok (.value (vecA v)) w := by
 have hl := h.load
 unfold execOp
 simp only [ho, hx, Sem.run_bind, hl, Result.andThen_ok]
 rfl
theorem VRow.grown (h : VRow w b v) (n : Nat) (os : Array Obj) : VRow (Sort.grow (w.drewN n) os) b v := ⟨(Sort.heap_grow_old (w.drewN n) os h.1.inHeap).trans h.1, h.2⟩
theorem VRow.alloc (h : VRow w b v) (o : Obj) : VRow (w.alloc o) b v := ⟨h.1.behindNew o, h.2⟩
theorem VRow.storedElsewhere (h : VRow w b v) {p : Addr} (hp : p.block ≠ b) (u : Value) : VRow (w.setCell p u) b v := ⟨h.1.storedElsewhere hp u, h.2⟩
theorem VRow.setElsewhere (h : VRow w b v) {c : Nat} (hc : c ≠ b) (cs : Array Value) : VRow (w.setRow c cs) b v := by
 refine ⟨?_, h.2⟩
 show (w.heap.modify c _)[b]? = _
 rw [Array.getElem?_modify, if_neg hc]
 exact h.1
theorem Laid.drew (h : Laid a w) : Laid a w.drew := by
 obtain ⟨q, os, rfl⟩ := h
 exact ⟨q + 1, os, rfl⟩
theorem Laid.alloc (h : Laid a w) (o : Obj) : Laid a (w.alloc o) := h.trans (Laid.new w o)
theorem Laid.size (h : Laid a w) : a.heap.size ≤ w.heap.size := h.below.size
theorem Laid.grown (h : Laid a w) (n : Nat) (os : Array Obj) : Laid a (Sort.grow (w.drewN n) os) := h.trans ⟨n, os, rfl⟩
theorem Laid.heap (h : Laid a w) (f : Array Obj → Array Obj) (hf : ∀ os : Array Obj, ∃ os', f (a.heap ++ os) = a.heap ++ os') : Laid a { w with heap := f w.heap } := by
 obtain ⟨q, os, rfl⟩ := h
 obtain ⟨os', e⟩ := hf os
 exact ⟨q, os', by show { Sort.grow (a.drewN q) os with heap := f (a.heap ++ os) } = _; rw [e]; rfl⟩
theorem Laid.stored (h : Laid a w) {p : Addr} (hp : a.heap.size ≤ p.block) (u : Value) : Laid a (w.setCell p u) :=
 h.heap (fun hp => hp.modify p.block _) (fun os => ⟨_, Sort.modify_append_right a.heap os p.block _ hp⟩)
theorem Laid.set (h : Laid a w) {b : Nat} (hb : a.heap.size ≤ b) (cs : Array Value) : Laid a (w.setRow b cs) :=
 h.heap (fun hp => hp.modify b _) (fun os => ⟨_, Sort.modify_append_right a.heap os b _ hb⟩)
end
theorem vec_index {v : List Int} {k : Nat} {n : Int} (hk : k < 65) (hn : v[k]? = some n) (w : World) : (Instr.index 23 (vecA v) (.int .i64 (k : Int))).run Try.prog w = .ok (.int .i64 n) w := by
 have hu := Try.underlying23
 have ha := Try.isAgg3
 have hs := Try.sizeOf3
 have hg : (vecR v)[k]? = some (.int .i64 n) := vecR_get hn
 have h1 : (0 : Int) ≤ (k : Int) ∧ (k : Int) < 65 := by omega
 simp [Instr.index, run_underlying hu, asIntOf, h1, go_sem, ha, hs, part, hg]
 intro h
 omega
theorem vec_addr {k : Nat} (hk : k < 65) (b : Nat) (w : World) : (Instr.indexAt 23 (.pointer (some ⟨b, 0, none⟩)) (.int .i64 (k : Int))).run Try.prog w = .ok (.pointer (some ⟨b, k, none⟩)) w := by
 have hu := Try.underlying23
 have hs := Try.sizeOf3
 have h1 : (0 : Int) ≤ (k : Int) ∧ (k : Int) < 65 := by omega
 simp [Instr.indexAt, Instr.sureAddr, run_underlying hu, asIntOf, h1, go_sem, hs, Addr.add]
 rw [if_pos hk]
 by_cases h0 : k = 0
 ·subst h0; rfl
 ·rw [if_neg h0]
theorem wq_vload {ops : Array Oper} {rest : List Oper} {op : Oper} {a : Act} {C : World → Prop} {Q : Act → Prop} {b : Nat} {v : List Int} (hw : Region.wanted op (yielded ops a.tmps) = true) (x : Operand) (ho : op.op = .load 23 x) (hx : a.eval x = .pointer (some ⟨b, 0, none⟩)) (h : ∀ w, C w → VRow w b v)
  (k : WQ Try.prog ops C Q rest (a.put op.dst (vecA v))) : WQ Try.prog ops C Q (op :: rest) a :=
 wq_take hw (fun w hC => exec_vload ho hx (h w hC)) k
theorem inB_laid {P : Program} {f : FuncId} {args : Array Value} {W w : World} {v : Value} (hC : InB W w) (h : Calls P f args w fun e w' => e = .returned v ∧ Laid w w') : Calls P f args w fun e w' => e = .returned v ∧ InB W w' :=
 h.mono fun _ _ ⟨he, hb⟩ => ⟨he, hC.trans hb.below⟩
theorem VRow.inB {w w' : World} {b : Nat} {v : List Int} (h : VRow w b v) (k : InB w w') : VRow w' b v := h.below k.below h.inHeap
structure VecOk : Prop where
 clean : ∀ {w : World} {v : List Int}, v.length = 65 → Calls Try.prog 37 #[vecA v] w fun e w' => e = .returned (vecA (Vec.clean v)) ∧ Laid w w'
 ofl : ∀ {w : World} {F : Nat → Prop} {s : Value} {l : List Ver.V}, Vrs w F s l → l.length ≤ 1000000 → (∀ x ∈ l, Ver.Bd x) → Calls Try.prog 15 #[s] w fun e w' => e = .returned (vecA (Vec.ofl l)) ∧ Laid w w'
 ends : ∀ {w : World} {v : List Int}, v.length = 65 → Calls Try.prog 38 #[vecA v] w fun e w' => ∃ s, e = .returned s ∧ Vrs w' (NewIn w w') s (Vec.ends v) ∧ Below w.heap.size w w'
section
variable {P : Program} {Q : Exit → Act → World → Prop} {md : Region.Mode}
theorem wpAny_fuel {ops : Array Oper} : ∀ (k fuel : Nat) (listed : Array Bool) (a : Act) (w : World), wpAny P md ops Q fuel listed a w → wpAny P md ops Q (fuel + k) listed a w := by
 intro k fuel
 induction fuel with
 | zero =>
  intro listed a w h
  cases k with
  | zero => exact h
  | succ k =>
   rw [Nat.zero_add]
   exact ⟨fun _ => h.2, fun i hi => by rw [h.1] at hi; cases hi⟩
 | succ fuel ih =>
  intro listed a w h
  rw [show fuel + 1 + k = (fuel + k) + 1 by omega]
  exact ⟨h.1, fun i hi => wpOp_mono (fun a w h => ih _ a w h) (h.2 i hi)⟩
def Tail (P : Program) (md : Region.Mode) (ops : Array Oper) (Q : Exit → Act → World → Prop) (m : Nat) (listed : Array Bool) : Exit → Act → World → Prop
 | .normal, a, w => wpAny P md ops Q m listed a w
 | e, a, w => Q e a w
theorem Oper.wp_tail {o : Oper} {a : Act} {w : World} {K K' : Act → World → Prop} {Q' : Exit → Act → World → Prop} (h : ∀ a w, K a w → K' a w) (hQ : ∀ e a w, e ≠ .normal → Q' e a w → Q e a w)
  (hh : o.wp P a w K Q') : o.wp P a w K' Q := by
 unfold Oper.wp at *
 generalize (execOp a.eval o).run P w = r at *
 cases r with
 | ok n w' =>
  cases n <;> simp only [Oper.upon] at hh ⊢
  ·exact h _ _ hh
  ·exact h _ _ hh
  ·refine Calls.mono hh (fun e w'' he => ?_)
   cases e with
   | returned v => exact h _ _ he
   | panicked c => exact hQ _ _ _ (by simp) he
   | outgrown => exact he.imp fun a ha => ha.imp fun w hw => hQ _ _ _ (by simp) hw
  ·exact h _ _ hh
  ·exact Rows.mono hh (fun _ _ he => h _ _ he)
 | halt x w' =>
  cases x <;> simp only [Oper.upon] at hh ⊢
  exact hQ _ _ _ (by simp) hh
def waits (md : Region.Mode) (ops : Array Oper) : Nat → Nat → Nat → Bool
 | 0, _, _ => false
 | f + 1, i, j => match ops[i]? with
  | none => false
  | some o => (o.after.any fun e => Region.binds md e && e.on == j) || o.after.any fun e => Region.binds md e && waits md ops f e.on j
def Clos (md : Region.Mode) (ops : Array Oper) (L : Array Bool) : Prop := ∀ (i : Nat) (o : Oper), ops[i]? = some o → L.getD i false = true → ∀ e ∈ o.after, Region.binds md e = true → L.getD e.on false = true
theorem waits_listed {ops : Array Oper} {L : Array Bool} (hc : Clos md ops L) : ∀ (f i j : Nat), (∀ o, ops[i]? = some o → ∀ e ∈ o.after, Region.binds md e = true → L.getD e.on false = true) → waits md ops f i j = true → L.getD j false = true
 | 0, _, _, _, h => by cases h
 | f + 1, i, j, hi, h => by
  unfold waits at h
  cases ho : ops[i]? with
  | none => rw [ho] at h; cases h
  | some o =>
   rw [ho] at h
   simp only at h
   rw [Bool.or_eq_true] at h
   rcases h with h | h
   ·rw [← Array.any_toList, List.any_eq_true] at h
    obtain ⟨e, he, hb⟩ := h
    simp only [Bool.and_eq_true, beq_iff_eq] at hb
    have hl := hi o ho e (Array.mem_toList_iff.1 he) hb.1
    rwa [hb.2] at hl
   ·rw [← Array.any_toList, List.any_eq_true] at h
    obtain ⟨e, he, hb⟩ := h
    simp only [Bool.and_eq_true] at hb
    have hl := hi o ho e (Array.mem_toList_iff.1 he) hb.1
    exact waits_listed hc f e.on j (fun o' ho' => hc e.on o' ho' hl) hb.2
theorem getD_set_true (L : Array Bool) (i k : Nat) (h : L.getD k false = true) : (L.setIfInBounds i true).getD k false = true := by
 rw [Array.getD_eq_getD_getElem?] at h ⊢
 rw [Array.getElem?_setIfInBounds]
 split
 ·split
  ·rfl
  ·rename_i h1 h2
   subst h1
   rw [Array.getElem?_eq_none (by omega)] at h
   cases h
 ·exact h
theorem Clos.set {ops : Array Oper} {L : Array Bool} (hc : Clos md ops L) {i : Nat} (hi : ∀ o, ops[i]? = some o → ∀ e ∈ o.after, Region.binds md e = true → L.getD e.on false = true) : Clos md ops (L.setIfInBounds i true) := by
 intro k o ho hk e he hb
 refine getD_set_true L i e.on ?_
 by_cases hki : k = i
 ·subst hki
  exact hi o ho e he hb
 ·refine hc k o ho ?_ e he hb
  rw [Array.getD_eq_getD_getElem?] at hk ⊢
  rwa [Array.getElem?_setIfInBounds, if_neg (fun e => hki e.symm)] at hk
def tailOk (md : Region.Mode) (ops : Array Oper) (n : Nat) : Bool :=
 decide (n ≤ ops.size) && (List.range ops.size).all fun i => match ops[i]? with
  | none => true
  | some o => if i < n then (o.after.all fun e => !Region.binds md e || decide (e.on < i)) && (match o.guard with | none => true | some (j, _) => decide (j < n))
   else (o.after.any fun e => Region.binds md e && decide (n ≤ e.on) && decide (e.on < ops.size)) || (List.range n).all fun j => waits md ops n i j
theorem tailOk_spec {ops : Array Oper} {n : Nat} (h : tailOk md ops n = true) : n ≤ ops.size ∧
  (∀ i o, ops[i]? = some o → i < n → (∀ e ∈ o.after, Region.binds md e = true → e.on < i) ∧ ∀ j b, o.guard = some (j, b) → j < n) ∧
  (∀ i o, ops[i]? = some o → n ≤ i → (∃ e ∈ o.after, Region.binds md e = true ∧ n ≤ e.on ∧ e.on < ops.size) ∨ ∀ j, j < n → waits md ops n i j = true) := by
 unfold tailOk at h
 rw [Bool.and_eq_true, List.all_eq_true] at h
 obtain ⟨h1, h2⟩ := h
 refine ⟨of_decide_eq_true h1, fun i o ho hi => ?_, fun i o ho hi => ?_⟩
 ·have hlt : i < ops.size := (Array.getElem?_eq_some_iff.1 ho).1
  have := h2 i (List.mem_range.2 hlt)
  simp only [ho, if_pos hi, Bool.and_eq_true] at this
  obtain ⟨ha, hg⟩ := this
  refine ⟨fun e he hb => ?_, fun j b hjb => ?_⟩
  ·have := Array.all_eq_true_iff_forall_mem.1 ha e he
   simp only [hb, Bool.not_true, Bool.false_or] at this
   exact of_decide_eq_true this
  ·rw [hjb] at hg
   exact of_decide_eq_true hg
 ·have hlt : i < ops.size := (Array.getElem?_eq_some_iff.1 ho).1
  have := h2 i (List.mem_range.2 hlt)
  simp only [ho, if_neg (Nat.not_lt.2 hi), Bool.or_eq_true] at this
  rcases this with this | this
  ·rw [← Array.any_toList, List.any_eq_true] at this
   obtain ⟨e, he, hb⟩ := this
   simp only [Bool.and_eq_true, decide_eq_true_eq] at hb
   exact Or.inl ⟨e, Array.mem_toList_iff.1 he, hb.1.1, hb.1.2, hb.2⟩
  refine Or.inr (fun j hj => ?_)
  exact List.all_eq_true.1 this j (List.mem_range.2 hj)
theorem mask_get (l : Array Bool) (m : Nat) (j : Nat) (d : Bool) (h : j < l.size) : (l ++ Array.replicate m false).getD j d = l.getD j d := by
 simp only [Array.getD_eq_getD_getElem?]
 rw [Array.getElem?_append_left h]
theorem mask_set (l : Array Bool) (m : Nat) (j : Nat) (h : j < l.size) : (l ++ Array.replicate m false).setIfInBounds j true = l.setIfInBounds j true ++ Array.replicate m false := by
 rw [Array.setIfInBounds_append, if_pos h]
theorem take_get {ops : Array Oper} {n i : Nat} (hi : i < n) : (ops.extract 0 n)[i]? = ops[i]? := by
 rw [Array.getElem?_extract]
 by_cases h : i < ops.size
 ·rw [if_pos (by omega), Nat.zero_add]
 ·rw [if_neg (by omega), Array.getElem?_eq_none (by omega)]
theorem wpAny_tail {ops : Array Oper} {n : Nat} (hok : tailOk md ops n = true) : ∀ (fuel : Nat) (listed : Array Bool) (a : Act) (w : World), listed.size = n → Clos md ops (listed ++ Array.replicate (ops.size - n) false) →
  wpAny P md (ops.extract 0 n) (Tail P md ops Q (ops.size - n) (Array.replicate n true ++ Array.replicate (ops.size - n) false)) fuel listed a w →
  wpAny P md ops Q (fuel + (ops.size - n)) (listed ++ Array.replicate (ops.size - n) false) a w := by
 obtain ⟨hn, hhd, htl⟩ := tailOk_spec hok
 have hsz : (ops.extract 0 n).size = n := by simp; omega
 -- what may come up of the first ones is what may come up of all
 have ready : ∀ listed : Array Bool, listed.size = n → ∀ i, i < n → (i ∈ Region.ready md ops (listed ++ Array.replicate (ops.size - n) false) ↔ i ∈ Region.ready md (ops.extract 0 n) listed) := by
  intro listed hl i hi
  rw [mem_ready, mem_ready, take_get hi, mask_get _ _ _ _ (by omega)]
  constructor
  ·rintro ⟨h0, o, ho, ha⟩
   refine ⟨h0, o, ho, fun e he hb => ?_⟩
   have := ha e he hb
   rwa [mask_get _ _ _ _ (by have := (hhd i o ho hi).1 e he hb; omega)] at this
  ·rintro ⟨h0, o, ho, ha⟩
   refine ⟨h0, o, ho, fun e he hb => ?_⟩
   rw [mask_get _ _ _ _ (by have := (hhd i o ho hi).1 e he hb; omega)]
   exact ha e he hb
 -- if none may come up, all have
 have full : ∀ listed : Array Bool, listed.size = n → Region.ready md (ops.extract 0 n) listed = [] → ∀ i, i < n → listed.getD i true = true := by
  intro listed hl hr i
  induction i using Nat.strongRecOn with
  | _ i ih =>
   intro hi
   cases hv : listed.getD i true with
   | true => rfl
   | false =>
    obtain ⟨o, ho⟩ : ∃ o, ops[i]? = some o := ⟨_, Array.getElem?_eq_getElem (by omega)⟩
    have : i ∈ Region.ready md (ops.extract 0 n) listed := mem_ready.2 ⟨hv, o, by rw [take_get hi]; exact ho, fun e he hb => by
     have hlt := (hhd i o ho hi).1 e he hb
     have := ih e.on hlt (by omega)
     rw [Array.getD_eq_getD_getElem?] at this ⊢
     rw [Array.getElem?_eq_getElem (by omega)] at this ⊢
     exact this⟩
    rw [hr] at this; cases this
 -- while one of the first ones may come up, none of the last ones may
 have late : ∀ listed : Array Bool, listed.size = n → Clos md ops (listed ++ Array.replicate (ops.size - n) false) → ∀ i, i ∈ Region.ready md ops (listed ++ Array.replicate (ops.size - n) false) → n ≤ i → Region.ready md (ops.extract 0 n) listed = [] := by
  intro listed hl hcl i hi hni
  obtain ⟨h0, o, ho, ha⟩ := mem_ready.1 hi
  rw [List.eq_nil_iff_forall_not_mem]
  intro j hj
  obtain ⟨hj0, oj, hoj, _⟩ := mem_ready.1 hj
  have hjn : j < n := by have := (Array.getElem?_eq_some_iff.1 hoj).1; omega
  rcases htl i o ho hni with ⟨e, he, hb, h1, h2⟩ | htl
  ·have := ha e he hb
   rw [Array.getD_eq_getD_getElem?, Array.getElem?_append_right (by omega), Array.getElem?_replicate, if_pos (by omega)] at this
   cases this
  have := waits_listed hcl n i j (fun o' ho' => by rw [ho] at ho'; injection ho' with ho'; subst ho'; exact ha) (htl j hjn)
  rw [mask_get _ _ _ _ (by omega), Array.getD_eq_getD_getElem?, Array.getElem?_eq_getElem (by omega)] at this
  rw [Array.getD_eq_getD_getElem?, Array.getElem?_eq_getElem (by omega)] at hj0
  simp only [Option.getD_some] at this hj0
  rw [this] at hj0; cases hj0
 have allSet : ∀ listed : Array Bool, listed.size = n → Region.ready md (ops.extract 0 n) listed = [] → listed = Array.replicate n true := by
  intro listed hl hr
  apply Array.ext
  ·simp [hl]
  ·intro i h1 h2
   have := full listed hl hr i (by omega)
   rw [Array.getD_eq_getD_getElem?, Array.getElem?_eq_getElem h1] at this
   simpa using this
 intro fuel
 induction fuel with
 | zero =>
  intro listed a w hl hcl h
  rw [Nat.zero_add, allSet listed hl h.1]
  exact h.2
 | succ fuel ih =>
  intro listed a w hl hcl h
  by_cases hr : Region.ready md (ops.extract 0 n) listed = []
  ·rw [allSet listed hl hr, Nat.add_comm]
   exact wpAny_fuel _ _ _ _ _ (h.1 hr)
  ·rw [show fuel + 1 + (ops.size - n) = (fuel + (ops.size - n)) + 1 by omega]
   have hin : ∀ i, i ∈ Region.ready md ops (listed ++ Array.replicate (ops.size - n) false) → i < n := fun i hi => by
    rcases Nat.lt_or_ge i n with hlt | hge
    ·exact hlt
    ·exact absurd (late listed hl hcl i hi hge) hr
   refine ⟨fun h0 => ?_, fun i hi => ?_⟩
   ·exfalso
    obtain ⟨i, hi⟩ := List.exists_mem_of_ne_nil _ hr
    have hlt : i < n := by
     obtain ⟨_, o, ho, _⟩ := mem_ready.1 hi
     have := (Array.getElem?_eq_some_iff.1 ho).1
     omega
    have := (ready listed hl i hlt).2 hi
    rw [h0] at this; cases this
   ·have hlt := hin i hi
    have h2 := h.2 i ((ready listed hl i hlt).1 hi)
    obtain ⟨o, ho⟩ : ∃ o, ops[i]? = some o := ⟨_, Array.getElem?_eq_getElem (by omega)⟩
    have hK : ∀ a w, wpAny P md (ops.extract 0 n) (Tail P md ops Q (ops.size - n) (Array.replicate n true ++ Array.replicate (ops.size - n) false)) fuel (listed.setIfInBounds i true) a w →
      wpAny P md ops Q (fuel + (ops.size - n)) ((listed ++ Array.replicate (ops.size - n) false).setIfInBounds i true) a w := fun a w hw => by
     rw [mask_set _ _ _ (by omega)]
     exact ih _ a w (by simpa using hl) (by rw [← mask_set _ _ _ (by omega)]; exact hcl.set (fun o' ho' => by obtain ⟨_, o2, ho2, ha2⟩ := mem_ready.1 hi; rw [ho2] at ho'; injection ho' with ho'; subst ho'; exact ha2)) hw
    have hy : Region.wanted o (yielded ops a.tmps) = Region.wanted o (yielded (ops.extract 0 n) a.tmps) := by
     unfold Region.wanted
     cases hg : o.guard with
     | none => rfl
     | some g =>
      obtain ⟨j, b⟩ := g
      have hj := (hhd i o ho hlt).2 j b hg
      simp only [yielded, take_get hj]
    unfold wpOp at h2 ⊢
    rw [take_get hlt] at h2
    simp only [ho] at h2 ⊢
    rw [hy]
    split
    ·rename_i hw
     simp only [hw, if_true] at h2
     rcases h2 with h2 | ⟨h2, a', w', h3⟩
     ·exact .inl (Oper.wp_tail hK (fun e a w hne he => by cases e <;> first | exact absurd rfl hne | exact he) h2)
     ·exact .inr ⟨h2, a', w', h3⟩
    ·rename_i hw
     simp only [hw] at h2
     exact hK _ _ h2
theorem wp_region_tail {ops hd : Array Oper} {id n : Nat} {a : Act} {w : World} {S : World → Prop} (hm : P.follows .mixedOrders = true) (hok : tailOk .any ops n = true) (hhd : ops.extract 0 n = hd) (hS : S w.drew)
  (h : S w.drew → wpAnyH P .any hd (Tail P .any ops Q (ops.size - n) (Array.replicate n true ++ Array.replicate (ops.size - n) false)) S n (Array.replicate n false) a w.drew) : (Code.region id ops true).wp P Q a w := by
 subst hhd
 refine wp_region_any hm ?_
 have h1 := wpAny_tail hok n (Array.replicate n false) a w.drew (by simp) (fun i o _ hi => by
  rw [Array.getD_eq_getD_getElem?, Array.replicate_append_replicate, Array.getElem?_replicate] at hi
  split at hi <;> cases hi) (wpAny_of_held _ _ _ _ (h hS))
 have hn := (tailOk_spec hok).1
 have e1 : n + (ops.size - n) = ops.size := by omega
 have e2 : Array.replicate n false ++ Array.replicate (ops.size - n) false = Array.replicate ops.size false := by
  rw [Array.replicate_append_replicate, e1]
 rw [e1, e2] at h1
 exact h1
end
theorem wpAnyH_tk {P : Program} {md : Region.Mode} {ops : Array Oper} {Q : Exit → Act → World → Prop} {S : World → Prop} {i : Nat} {oi : Oper} {v : Value} {fuel : Nat} {listed : Array Bool} {a : Act} {w : World} (hi : ops[i]? = some oi)
    (hy : YieldsIf P ops S oi v a) (hS : S w) (h : wpAnyH P md ops Q S fuel (listed.setIfInBounds i true) (a.put oi.dst v) w)
    (hs : Region.noSelect ops = true := by kernel_rfl) (hf : Region.free md ops listed i = true := by kernel_rfl) (hr : (Region.ready md ops listed).contains i = true := by kernel_rfl) (hQ : ∀ c a w, Q (.panic c) (a.put oi.dst v) w → Q (.panic c) a w := by exact fun _ _ _ h => h) : wpAnyH P md ops Q S (fuel + 1) listed a w := wpAnyH_take hi hs hf hr hQ hy hS h
theorem wpAnyH_td {P : Program} {md : Region.Mode} {ops : Array Oper} {Q : Exit → Act → World → Prop} {S : World → Prop} {i : Nat} {oi : Oper} {v : Value} {fuel : Nat} {listed : Array Bool} {a : Act} {w : World} (hi : ops[i]? = some oi)
    (h : wpAnyH P md ops Q S fuel (listed.setIfInBounds i true) (a.put oi.dst v) w)
    (hs : Region.noSelect ops = true := by kernel_rfl) (hf : Region.free md ops listed i = true := by kernel_rfl) (hr : (Region.ready md ops listed).contains i = true := by kernel_rfl) (hQ : ∀ c a w, Q (.panic c) (a.put oi.dst v) w → Q (.panic c) a w := by exact fun _ _ _ h => h)
    (hw : Region.wanted oi (yielded ops a.tmps) = true := by rfl) (hv : ∀ w, S w → (execOp a.eval oi).run P w = .ok (.value v) w := by intro w hSw; go_simp; try with_reducible rfl) (hS : S w := by assumption) : wpAnyH P md ops Q S (fuel + 1) listed a w := wpAnyH_take hi hs hf hr hQ (Or.inl ⟨hw, hv⟩) hS h
open Go.RowKit Go.Sort
theorem vec_clean (w : World) {v : List Int} (hv : v.length = 65) : Calls Try.prog 37 #[vecA v] w fun e w' => e = .returned (vecA (Vec.clean v)) ∧ Laid w w' := by
 have hz := vecZero
 have hb1 : VRow ((w.alloc (.cells (vecR v) 23)).alloc (.cells (vecR Vec.zeros) 23)) w.heap.size v := (VRow.made w hv).alloc _
 have hb2 : VRow ((w.alloc (.cells (vecR v) 23)).alloc (.cells (vecR Vec.zeros) 23)) (w.heap.size + 1) Vec.zeros := by
  have := VRow.made (w.alloc (.cells (vecR v) 23)) (v := Vec.zeros) Vec.zeros_len
  rwa [World.size_alloc] at this
 have HB1 := Lib.hid hb1
 have HB2 := Lib.hid hb2
 have HL0 : Hid (Laid w ((w.alloc (.cells (vecR v) 23)).alloc (.cells (vecR Vec.zeros) 23))) := Lib.hid ((Laid.new w _).alloc _)
 have HV := Lib.hid hv
 clear hv hb1 hb2
 go_enter Try.func37, Try.ntmps37
 go_wp2_with (refine wpList_vload (by rfl) _ (by rfl) (by rfl) HB1.out ?_)
 go_loopw [6] (fun i wr => ∃ k : Nat, k ≤ 65 ∧ i = .int .i64 (k : Int) ∧ VRow wr w.heap.size (Vec.part (fun i => max ((v[i]?).getD 0) 0) v k) ∧ VRow wr (w.heap.size + 1) Vec.zeros ∧ Laid w wr) (fun i _ => 65 - (intOf i).toNat)
 case atStart => exact ⟨0, Nat.zero_le _, rfl, by rw [Vec.part_zero]; exact HB1.out, HB2.out, HL0.out⟩
 case round =>
  obtain ⟨k, hk, rfl, h1, h2, h3⟩ := hrel
  by_cases hlt : k < 65
  ·obtain ⟨n, hn⟩ : ∃ n, v[k]? = some n := ⟨_, List.getElem?_eq_getElem (by rw [HV.out]; exact hlt)⟩
   have hix := vec_index hlt hn
   have had := vec_addr hlt w.heap.size
   have hc := h1.at (i := k) (n := n) (by rw [Vec.part_ge _ _ (by omega) (Nat.le_refl k)]; exact hn)
   have hf := h1.free k
   have hk0 : (0 : Int) ≤ (k : Int) := by omega
   have hk1 : (k : Int) < 65 := by omega
   have HN := Lib.hid hn
   have H1 := Lib.hid h1
   have H2 := Lib.hid h2
   have H3 := Lib.hid h3
   clear hn h1 h2 h3
   go_wp2_with fail
   have e : (Vec.part (fun i => max ((v[i]?).getD 0) 0) v k).set k (if n < 0 then 0 else n) = Vec.part (fun i => max ((v[i]?).getD 0) 0) v (k + 1) := by
    rw [← Vec.part_set _ HV.out hlt, HN.out]
    congr 1
    show _ = max n 0
    split <;> omega
   have h1 := H1.out.stored k (if n < 0 then 0 else n)
   rw [e] at h1
   have em : (if n < 0 then 0 else n) = max n 0 := by split <;> omega
   first
    | exact ⟨⟨k + 1, by omega, rfl, h1, H2.out.storedElsewhere (by simp) _, H3.out.stored (Nat.le_refl _) _⟩, by show 65 - ((k : Int) + 1).toNat < 65 - (k : Int).toNat; omega⟩
    | (rw [em] at h1; exact ⟨⟨k + 1, by omega, rfl, h1, H2.out.storedElsewhere (by simp) _, H3.out.stored (Nat.le_refl _) _⟩, by show 65 - ((k : Int) + 1).toNat < 65 - (k : Int).toNat; omega⟩)
  ·obtain rfl : k = 65 := by omega
   rw [Vec.part_all _ HV.out] at h1
   have had : ∀ W : World, (Instr.indexAt 23 (.pointer (some ⟨w.heap.size, 0, none⟩)) (.int .i64 0)).run Try.prog W = .ok (.pointer (some ⟨w.heap.size, 0, none⟩)) W := fun W => vec_addr (k := 0) (by omega) _ W
   have hc := h1.at (Vec.make_at _ 0 (by omega))
   have hf := h1.free 0
   have h4 := h1.stored 0 0
   rw [Vec.clean_set] at h4
   have H4 := Lib.hid h4
   have h5 : VRow (wr.setCell ⟨w.heap.size, 0, none⟩ (.int .i64 0)) (w.heap.size + 1) Vec.zeros := h2.storedElsewhere (by simp) _
   have H5 := Lib.hid h5
   have H6 : Hid (Laid w (wr.setCell ⟨w.heap.size, 0, none⟩ (.int .i64 0))) := Lib.hid (h3.stored (Nat.le_refl _) _)
   have Hc : Hid ((Vec.clean v).length = 65) := Lib.hid (Vec.clean_len v)
   clear h1 h2 h3 h4 h5
   generalize (max ((v[0]?).getD 0) 0) = n0 at *
   go_wp2_with (first | refine wpList_vload (by rfl) _ (by rfl) (by rfl) H4.out ?_ | refine wpList_vstore (by rfl) _ _ (by rfl) (by rfl) (by rfl) H5.out Hc.out ?_)
   exact bodyPost_ret (v := vecA (Vec.clean v)) (results_cell_row (by rfl) _ _ (w.heap.size + 1) 23 _ (0, 0) _ (by rfl) (H5.out.set _ Hc.out).row Try.underlying23 rfl (vecSize Hc.out)) rfl ⟨rfl, H6.out.set (Nat.le_succ _) _⟩
open Go.RowKit Go.Sort
theorem run_callFunc_own {P : Program} {f : FuncId} (h : (P.funcs[f]?).map (fun fn => (fn.name == "runtime.NumGoroutine", fn.body.isNone)) = some (false, false)) (args : Array Value) (w : World) : (callFunc f args).run P w = .ok (.enter f args) w := by
 cases hf : P.funcs[f]? with
 | none => rw [hf] at h; cases h
 | some fn =>
  rw [hf] at h
  simp only [Option.map_some, Option.some.injEq, Prod.mk.injEq] at h
  have h1 : fn.name ≠ "runtime.NumGoroutine" := by simpa using h.1
  have h2 : fn.body ≠ none := fun e => by rw [e] at h; cases h.2
  simp [callFunc, hf, h1, h2]
def Takes (fn : FuncId) (g : Int → Int → Int) : Prop := ((Try.prog.funcs[fn]?).map (fun f => (f.name == "runtime.NumGoroutine", f.body.isNone)) = some (false, false)) ∧ ∀ (W : World) (m n : Int), Calls Try.prog fn #[.int .i64 m, .int .i64 n] W fun e w' => e = .returned (.int .i64 (g m n)) ∧ Laid W w'
open Go.RowKit Go.Sort
def ErrAt (w : World) (c : Nat) (ok : Bool) : Prop := Row w c 26 #[.int .i64 (if ok then 0 else 4)]
def Pck.okTo (ok : Bool) (bs : List UInt8) : Bool := ok && decide (bs.length ≤ 65536)
def Pck.bsTo (ok : Bool) (bs : List UInt8) : List UInt8 := if Pck.okTo ok bs then bs else []
def PutTo (w : World) (c : Nat) (ok : Bool) (bs : List UInt8) (e : Ending) (w' : World) : Prop :=
 e = .returned (.string (mk (Pck.bsTo ok bs))) ∧ ErrAt w' c (Pck.okTo ok bs) ∧ w.grownBy w' (some c)
theorem ErrAt.below {w w' : World} {c : Nat} {ok : Bool} (h : ErrAt w c ok) (hb : Below w.heap.size w w') : ErrAt w' c ok := Row.below h hb (Row.inHeap h)
theorem ErrAt.new {w : World} {c : Nat} {ok : Bool} (h : ErrAt w c ok) (o : Obj) : ErrAt (w.alloc o) c ok := Row.behindNew h o
theorem ErrAt.draw {w : World} {c : Nat} {ok : Bool} (h : ErrAt w c ok) : ErrAt w.drew c ok := h
theorem ErrAt.at {w : World} {c : Nat} {ok : Bool} (h : ErrAt w c ok) : w.cell? ⟨c, 0, none⟩ = some (.int .i64 (if ok then 0 else 4)) := Row.at h 0
def FlOk (f : Fl) : Prop := 0 ≤ f.head ∧ f.head < 9223372036854775808 ∧ f.body.size ≤ 9223372036854775807
theorem flN_all (n : Int) : (flN n).bytes = Pck.num n := by
 unfold Fl.bytes Fl.head Fl.body flN numOf strOf Pck.num
 simp
theorem flT_all (t : List UInt8) : (flT t).bytes = Pck.txt t := flT_bytes t
theorem flN_ok {n : Int} (h0 : 0 ≤ n) (h : n ≤ 9223372036854775807) : FlOk (flN n) := by
 unfold FlOk Fl.head Fl.body flN numOf strOf
 simp only [Bool.false_eq_true, if_false]
 exact ⟨h0, by omega, by decide⟩
theorem flT_ok {t : List UInt8} (h : t.length ≤ 9223372036854775807) : FlOk (flT t) := by
 unfold FlOk Fl.head Fl.body flT numOf strOf
 simp only [if_true, mk_len]
 omega
theorem Pck.bsTo_len (ok : Bool) (bs : List UInt8) : (Pck.bsTo ok bs).length ≤ 65536 := by
 unfold Pck.bsTo Pck.okTo
 split
 ·rename_i h
  rw [Bool.and_eq_true, decide_eq_true_iff] at h
  exact h.2
 ·simp
theorem Pck.okTo_false (bs : List UInt8) : Pck.okTo false bs = false := rfl
structure Lays (id : FuncId) : Prop where
 there : (Try.prog.funcs[id]?).map (fun f => (f.name == "runtime.NumGoroutine", f.body.isNone)) = some (false, false)
 lays : ∀ {w : World} {c b cap : Nat} {ok : Bool} {fs : List Fl}, ErrAt w c ok → FieldsAt w b 0 fs → b < w.heap.size → fs.length ≤ 70000 → (∀ f ∈ fs, FlOk f) → Calls Try.prog id #[.slice (some ⟨b, 0, none⟩) fs.length cap, .pointer (some ⟨c, 0, none⟩)] w (PutTo w c ok (allBytes fs))
theorem lay_good {fs : List Fl} (h : ∀ f ∈ fs, FlOk f) : layOf fs = if 65536 < (allBytes fs).length then ([], 4) else (allBytes fs, 0) := by
 unfold layOf
 rw [if_neg]
 rw [List.any_eq_true]
 rintro ⟨f, hf, hn⟩
 have h1 := (h f hf).1
 have : f.head < 0 := by simpa using hn
 omega
theorem fl_fits {fs : List Fl} (h : ∀ f ∈ fs, FlOk f) : Fits fs := fun i f hf => (h f (List.mem_of_getElem? hf)).2
theorem lays_vec : Lays 35 := by
 refine ⟨by kernel_rfl, ?_⟩
 intro w c b cap ok fs hE hF hb hl hf
 cases ok
 ·have c0 : w.cell? ⟨c, 0, none⟩ = some (.int .i64 4) := Row.at hE 0
  have HE := Lib.hid hE
  clear hE hF hb hl hf
  go_enter Try.func35, Try.ntmps35
  go_wp2_with fail
  go_ret
  exact ⟨rfl, HE.out, gb_refl _ _⟩
 ·have c0 : w.cell? ⟨c, 0, none⟩ = some (.int .i64 0) := Row.at hE 0
  have LA := lay_any (cap := cap) hF hb hl (fl_fits hf)
  have LG := lay_good hf
  have HE := Lib.hid hE
  unfold LayPost at LA
  by_cases hbig : 65536 < (allBytes fs).length
  ·rw [if_pos hbig] at LG
   rw [LG] at LA
   have HO : Hid (Pck.okTo true (allBytes fs) = false) := Lib.hid (by unfold Pck.okTo; simp; omega)
   replace LA := Lib.hid LA
   clear hE hF hl hf LG hbig hb
   generalize allBytes fs = bs at *
   generalize fs.length = n at *
   go_enter Try.func35, Try.ntmps35
   go_wp2_with fail
   refine LA.out.mono ?_
   rintro e w1 ⟨rfl, hb1⟩
   have R1 := Lib.hid (HE.out.below hb1)
   have c1 : w1.cell? ⟨c, 0, none⟩ = some (.int .i64 0) := Row.at R1.out 0
   have f1 := Row.free R1.out 0
   have K1 := Lib.hid (Row.stored R1.out 0 (.int .i64 4))
   have G1 := Lib.hid (gb_store (gb_below hb1 (some c)) 0 (.int .i64 4))
   clear hb1
   go_wp2_with fail
   go_ret
   exact ⟨by unfold Pck.bsTo; rw [HO.out]; rfl, by rw [HO.out]; exact K1.out, G1.out⟩
  ·rw [if_neg hbig] at LG
   rw [LG] at LA
   have HO : Hid (Pck.okTo true (allBytes fs) = true) := Lib.hid (by unfold Pck.okTo; simp; omega)
   replace LA := Lib.hid LA
   clear hE hF hl hf LG hbig hb
   generalize allBytes fs = bs at *
   generalize fs.length = n at *
   go_enter Try.func35, Try.ntmps35
   go_wp2_with fail
   refine LA.out.mono ?_
   rintro e w1 ⟨rfl, hb1⟩
   have R1 := Lib.hid (HE.out.below hb1)
   have c1 : w1.cell? ⟨c, 0, none⟩ = some (.int .i64 0) := Row.at R1.out 0
   have f1 := Row.free R1.out 0
   have K1 := Lib.hid (Row.stored R1.out 0 (.int .i64 0))
   have G1 := Lib.hid (gb_store (gb_below hb1 (some c)) 0 (.int .i64 0))
   clear hb1
   go_wp2_with fail
   go_ret
   exact ⟨by unfold Pck.bsTo; rw [HO.out]; rfl, by rw [HO.out]; exact K1.out, G1.out⟩
theorem lays_items : Lays 39 := by
 refine ⟨by kernel_rfl, ?_⟩
 intro w c b cap ok fs hE hF hb hl hf
 cases ok
 ·have c0 : w.cell? ⟨c, 0, none⟩ = some (.int .i64 4) := Row.at hE 0
  have HE := Lib.hid hE
  clear hE hF hb hl hf
  go_enter Try.func39, Try.ntmps39
  go_wp2_with fail
  go_ret
  exact ⟨rfl, HE.out, gb_refl _ _⟩
 ·have c0 : w.cell? ⟨c, 0, none⟩ = some (.int .i64 0) := Row.at hE 0
  have LA := lay_any (cap := cap) hF hb hl (fl_fits hf)
  have LG := lay_good hf
  have HE := Lib.hid hE
  unfold LayPost at LA
  by_cases hbig : 65536 < (allBytes fs).length
  ·rw [if_pos hbig] at LG
   rw [LG] at LA
   have HO : Hid (Pck.okTo true (allBytes fs) = false) := Lib.hid (by unfold Pck.okTo; simp; omega)
   replace LA := Lib.hid LA
   clear hE hF hl hf LG hbig hb
   generalize allBytes fs = bs at *
   generalize fs.length = n at *
   go_enter Try.func39, Try.ntmps39
   go_wp2_with fail
   refine LA.out.mono ?_
   rintro e w1 ⟨rfl, hb1⟩
   have R1 := Lib.hid (HE.out.below hb1)
   have c1 : w1.cell? ⟨c, 0, none⟩ = some (.int .i64 0) := Row.at R1.out 0
   have f1 := Row.free R1.out 0
   have K1 := Lib.hid (Row.stored R1.out 0 (.int .i64 4))
   have G1 := Lib.hid (gb_store (gb_below hb1 (some c)) 0 (.int .i64 4))
   clear hb1
   go_wp2_with fail
   go_ret
   exact ⟨by unfold Pck.bsTo; rw [HO.out]; rfl, by rw [HO.out]; exact K1.out, G1.out⟩
  ·rw [if_neg hbig] at LG
   rw [LG] at LA
   have HO : Hid (Pck.okTo true (allBytes fs) = true) := Lib.hid (by unfold Pck.okTo; simp; omega)
   replace LA := Lib.hid LA
   clear hE hF hl hf LG hbig hb
   generalize allBytes fs = bs at *
   generalize fs.length = n at *
   go_enter Try.func39, Try.ntmps39
   go_wp2_with fail
   refine LA.out.mono ?_
   rintro e w1 ⟨rfl, hb1⟩
   have R1 := Lib.hid (HE.out.below hb1)
   have c1 : w1.cell? ⟨c, 0, none⟩ = some (.int .i64 0) := Row.at R1.out 0
   have f1 := Row.free R1.out 0
   have K1 := Lib.hid (Row.stored R1.out 0 (.int .i64 0))
   have G1 := Lib.hid (gb_store (gb_below hb1 (some c)) 0 (.int .i64 0))
   clear hb1
   go_wp2_with fail
   go_ret
   exact ⟨by unfold Pck.bsTo; rw [HO.out]; rfl, by rw [HO.out]; exact K1.out, G1.out⟩
end Go.Proofs.Ytpafpegcodempaa
