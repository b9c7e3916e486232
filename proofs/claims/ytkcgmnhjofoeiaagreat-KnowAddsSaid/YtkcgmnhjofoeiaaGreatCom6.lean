import Derived.Test.YtkcgmnhjofoeiaaGreatCom5
import Derived.Test.YtkcgmnhjofoeiaaGreatCom2
import Derived.Deep.WholeRow
import Derived.Deep.MidRow
set_option maxRecDepth 100000
set_option linter.all false
namespace Go.Proofs.YtkcgmnhjofoeiaaGreat
open Go.RowKit
def vecL (v : List Int) : List Value := v.map (Value.int .i64)
def vecR (v : List Int) : Array Value := (vecL v).toArray
abbrev vecA (v : List Int) : Value := .agg (vecR v)
def Vec.zeros : List Int := List.replicate 65 0
theorem Vec.zeros_len : Vec.zeros.length = 65 := List.length_replicate
theorem Vec.zeros_plain : Vec.Plain Vec.zeros := Vec.zero_plain
theorem vecL_len (v : List Int) : (vecL v).length = v.length := List.length_map ..
theorem vecR_size {v : List Int} (h : v.length = 65) : (vecR v).size = 65 := by unfold vecR; rw [List.size_toArray, vecL_len, h]
theorem vecR_get {v : List Int} {i : Nat} {n : Int} (h : v[i]? = some n) : (vecR v)[i]? = some (.int .i64 n) := by
 unfold vecR vecL
 rw [List.getElem?_toArray, List.getElem?_map, h]; rfl
theorem vecR_one (v : List Int) : (vecR v).all (·.oneCell') = true := all_oneCell_toArray (fun u hu => by
 obtain ⟨n, _, rfl⟩ := List.mem_map.1 hu
 rfl)
theorem vecR_set (v : List Int) (i : Nat) (n : Int) : (vecR v).setIfInBounds i (.int .i64 n) = vecR (v.set i n) := by
 unfold vecR vecL
 rw [List.setIfInBounds_toArray, List.map_set]
theorem vecInfo : (Tryz.prog.info? 28).map (fun i => (i.zero, i.size)) = some (some (vecA Vec.zeros), 65) := by kernel_rfl
theorem vecZero (w : World) : (zeroValue 28).run Tryz.prog w = .ok (vecA Vec.zeros) w := (zero_of_info vecInfo).1 w
theorem vecSize {v : List Int} (h : v.length = 65) : (Tryz.prog.info? 28).map (·.size) = some (vecR v).size := by rw [vecR_size h]; exact (zero_of_info vecInfo).2
def VRow (w : World) (b : Nat) (v : List Int) : Prop := Row w b 28 (vecR v) ∧ v.length = 65
section
variable {w w' a : World} {b : Nat} {v : List Int}
theorem VRow.row (h : VRow w b v) : Row w b 28 (vecR v) := h.1
theorem VRow.len (h : VRow w b v) : v.length = 65 := h.2
theorem VRow.inHeap (h : VRow w b v) : b < w.heap.size := h.1.inHeap
theorem VRow.at (h : VRow w b v) {i : Nat} {n : Int} (hn : v[i]? = some n) : w.cell? ⟨b, i, none⟩ = some (.int .i64 n) := by rw [h.1.at, vecR_get hn]
theorem VRow.free (h : VRow w b v) (i : Nat) : w.frozen? ⟨b, i, none⟩ = false := h.1.free i
theorem VRow.made (w : World) (hv : v.length = 65) : VRow (w.alloc (.cells (vecR v) 28)) w.heap.size v := ⟨Row.made w _ _, hv⟩
theorem VRow.stored (h : VRow w b v) (i : Nat) (n : Int) : VRow (w.setCell ⟨b, i, none⟩ (.int .i64 n)) b (v.set i n) := ⟨by have := h.1.stored i (.int .i64 n); rwa [vecR_set] at this, by rw [List.length_set]; exact h.2⟩
theorem VRow.below {B : Nat} (h : VRow w b v) (hb : Below B w w') (hB : b < B) : VRow w' b v := ⟨h.1.below hb hB, h.2⟩
theorem VRow.load (h : VRow w b v) : (Instr.loadAt 28 (.pointer (some ⟨b, 0, none⟩))).run Tryz.prog w = .ok (vecA v) w := by
 simp only [Instr.loadAt, Instr.sureAddr, Sem.run_bind, Sem.run_pure, Result.andThen]
 exact run_loadVar_row _ _ _ _ _ (0, 0) _ h.1 Tryz.underlying28 rfl (vecSize h.2)
theorem VRow.set (h : VRow w b v) (u : List Int) (hu : u.length = 65) : VRow (w.setRow b (vecR u)) b u := by
 have h1 : w.heap[b]? = some (Obj.cells (vecR v) 28 (0, 0)) := h.1
 refine ⟨?_, hu⟩
 show (w.heap.modify b _)[b]? = _
 rw [Array.getElem?_modify, if_pos rfl, h1]
 rfl
theorem VRow.store (h : VRow w b v) {u : List Int} (hu : u.length = 65) : (Instr.storeAt 28 (.pointer (some ⟨b, 0, none⟩)) (vecA u)).run Tryz.prog w = .ok () (w.setRow b (vecR u)) := by
 simp only [Instr.storeAt, Instr.sureAddr, Sem.run_bind, Sem.run_pure, Result.andThen]
 exact run_storeVar_row _ _ _ _ _ _ h.1 (vecSize hu) (by rw [vecR_size h.2, vecR_size hu]) (vecR_one u)
theorem wpList_vload {ops : Array Oper} {rest : List Oper} {op : Oper} {a : Act} {Q : Exit → Act → World → Prop} (hw : Region.wanted op (yielded ops a.tmps) = true) (x : Operand) (ho : op.op = .load 28 x) (hx : a.eval x = .pointer (some ⟨b, 0, none⟩)) (h : VRow w b v)
  (k : wpList Tryz.prog ops Q rest (a.put op.dst (vecA v)) w) : wpList Tryz.prog ops Q (op :: rest) a w := by
 unfold wpList
 rw [if_pos hw]
 refine Or.inl ?_
 have hl := h.load
 unfold Oper.wp execOp
 simp only [ho, hx, Sem.run_bind, hl, Result.andThen_ok]
 exact k
theorem wpList_vstore {ops : Array Oper} {rest : List Oper} {op : Oper} {a : Act} {Q : Exit → Act → World → Prop} (hw : Region.wanted op (yielded ops a.tmps) = true) (x y : Operand) (ho : op.op = .store 28 x y) {u : List Int} (hx : a.eval x = .pointer (some ⟨b, 0, none⟩)) (hy : a.eval y = vecA u) (h : VRow w b v) (hu : u.length = 65)
  (k : wpList Tryz.prog ops Q rest (a.put op.dst undef) (w.setRow b (vecR u))) : wpList Tryz.prog ops Q (op :: rest) a w := by
 unfold wpList
 rw [if_pos hw]
 refine Or.inl ?_
 have hl := h.store hu
 unfold Oper.wp execOp
 simp only [ho, hx, hy, Sem.run_bind, hl, Result.andThen_ok]
 exact k
theorem exec_vload {f : Operand → Value} {op : Oper} {x : Operand} (ho : op.op = .load 28 x) (hx : f x = .pointer (some ⟨b, 0, none⟩)) (h : VRow w b v) : (execOp f op).run Tryz.prog w = .ok (.value (vecA v)) w := by
 have hl := h.load
 unfold execOp
 simp only [ho, hx, Sem.run_bind, hl, Result.andThen_ok]
 rfl
theorem step_vstore {ops : Array Oper} {o : Oper} {a : Act} {K : Act → World → Prop} {Q : Exit → Act → World → Prop} {E : Prop} (x y : Operand) (hgd : o.guard = none) (ho : o.op = .store 28 x y) {u : List Int} (hx : a.eval x = .pointer (some ⟨b, 0, none⟩)) (hy : a.eval y = vecA u) (h : VRow w b v) (hu : u.length = 65)
  (k : K (a.put o.dst undef) (w.setRow b (vecR u))) : if Region.wanted o (yielded ops a.tmps) = true then Oper.wp Tryz.prog o a w K Q else E := by
 rw [if_pos (by simp [Region.wanted, hgd])]
 have hl := h.store hu
 unfold Oper.wp execOp
 simp only [ho, hx, hy, Sem.run_bind, hl, Result.andThen_ok]
 exact k
theorem VRow.draws (h : VRow w b v) (n : Nat) : VRow (w.drewN n) b v := h
theorem VRow.grown (h : VRow w b v) (n : Nat) (os : Array Obj) : VRow (Sort.grow (w.drewN n) os) b v := ⟨(Sort.heap_grow_old (w.drewN n) os h.1.inHeap).trans h.1, h.2⟩
theorem VRow.alloc (h : VRow w b v) (o : Obj) : VRow (w.alloc o) b v := ⟨h.1.behindNew o, h.2⟩
theorem VRow.storedElsewhere (h : VRow w b v) {p : Addr} (hp : p.block ≠ b) (u : Value) : VRow (w.setCell p u) b v := ⟨h.1.storedElsewhere hp u, h.2⟩
theorem VRow.setElsewhere (h : VRow w b v) {c : Nat} (hc : c ≠ b) (cs : Array Value) : VRow (w.setRow c cs) b v := by
 refine ⟨?_, h.2⟩
 show (w.heap.modify c _)[b]? = _
 rw [Array.getElem?_modify, if_neg hc]
 exact h.1
theorem Laid.drew (h : Laid a w) : Laid a w.drew := by
 obtain ⟨q, os, rfl⟩ := h
 exact ⟨q + 1, os, rfl⟩
theorem Laid.draws (h : Laid a w) (n : Nat) : Laid a (w.drewN n) := by
 obtain ⟨q, os, rfl⟩ := h
 exact ⟨q + n, os, by show Sort.grow ((a.drewN q).drewN n) os = _; rw [World.drewN_drewN]⟩
theorem Laid.alloc (h : Laid a w) (o : Obj) : Laid a (w.alloc o) := h.trans (Laid.new w o)
theorem Laid.size (h : Laid a w) : a.heap.size ≤ w.heap.size := h.below.size
theorem Laid.grown (h : Laid a w) (n : Nat) (os : Array Obj) : Laid a (Sort.grow (w.drewN n) os) := h.trans ⟨n, os, rfl⟩
theorem Laid.heap (h : Laid a w) (f : Array Obj → Array Obj) (hf : ∀ os : Array Obj, ∃ os', f (a.heap ++ os) = a.heap ++ os') : Laid a { w with heap := f w.heap } := by
 obtain ⟨q, os, rfl⟩ := h
 obtain ⟨os', e⟩ := hf os
 exact ⟨q, os', by show { Sort.grow (a.drewN q) os with heap := f (a.heap ++ os) } = _; rw [e]; rfl⟩
theorem Laid.stored (h : Laid a w) {p : Addr} (hp : a.heap.size ≤ p.block) (u : Value) : Laid a (w.setCell p u) :=
 h.heap (fun hp => hp.modify p.block _) (fun os => ⟨_, Sort.modify_append_right a.heap os p.block _ hp⟩)
theorem Laid.set (h : Laid a w) {b : Nat} (hb : a.heap.size ≤ b) (cs : Array Value) : Laid a (w.setRow b cs) :=
 h.heap (fun hp => hp.modify b _) (fun os => ⟨_, Sort.modify_append_right a.heap os b _ hb⟩)
end
theorem vec_index {v : List Int} {k : Nat} {n : Int} (hk : k < 65) (hn : v[k]? = some n) (w : World) : (Instr.index 28 (vecA v) (.int .i64 (k : Int))).run Tryz.prog w = .ok (.int .i64 n) w := by
 have hu := Tryz.underlying28
 have ha := Tryz.isAgg3
 have hs := Tryz.sizeOf3
 have hg : (vecR v)[k]? = some (.int .i64 n) := vecR_get hn
 have h1 : (0 : Int) ≤ (k : Int) ∧ (k : Int) < 65 := by omega
 simp [Instr.index, run_underlying hu, asIntOf, h1, go_sem, ha, hs, part, hg]
 intro h
 omega
theorem vec_addr {k : Nat} (hk : k < 65) (b : Nat) (w : World) : (Instr.indexAt 28 (.pointer (some ⟨b, 0, none⟩)) (.int .i64 (k : Int))).run Tryz.prog w = .ok (.pointer (some ⟨b, k, none⟩)) w := by
 have hu := Tryz.underlying28
 have hs := Tryz.sizeOf3
 have h1 : (0 : Int) ≤ (k : Int) ∧ (k : Int) < 65 := by omega
 simp [Instr.indexAt, Instr.sureAddr, run_underlying hu, asIntOf, h1, go_sem, hs, Addr.add]
 rw [if_pos hk]
 by_cases h0 : k = 0
 ·subst h0; rfl
 ·rw [if_neg h0]
theorem wq_vload {ops : Array Oper} {rest : List Oper} {op : Oper} {a : Act} {C : World → Prop} {Q : Act → Prop} {b : Nat} {v : List Int} (hw : Region.wanted op (yielded ops a.tmps) = true) (x : Operand) (ho : op.op = .load 28 x) (hx : a.eval x = .pointer (some ⟨b, 0, none⟩)) (h : ∀ w, C w → VRow w b v)
  (k : WQ Tryz.prog ops C Q rest (a.put op.dst (vecA v))) : WQ Tryz.prog ops C Q (op :: rest) a :=
 wq_take hw (fun w hC => exec_vload ho hx (h w hC)) k
theorem inB_laid {P : Program} {f : FuncId} {args : Array Value} {W w : World} {v : Value} (hC : InB W w) (h : Calls P f args w fun e w' => e = .returned v ∧ Laid w w') : Calls P f args w fun e w' => e = .returned v ∧ InB W w' :=
 h.mono fun _ _ ⟨he, hb⟩ => ⟨he, hC.trans hb.below⟩
theorem VRow.inB {w w' : World} {b : Nat} {v : List Int} (h : VRow w b v) (k : InB w w') : VRow w' b v := h.below k.below h.inHeap
structure VecOk : Prop where
 clean : ∀ {w : World} {v : List Int}, v.length = 65 → Calls Tryz.prog 114 #[vecA v] w fun e w' => e = .returned (vecA (Vec.clean v)) ∧ Laid w w'
 has : ∀ {w : World} {v : List Int} (x : Ver.V), v.length = 65 → Ver.Bd x → Calls Tryz.prog 32 #[vecA v, verA x] w fun e w' => e = .returned (.bool (decide (Vec.Has v x))) ∧ Laid w w'
 ofl : ∀ {w : World} {F : Nat → Prop} {s : Value} {l : List Ver.V}, Vrs w F s l → l.length ≤ 1000000 → (∀ x ∈ l, Ver.Bd x) → Calls Tryz.prog 21 #[s] w fun e w' => e = .returned (vecA (Vec.ofl l)) ∧ Laid w w'
 join : ∀ {w : World} {a b : List Int}, a.length = 65 → b.length = 65 → Calls Tryz.prog 96 #[vecA a, vecA b] w fun e w' => e = .returned (vecA (Vec.join a b)) ∧ Laid w w'
 covers : ∀ {w : World} {a b : List Int}, a.length = 65 → b.length = 65 → Calls Tryz.prog 112 #[vecA a, vecA b] w fun e w' => e = .returned (.bool (decide (Vec.Covers a b))) ∧ Laid w w'
end Go.Proofs.YtkcgmnhjofoeiaaGreat
namespace Go.Proofs.YtkcgmnhjofoeiaaGreat.Iset
open Ver (V sort Up)
def join (a b : List V) : List V := sort (a ++ b)
def meet (a b : List V) : List V := sort (a.filter fun x => decide (x ∈ b))
def minus (a b : List V) : List V := sort (a.filter fun x => decide (x ∉ b))
def put (l : List V) (x : V) : List V := Ver.put (sort l) x
def drop (l : List V) (x : V) : List V := minus l [x]
def Within (a b : List V) : Prop := ∀ x ∈ a, x ∈ b
instance (a b : List V) : Decidable (Within a b) := inferInstanceAs (Decidable (∀ x ∈ a, _))
theorem meet_mem {a b : List V} {x : V} : x ∈ meet a b ↔ x ∈ a ∧ x ∈ b := by unfold meet; rw [Ver.sort_mem, List.mem_filter]; simp
theorem minus_mem {a b : List V} {x : V} : x ∈ minus a b ↔ x ∈ a ∧ x ∉ b := by unfold minus; rw [Ver.sort_mem, List.mem_filter]; simp
theorem put_mem {l : List V} {x y : V} : y ∈ put l x ↔ y = x ∨ y ∈ l := by unfold put; rw [Ver.put_mem, Ver.sort_mem]
theorem put_up (l : List V) (x : V) : Up (put l x) := Ver.put_up (Ver.sort_up _) x
theorem sort_same {a b : List V} (h : ∀ x, x ∈ a ↔ x ∈ b) : sort a = sort b := Ver.up_same (Ver.sort_up _) (Ver.sort_up _) (fun x => by rw [Ver.sort_mem, Ver.sort_mem]; exact h x)
theorem up_empty {l : List V} : l = [] ↔ ∀ x, x ∉ l := by
 cases l with
 | nil => simp
 | cons a l =>
  constructor
  ·intro h; cases h
  ·intro h; exact absurd (List.mem_cons_self ..) (h a)
theorem filter_take (p : V → Bool) (l : List V) (i : Nat) (x : V) (hx : l[i]? = some x) : (l.take (i + 1)).filter p = (l.take i).filter p ++ (if p x then [x] else []) := by
 obtain ⟨hl, he⟩ := List.getElem?_eq_some_iff.1 hx
 rw [List.take_succ_eq_append_getElem hl, he, List.filter_append]
 congr 1
 cases h : p x <;> simp [h]
theorem sort_more (l : List V) (x : V) : sort (l ++ [x]) = Ver.put (sort l) x := by
 unfold sort
 rw [List.foldl_append]
 rfl
theorem minus_take (a b : List V) (i : Nat) (x : V) (hx : a[i]? = some x) : minus (a.take (i + 1)) b = if x ∈ b then minus (a.take i) b else Ver.put (minus (a.take i) b) x := by
 unfold minus
 rw [filter_take _ a i x hx]
 by_cases h : x ∈ b
 ·rw [if_pos h, if_neg (by simpa using h), List.append_nil]
 ·rw [if_neg h, if_pos (by simpa using h), sort_more]
theorem minus_len (a b : List V) : (minus a b).length ≤ a.length := Nat.le_trans (Ver.sort_len _) (List.length_filter_le _ _)
theorem put_len (l : List V) (x : V) : (put l x).length ≤ l.length + 1 := by
 have := Ver.put_len (sort l) x
 have := Ver.sort_len l
 unfold put
 omega
theorem apart (a b : List V) : meet (minus a b) b = [] := by
 rw [up_empty]
 intro x hx
 have := meet_mem.1 hx
 exact (minus_mem.1 this.1).2 this.2
theorem put_is (l : List V) (x : V) : sort (l ++ [x]) = put l x := by unfold put; rw [sort_more]
theorem half_up {m : List V} {y x : V} {i : Nat} (h : Up m) (hy : m[i]? = some y) (hb : Ver.Before y x) : Up (m.drop (i + 1)) ∧ (x ∈ m ↔ x ∈ m.drop (i + 1)) := by
 have e : m.take (i + 1) ++ m.drop (i + 1) = m := List.take_append_drop _ _
 refine ⟨List.Pairwise.sublist (List.drop_sublist _ _) h, ?_⟩
 constructor
 ·intro hx
  obtain ⟨j, hj⟩ := List.getElem?_of_mem hx
  rcases Nat.lt_or_ge i j with hlt | hge
  ·refine List.mem_of_getElem? (i := j - (i + 1)) ?_
   rw [List.getElem?_drop, show i + 1 + (j - (i + 1)) = j by omega]
   exact hj
  ·exfalso
   rcases Nat.lt_or_ge j i with hji | hji
   ·obtain ⟨h1, e1⟩ := List.getElem?_eq_some_iff.1 hj
    obtain ⟨h2, e2⟩ := List.getElem?_eq_some_iff.1 hy
    have := List.pairwise_iff_getElem.1 h j i h1 h2 hji
    rw [e1, e2] at this
    exact Ver.before_asymm hb this
   ·have : j = i := by omega
    subst this
    rw [hy] at hj
    injection hj with hj
    rw [hj] at hb
    exact Ver.before_irrefl x hb
 ·exact fun hx => List.mem_of_mem_drop hx
theorem half_low {m : List V} {y x : V} {i : Nat} (h : Up m) (hy : m[i]? = some y) (hb : Ver.Before x y) : Up (m.take i) ∧ (x ∈ m ↔ x ∈ m.take i) := by
 refine ⟨List.Pairwise.sublist (List.take_sublist _ _) h, ?_⟩
 constructor
 ·intro hx
  obtain ⟨j, hj⟩ := List.getElem?_of_mem hx
  rcases Nat.lt_or_ge j i with hlt | hge
  ·refine List.mem_of_getElem? (i := j) ?_
   rw [List.getElem?_take, if_pos hlt]
   exact hj
  ·exfalso
   rcases Nat.lt_or_ge i j with hji | hji
   ·obtain ⟨h1, e1⟩ := List.getElem?_eq_some_iff.1 hj
    obtain ⟨h2, e2⟩ := List.getElem?_eq_some_iff.1 hy
    have := List.pairwise_iff_getElem.1 h i j h2 h1 hji
    rw [e1, e2] at this
    exact Ver.before_asymm hb this
   ·have : j = i := by omega
    subst this
    rw [hy] at hj
    injection hj with hj
    rw [hj] at hb
    exact Ver.before_irrefl x hb
 ·exact fun hx => List.mem_of_mem_take hx
theorem half_here {m : List V} {y x : V} {i : Nat} (hy : m[i]? = some y) (h1 : ¬ Ver.Before y x) (h2 : ¬ Ver.Before x y) : x ∈ m := by
 by_cases e : y = x
 ·rw [← e]; exact List.mem_of_getElem? hy
 ·rcases Ver.before_or e with h | h
  ·exact absurd h h1
  ·exact absurd h h2
theorem filter_sort (p : V → Bool) (l : List V) : (sort l).filter p = sort (l.filter p) := by
 refine (Ver.sort_is (List.Pairwise.filter p (Ver.sort_up l)) (fun x => ?_)).symm
 rw [List.mem_filter, List.mem_filter, Ver.sort_mem]
theorem meet_is (a b : List V) : (sort a).filter (fun x => decide (x ∈ b)) = meet a b := filter_sort _ a
theorem within_is (a b : List V) : (!a.any fun x => !decide (x ∈ b)) = decide (Within a b) := by
 rw [Bool.eq_iff_iff, decide_eq_true_iff]
 unfold Within
 simp
end Go.Proofs.YtkcgmnhjofoeiaaGreat.Iset
namespace Go.Proofs.YtkcgmnhjofoeiaaGreat
open Go.RowKit
structure IsetOk : Prop where
 ofl : ∀ {w : World} {F : Nat → Prop} {v : Value} {l : List Ver.V}, Vrs w F v l → l.length ≤ 1000000 → Calls Tryz.prog 97 #[v] w fun e w' => ∃ v', e = .returned v' ∧ Vrs w' (NewIn w w') v' (Ver.sort l) ∧ Below w.heap.size w w'
 has : ∀ {w : World} {F : Nat → Prop} {v : Value} {l : List Ver.V} (x : Ver.V), Vrs w F v l → l.length ≤ 1000000 → Calls Tryz.prog 65 #[v, verA x] w fun e w' => e = .returned (.bool (decide (x ∈ l))) ∧ Below w.heap.size w w'
 put : ∀ {w : World} {F : Nat → Prop} {v : Value} {l : List Ver.V} (x : Ver.V), Vrs w F v l → l.length ≤ 500000 → Calls Tryz.prog 55 #[v, verA x] w fun e w' => ∃ v', e = .returned v' ∧ Vrs w' (NewIn w w') v' (Iset.put l x) ∧ Below w.heap.size w w'
 join : ∀ {w : World} {F G : Nat → Prop} {u v : Value} {a b : List Ver.V}, Vrs w F u a → Vrs w G v b → a.length ≤ 500000 → b.length ≤ 500000 → Calls Tryz.prog 86 #[u, v] w fun e w' => ∃ v', e = .returned v' ∧ Vrs w' (NewIn w w') v' (Iset.join a b) ∧ Below w.heap.size w w'
 within : ∀ {w : World} {F G : Nat → Prop} {u v : Value} {a b : List Ver.V}, Vrs w F u a → Vrs w G v b → a.length ≤ 1000000 → b.length ≤ 1000000 → Calls Tryz.prog 113 #[u, v] w fun e w' => e = .returned (.bool (decide (Iset.Within a b))) ∧ Below w.heap.size w w'
end Go.Proofs.YtkcgmnhjofoeiaaGreat
namespace Go.Proofs.YtkcgmnhjofoeiaaGreat.Know
open Flt (Tx Cl)
open Ver (V)
structure Fr where
 f : List Cl
 v : List Int
 no : List V
deriving DecidableEq
structure It where
 item : V
 v : List Int
deriving DecidableEq
structure K where
 frags : List Fr
 items : List It
def Sane (f : List Cl) : Prop := ∀ c ∈ f, Flt.Right c
def SaneK (k : K) : Prop := ∀ x ∈ k.frags, Sane x.f
def has (f : List Cl) (p : Tx) (n : Int) : Prop := Sz.holds (Flt.sizes f p) n = true
def Fits (x : Fr) (item v : V) : Prop := x.f ≠ [] ∧ Vec.Has x.v v ∧ item ∉ x.no
instance (x : Fr) (item v : V) : Decidable (Fits x item v) := inferInstanceAs (Decidable (_ ∧ _))
def whole (l : List Fr) (item v : V) : List Cl := (l.filter fun x => decide (Fits x item v)).flatMap (·.f)
def ByItem (l : List It) (item v : V) : Prop := ∃ i ∈ l, i.item = item ∧ Vec.Has i.v v
instance (l : List It) (item v : V) : Decidable (ByItem l item v) := inferInstanceAs (Decidable (∃ i ∈ l, _))
def ByWhole (l : List Fr) (item v : V) (f : List Cl) : Prop := (∃ x ∈ l, Fits x item v) ∧ Cov.Subs (whole l item v) f
def Contains (k : K) (item v : V) (f : List Cl) : Prop := ByItem k.items item v ∨ ByWhole k.frags item v f
def Says (l : List Fr) (item v : V) (p : Tx) (n : Int) : Prop := ∃ x ∈ l, Fits x item v ∧ has x.f p n
theorem flat_has {α : Type} (g : α → List Cl) (l : List α) (p : Tx) (n : Int) : has (l.flatMap g) p n ↔ ∃ x ∈ l, has (g x) p n := by
 unfold has
 rw [Flt.sizes_holds]
 constructor
 ·rintro ⟨hn, c, hc, h⟩
  obtain ⟨x, hx, hcx⟩ := List.mem_flatMap.1 hc
  exact ⟨x, hx, (Flt.sizes_holds _ _ _).2 ⟨hn, c, hcx, h⟩⟩
 ·rintro ⟨x, hx, h⟩
  obtain ⟨hn, c, hc, h2⟩ := (Flt.sizes_holds _ _ _).1 h
  exact ⟨hn, c, List.mem_flatMap.2 ⟨x, hx, hc⟩, h2⟩
theorem whole_has (l : List Fr) (item v : V) (p : Tx) (n : Int) : has (whole l item v) p n ↔ Says l item v p n := by
 unfold whole Says
 rw [flat_has]
 constructor
 ·rintro ⟨x, hx, h⟩
  obtain ⟨h1, h2⟩ := List.mem_filter.1 hx
  exact ⟨x, h1, by simpa using h2, h⟩
 ·rintro ⟨x, hx, h1, h⟩
  exact ⟨x, List.mem_filter.2 ⟨hx, by simpa using h1⟩, h⟩
theorem sane_some {f : List Cl} (h : Sane f) (hne : f ≠ []) : ∃ p n, has f p n := by
 cases f with
 | nil => exact absurd rfl hne
 | cons c l =>
  have hc := (h c (List.mem_cons_self ..)).2
  exact ⟨c.pre, c.lo, (Flt.sizes_holds _ _ _).2 ⟨⟨by omega, by omega⟩, c, List.mem_cons_self .., Pth.covers_refl _, by omega, by omega⟩⟩
theorem has_some {f : List Cl} {p : Tx} {n : Int} (h : has f p n) : f ≠ [] := by
 rintro rfl
 obtain ⟨_, c, hc, _⟩ := (Flt.sizes_holds _ _ _).1 h
 cases hc
theorem alike_has {f g : List Cl} (h : Flt.Alike f g) (p : Tx) (n : Int) : has f p n ↔ has g p n := by
 unfold has
 rw [h p n]
theorem alike_of {f g : List Cl} (h : ∀ p n, has f p n ↔ has g p n) : Flt.Alike f g := fun p n => Bool.eq_iff_iff.2 (h p n)
theorem fits_says {l : List Fr} (hl : ∀ x ∈ l, Sane x.f) (item v : V) : (∃ x ∈ l, Fits x item v) ↔ ∃ p n, Says l item v p n := by
 constructor
 ·rintro ⟨x, hx, h⟩
  obtain ⟨p, n, hn⟩ := sane_some (hl x hx) h.1
  exact ⟨p, n, x, hx, h, hn⟩
 ·rintro ⟨p, n, x, hx, h, _⟩
  exact ⟨x, hx, h⟩
theorem whole_says (l : List Fr) (item v : V) (f : List Cl) : Cov.Subs (whole l item v) f ↔ ∀ p n, has f p n → Says l item v p n := by
 constructor
 ·exact fun h p n hn => (whole_has ..).1 (h p n hn)
 ·exact fun h p n hn => (whole_has ..).2 (h p n hn)
theorem whole_same {l m : List Fr} (hl : ∀ x ∈ l, Sane x.f) (hm : ∀ x ∈ m, Sane x.f) {item v : V} (h : ∀ p n, Says l item v p n ↔ Says m item v p n) (f : List Cl) : ByWhole l item v f ↔ ByWhole m item v f := by
 unfold ByWhole
 rw [fits_says hl, fits_says hm, whole_says, whole_says]
 simp only [h]
def Incl (y x : Fr) : Prop := Cov.Subs y.f x.f ∧ Vec.Covers y.v x.v ∧ ∀ e ∈ y.no, e ∈ x.no
instance (y x : Fr) : Decidable (Incl y x) := inferInstanceAs (Decidable (_ ∧ _))
def Keyed (v : List Int) (no : List V) (z : Fr) : Prop := Vec.clean z.v = v ∧ Ver.sort z.no = no
def Cand (l : List Fr) (x : Fr) : Prop := Flt.norm x.f = x.f ∧ Vec.Plain x.v ∧ Ver.sort x.no = x.no ∧ x.f ≠ [] ∧ (∃ y, Vec.Has x.v y) ∧ ∀ p n, has x.f p n ↔ ∃ z ∈ l, Keyed x.v x.no z ∧ has z.f p n
def Kept (l : List Fr) (x : Fr) : Prop := Cand l x ∧ ∀ y, Cand l y → Incl y x → y = x
def KeptI (l : List It) (i : It) : Prop := Vec.Plain i.v ∧ (∃ y, Vec.Has i.v y) ∧ ∀ y, Vec.Has i.v y ↔ ByItem l i.item y
theorem cand_one {l : List Fr} {x y : Fr} (hx : Cand l x) (hy : Cand l y) (hv : x.v = y.v) (hn : x.no = y.no) : x = y := by
 have h : Flt.Alike x.f y.f := alike_of (fun p n => by
  rw [hx.2.2.2.2.2 p n, hy.2.2.2.2.2 p n, hv, hn])
 have : x.f = y.f := by rw [← hx.1, ← hy.1]; exact Flt.norm_same h
 cases x; cases y; simp_all
theorem incl_refl (x : Fr) : Incl x x := ⟨Cov.subs_refl _, Vec.covers_refl _, fun _ h => h⟩
theorem incl_trans {x y z : Fr} (h : Incl x y) (k : Incl y z) : Incl x z := ⟨Cov.subs_trans h.1 k.1, Vec.covers_trans h.2.1 k.2.1, fun e he => k.2.2 e (h.2.2 e he)⟩
theorem incl_anti {l : List Fr} {x y : Fr} (hx : Cand l x) (hy : Cand l y) (h : Incl x y) (k : Incl y x) : x = y := by
 refine cand_one hx hy ?_ ?_
 ·have := (Vec.covers_anti x.v y.v).1 ⟨h.2.1, k.2.1⟩
  rwa [Vec.plain_clean hx.2.1, Vec.plain_clean hy.2.1] at this
 ·rw [← hx.2.2.1, ← hy.2.2.1]
  exact Iset.sort_same (fun e => ⟨h.2.2 e, k.2.2 e⟩)
theorem top_of {α : Type} (R : α → α → Prop) (hr : ∀ x, R x x) (ht : ∀ x y z, R x y → R y z → R x z) : ∀ (l : List α) (P : α → Prop), (∀ x, P x → x ∈ l) → (∀ x y, P x → P y → R x y → R y x → x = y) → ∀ x, P x → ∃ y, P y ∧ R y x ∧ ∀ z, P z → R z y → z = y
 | [], P, hl, _, x, hx => by cases hl x hx
 | a :: l, P, hl, ha, x, hx => by
  by_cases h : ∃ y, P y ∧ R y x ∧ y ≠ x
  ·obtain ⟨y, hy, hyx, hne⟩ := h
   by_cases hax : a = x
   ·-- those above x, without x
    obtain ⟨t, ht1, ht2, ht3⟩ := top_of R hr ht l (fun z => P z ∧ R z x ∧ z ≠ x) (fun z hz => (List.mem_cons.1 (hl z hz.1)).resolve_left (fun e => hz.2.2 (e.trans hax))) (fun u w hu hw => ha u w hu.1 hw.1) y ⟨hy, hyx, hne⟩
    refine ⟨t, ht1.1, ht1.2.1, fun z hz hzt => ?_⟩
    have hzx : R z x := ht z t x hzt ht1.2.1
    by_cases e : z = x
    ·rw [e] at hzt
     exact absurd (ha t x ht1.1 hx ht1.2.1 hzt) ht1.2.2
    ·exact ht3 z ⟨hz, hzx, e⟩ hzt
   ·by_cases hay : P a ∧ R a x
    ·by_cases htop : ∃ z, P z ∧ R z a ∧ z ≠ a
     ·obtain ⟨z, hz, hza, hzne⟩ := htop
      obtain ⟨t, ht1, ht2, ht3⟩ := top_of R hr ht l (fun u => P u ∧ R u a ∧ u ≠ a) (fun u hu => (List.mem_cons.1 (hl u hu.1)).resolve_left hu.2.2) (fun u w hu hw => ha u w hu.1 hw.1) z ⟨hz, hza, hzne⟩
      refine ⟨t, ht1.1, ht t a x ht1.2.1 hay.2, fun u hu hut => ?_⟩
      by_cases e : u = a
      ·rw [e] at hut
       exact absurd (ha t a ht1.1 hay.1 ht1.2.1 hut) ht1.2.2
      ·exact ht3 u ⟨hu, ht u t a hut ht1.2.1, e⟩ hut
     ·exact ⟨a, hay.1, hay.2, fun z hz hza => Classical.byContradiction (fun e => htop ⟨z, hz, hza, e⟩)⟩
    ·obtain ⟨t, ht1, ht2, ht3⟩ := top_of R hr ht l (fun u => P u ∧ R u x) (fun u hu => (List.mem_cons.1 (hl u hu.1)).resolve_left (fun e => hay (by rw [← e]; exact hu))) (fun u w hu hw => ha u w hu.1 hw.1) x ⟨hx, hr x⟩
     exact ⟨t, ht1.1, ht1.2, fun u hu hut => ht3 u ⟨hu, ht u t x hut ht1.2⟩ hut⟩
  ·exact ⟨x, hx, hr x, fun z hz hzx => Classical.byContradiction (fun e => h ⟨z, hz, hzx, e⟩)⟩
theorem norm_has {f : List Cl} (p : Tx) (n : Int) : has (Flt.norm f) p n ↔ has f p n := alike_has (Flt.norm_alike f) p n
theorem norm_some {f : List Cl} (h : Flt.norm f ≠ []) : ∃ p n, has f p n := by
 cases hf : Flt.norm f with
 | nil => exact absurd hf h
 | cons c l =>
  have hc : c ∈ Flt.norm f := by rw [hf]; exact List.mem_cons_self ..
  have hb := Cov.two_within (Flt.norm_mem.1 hc)
  have hb : 0 ≤ c.lo ∧ c.lo ≤ c.hi ∧ c.hi ≤ 200 := hb
  refine ⟨c.pre, c.lo, (norm_has _ _).1 ?_⟩
  exact (Flt.sizes_holds _ _ _).2 ⟨⟨by omega, by omega⟩, c, hc, Pth.covers_refl _, by omega, by omega⟩
def gather (l : List Fr) (v : List Int) (no : List V) : List Cl := (l.filter fun z => decide (Vec.clean z.v = v ∧ Ver.sort z.no = no)).flatMap (·.f)
theorem gather_has (l : List Fr) (v : List Int) (no : List V) (p : Tx) (n : Int) : has (gather l v no) p n ↔ ∃ z ∈ l, Keyed v no z ∧ has z.f p n := by
 unfold gather Keyed
 rw [flat_has]
 constructor
 ·rintro ⟨x, hx, h⟩
  obtain ⟨h1, h2⟩ := List.mem_filter.1 hx
  exact ⟨x, h1, by simpa using h2, h⟩
 ·rintro ⟨x, hx, h1, h⟩
  exact ⟨x, List.mem_filter.2 ⟨hx, by simpa using h1⟩, h⟩
theorem gather_sane {l : List Fr} (h : ∀ x ∈ l, Sane x.f) (v : List Int) (no : List V) : Sane (gather l v no) := by
 intro c hc
 obtain ⟨x, hx, hcx⟩ := List.mem_flatMap.1 hc
 exact h x (List.mem_filter.1 hx).1 c hcx
def mk (l : List Fr) (z : Fr) : Fr := ⟨Flt.norm (gather l (Vec.clean z.v) (Ver.sort z.no)), Vec.clean z.v, Ver.sort z.no⟩
theorem cand_f {l : List Fr} {x : Fr} (h : Cand l x) : x.f = Flt.norm (gather l x.v x.no) := by
 rw [← h.1]
 exact Flt.norm_same (alike_of (fun p n => by rw [h.2.2.2.2.2 p n, gather_has]))
theorem cand_mk {l : List Fr} {x : Fr} (h : Cand l x) : ∃ z ∈ l, x = mk l z := by
 obtain ⟨p, n, hn⟩ := norm_some (by rw [h.1]; exact h.2.2.2.1)
 obtain ⟨z, hz, hk, _⟩ := (h.2.2.2.2.2 p n).1 hn
 refine ⟨z, hz, ?_⟩
 have hf := cand_f h
 unfold mk
 rw [hk.1, hk.2, ← hf]
theorem sort_sort (l : List V) : Ver.sort (Ver.sort l) = Ver.sort l := Iset.sort_same (fun x => by rw [Ver.sort_mem])
theorem mk_cand {l : List Fr} {z : Fr} (hz : z ∈ l) {y : V} (hy : Vec.Has z.v y) {p : Tx} {n : Int} (hn : has z.f p n) : Cand l (mk l z) := by
 have hall : ∀ p n, has (mk l z).f p n ↔ ∃ x ∈ l, Keyed (Vec.clean z.v) (Ver.sort z.no) x ∧ has x.f p n := fun p n => by
  show has (Flt.norm (gather l _ _)) p n ↔ _
  rw [norm_has, gather_has]
 refine ⟨Flt.norm_norm _, Vec.clean_plain _, sort_sort _, ?_, ⟨y, (Vec.has_clean _ _).2 hy⟩, hall⟩
 exact has_some ((hall p n).2 ⟨z, hz, ⟨rfl, rfl⟩, hn⟩)
theorem kept_top {l : List Fr} {x : Fr} (h : Cand l x) : ∃ y, Kept l y ∧ Incl y x := by
 obtain ⟨y, hy, hyx, ht⟩ := top_of Incl incl_refl (fun _ _ _ => incl_trans) (l.map (mk l)) (Cand l) (fun u hu => by
  obtain ⟨z, hz, e⟩ := cand_mk hu
  rw [e]
  exact List.mem_map.2 ⟨z, hz, rfl⟩) (fun u w hu hw => incl_anti hu hw) x h
 exact ⟨y, ⟨hy, fun z hz hzy => ht z hz hzy⟩, hyx⟩
theorem kept_sane {l : List Fr} (hl : ∀ x ∈ l, Sane x.f) {x : Fr} (h : Cand l x) : Sane x.f := by
 rw [cand_f h]
 exact Flt.norm_right (gather_sane hl _ _)
theorem says_kept {l c : List Fr} (hc : ∀ x, x ∈ c ↔ Kept l x) (item v : V) (p : Tx) (n : Int) : Says c item v p n ↔ Says l item v p n := by
 constructor
 ·rintro ⟨x, hx, hf, hn⟩
  have hk := ((hc x).1 hx).1
  obtain ⟨z, hz, hkz, hzn⟩ := (hk.2.2.2.2.2 p n).1 hn
  refine ⟨z, hz, ⟨has_some hzn, ?_, fun hm => hf.2.2 ?_⟩, hzn⟩
  ·rw [← Vec.has_clean, hkz.1]; exact hf.2.1
  ·rw [← hkz.2, Ver.sort_mem]; exact hm
 ·rintro ⟨z, hz, hf, hn⟩
  obtain ⟨t, ht, hi⟩ := kept_top (mk_cand hz hf.2.1 hn)
  refine ⟨t, (hc t).2 ht, ⟨ht.1.2.2.2.1, (Vec.covers_has _ _).1 hi.2.1 v ((Vec.has_clean _ _).2 hf.2.1), fun hm => hf.2.2 ?_⟩, ?_⟩
  ·have := hi.2.2 item hm
   exact (Ver.sort_mem _ _).1 this
  ·refine hi.1 p n ?_
   show has (Flt.norm (gather l _ _)) p n
   rw [norm_has, gather_has]
   exact ⟨z, hz, ⟨rfl, rfl⟩, hn⟩
theorem byItem_kept {l c : List It} (hc : ∀ x, x ∈ c ↔ KeptI l x) (hk : ∀ item, (∃ y, ByItem l item y) → ∃ w, Vec.Plain w ∧ ∀ y, Vec.Has w y ↔ ByItem l item y) (item v : V) : ByItem c item v ↔ ByItem l item v := by
 constructor
 ·rintro ⟨i, hi, rfl, h⟩
  exact (((hc i).1 hi).2.2 v).1 h
 ·intro h
  obtain ⟨w, hw, hy⟩ := hk item ⟨v, h⟩
  exact ⟨⟨item, w⟩, (hc _).2 ⟨hw, ⟨v, (hy v).2 h⟩, hy⟩, rfl, (hy v).2 h⟩
theorem joined (l : List It) (item : V) : ∃ w, Vec.Plain w ∧ ∀ y, Vec.Has w y ↔ ByItem l item y := by
 induction l with
 | nil =>
  refine ⟨_, Vec.zero_plain, fun y => ⟨fun h => ?_, fun ⟨i, hi, _⟩ => by cases hi⟩⟩
  rw [Vec.has_at] at h
  have h1 := h.1.2.2
  have h2 := h.2
  have hz : Vec.at_ (List.replicate 65 0) y.by_.toNat = 0 := by
   unfold Vec.at_
   rw [List.getElem?_replicate]
   split
   ·split <;> rfl
   ·rfl
  omega
 | cons i l ih =>
  obtain ⟨w, hw, hy⟩ := ih
  by_cases e : i.item = item
  ·refine ⟨Vec.join i.v w, Vec.join_plain _ _, fun y => ?_⟩
   rw [Vec.has_join, hy]
   constructor
   ·rintro (h | ⟨j, hj, h⟩)
    ·exact ⟨i, List.mem_cons_self .., e, h⟩
    ·exact ⟨j, List.mem_cons_of_mem _ hj, h⟩
   ·rintro ⟨j, hj, h1, h⟩
    rcases List.mem_cons.1 hj with rfl | hj
    ·exact Or.inl h
    ·exact Or.inr ⟨j, hj, h1, h⟩
  ·refine ⟨w, hw, fun y => ?_⟩
   rw [hy]
   constructor
   ·rintro ⟨j, hj, h⟩
    exact ⟨j, List.mem_cons_of_mem _ hj, h⟩
   ·rintro ⟨j, hj, h1, h⟩
    rcases List.mem_cons.1 hj with rfl | hj
    ·exact absurd h1 e
    ·exact ⟨j, hj, h1, h⟩
def vlt : List Int → List Int → Prop
 | [], _ => False
 | _ :: _, [] => False
 | a :: l, b :: m => b < a ∨ (a = b ∧ vlt l m)
def nlt : List V → List V → Prop
 | _, [] => False
 | [], _ :: _ => True
 | a :: l, b :: m => Ver.Before a b ∨ (a = b ∧ nlt l m)
theorem vlt_asymm : ∀ {a b : List Int}, vlt a b → ¬ vlt b a
 | [], _, h, _ => h
 | _ :: _, [], h, _ => h
 | a :: l, b :: m, h, k => by
  have h : b < a ∨ (a = b ∧ vlt l m) := h
  have k : a < b ∨ (b = a ∧ vlt m l) := k
  rcases h with h | ⟨h, h'⟩ <;> rcases k with k | ⟨k, k'⟩
  ·omega
  ·omega
  ·omega
  ·exact vlt_asymm h' k'
theorem vlt_irrefl (a : List Int) : ¬ vlt a a := fun h => vlt_asymm h h
theorem nlt_asymm : ∀ {a b : List V}, nlt a b → ¬ nlt b a
 | [], [], h, _ => h
 | _ :: _, [], h, _ => h
 | [], _ :: _, _, k => k
 | a :: l, b :: m, h, k => by
  have h : Ver.Before a b ∨ (a = b ∧ nlt l m) := h
  have k : Ver.Before b a ∨ (b = a ∧ nlt m l) := k
  rcases h with h | ⟨h, h'⟩ <;> rcases k with k | ⟨k, k'⟩
  ·exact Ver.before_asymm h k
  ·rw [k] at h; exact Ver.before_irrefl _ h
  ·rw [h] at k; exact Ver.before_irrefl _ k
  ·exact nlt_asymm h' k'
def FLt (x y : Fr) : Prop := vlt x.v y.v ∨ (x.v = y.v ∧ nlt x.no y.no)
def ILt (x y : It) : Prop := Ver.Before x.item y.item
theorem flt_asymm {x y : Fr} (h : FLt x y) : ¬ FLt y x := by
 rintro (k | ⟨k, k'⟩) <;> rcases h with h | ⟨h, h'⟩
 ·exact vlt_asymm h k
 ·rw [h] at k; exact vlt_irrefl _ k
 ·rw [k] at h; exact vlt_irrefl _ h
 ·exact nlt_asymm h' k'
structure Canon (k c : K) : Prop where
 frags : ∀ x, x ∈ c.frags ↔ Kept k.frags x
 items : ∀ i, i ∈ c.items ↔ KeptI k.items i
 upF : c.frags.Pairwise FLt
 upI : c.items.Pairwise ILt
theorem canon_contains {k c : K} (hk : SaneK k) (h : Canon k c) (item v : V) (f : List Cl) : Contains c item v f ↔ Contains k item v f := by
 unfold Contains
 rw [byItem_kept h.items (fun item _ => joined k.items item)]
 refine or_congr Iff.rfl (whole_same (fun x hx => kept_sane hk ((h.frags x).1 hx).1) hk (says_kept h.frags item v) f)
theorem canon_sane {k c : K} (hk : SaneK k) (h : Canon k c) : SaneK c := fun x hx => kept_sane hk ((h.frags x).1 hx).1
def union (a b : K) : K := ⟨a.frags ++ b.frags, a.items ++ b.items⟩
def except (k : K) (item : V) : K := ⟨k.frags.map fun x => ⟨x.f, x.v, Iset.put x.no item⟩, k.items.filter fun i => decide (i.item ≠ item)⟩
theorem except_sane {k : K} (h : SaneK k) (item : V) : SaneK (except k item) := by
 intro x hx
 obtain ⟨y, hy, rfl⟩ := List.mem_map.1 hx
 exact h y hy
theorem except_none (k : K) (item v : V) (f : List Cl) : ¬ Contains (except k item) item v f := by
 rintro (⟨i, hi, e, _⟩ | ⟨⟨x, hx, h⟩, _⟩)
 ·have := (List.mem_filter.1 hi).2
  simp [e] at this
 ·obtain ⟨y, hy, rfl⟩ := List.mem_map.1 hx
  exact h.2.2 (Iset.put_mem.2 (Or.inl rfl))
theorem except_other {k : K} (hk : SaneK k) {item a : V} (h : a ≠ item) (v : V) (f : List Cl) : Contains (except k item) a v f ↔ Contains k a v f := by
 unfold Contains
 have hi : ByItem (except k item).items a v ↔ ByItem k.items a v := by
  constructor
  ·rintro ⟨i, hi, h1, h2⟩
   exact ⟨i, (List.mem_filter.1 hi).1, h1, h2⟩
  ·rintro ⟨i, hi, h1, h2⟩
   refine ⟨i, List.mem_filter.2 ⟨hi, ?_⟩, h1, h2⟩
   simp only [decide_eq_true_eq]
   rw [h1]; exact h
 refine or_congr hi (whole_same (except_sane hk item) hk (fun p n => ?_) f)
 have hfit : ∀ x : Fr, Fits ⟨x.f, x.v, Iset.put x.no item⟩ a v ↔ Fits x a v := by
  intro x
  unfold Fits
  refine and_congr_right (fun _ => and_congr_right (fun _ => not_congr ?_))
  show a ∈ Iset.put x.no item ↔ a ∈ x.no
  rw [Iset.put_mem]
  exact ⟨fun k => k.resolve_left h, Or.inr⟩
 constructor
 ·rintro ⟨x, hx, h1, h2⟩
  obtain ⟨y, hy, rfl⟩ := List.mem_map.1 hx
  exact ⟨y, hy, (hfit y).1 h1, h2⟩
 ·rintro ⟨y, hy, h1, h2⟩
  exact ⟨_, List.mem_map.2 ⟨y, hy, rfl⟩, (hfit y).2 h1, h2⟩
theorem has_end {w : List Int} {x : V} (h : Vec.Has w x) : ∃ y ∈ Vec.ends w, y.by_ = x.by_ ∧ x.n ≤ y.n := by
 rw [Vec.has_at] at h
 have hr := h.1
 unfold Ver.Right at hr
 have hn := h.2
 refine ⟨⟨((x.by_.toNat : Nat) : Int), Vec.at_ w x.by_.toNat⟩, (Vec.ends_mem _ _).2 ⟨x.by_.toNat, by omega, by omega, rfl⟩, by simp; omega, hn⟩
def Spare (l : List Fr) (f : List Cl) (i : It) : Prop := ∀ y ∈ Vec.ends i.v, ByWhole l i.item y f
end Go.Proofs.YtkcgmnhjofoeiaaGreat.Know
