import Derived.Test.YtpmolinmopgbdaaGreatCom4
import Derived.Test.YtpmolinmopgbdaaGreatCom3
import Derived.Test.YtpmolinmopgbdaaGreatCom1
import Derived.Sort.Grow
import Derived.Deep.Quiet
import Derived.Deep.QuietTactic
import Derived.Deep.WholeRow
import Derived.Deep.MidRow
set_option maxRecDepth 100000
set_option linter.unusedVariables false
set_option linter.unusedSimpArgs false
namespace Go.Proofs.YtpmolinmopgbdaaGreat.Vec
open Ver (V Right)
def part (f : Nat → Int) (v : List Int) (k : Nat) : List Int := (make f).take k ++ v.drop k
theorem part_zero (f : Nat → Int) (v : List Int) : part f v 0 = v := by unfold part; rw [List.take_zero, List.drop_zero]; rfl
theorem part_all (f : Nat → Int) {v : List Int} (h : v.length = 65) : part f v 65 = make f := by
 unfold part
 rw [List.take_of_length_le (by rw [make_len]; omega), List.drop_of_length_le (by omega), List.append_nil]
theorem part_len (f : Nat → Int) {v : List Int} (h : v.length = 65) {k : Nat} (hk : k ≤ 65) : (part f v k).length = 65 := by
 unfold part
 rw [List.length_append, List.length_take, List.length_drop, make_len, h]
 omega
theorem part_lt (f : Nat → Int) (v : List Int) {k i : Nat} (hk : k ≤ 65) (hi : i < k) : (part f v k)[i]? = some (f i) := by
 unfold part
 rw [List.getElem?_append_left (by rw [List.length_take, make_len]; omega), List.getElem?_take, if_pos hi, make_at f i (by omega)]
theorem part_ge (f : Nat → Int) (v : List Int) {k i : Nat} (hk : k ≤ 65) (hi : k ≤ i) : (part f v k)[i]? = v[i]? := by
 unfold part
 rw [List.getElem?_append_right (by rw [List.length_take, make_len]; omega), List.length_take, make_len, List.getElem?_drop]
 congr 1
 omega
theorem part_set (f : Nat → Int) {v : List Int} (h : v.length = 65) {k : Nat} (hk : k < 65) : (part f v k).set k (f k) = part f v (k + 1) := by
 apply List.ext_getElem?
 intro i
 by_cases hi : i = k
 ·subst hi
  rw [List.getElem?_set_self (by rw [part_len f h (by omega)]; omega), part_lt f v (by omega) (by omega)]
 ·rw [List.getElem?_set_ne (fun e => hi e.symm)]
  by_cases h2 : i < k
  ·rw [part_lt f v (by omega) h2, part_lt f v (by omega) (by omega)]
  ·rw [part_ge f v (by omega) (by omega), part_ge f v (by omega) (by omega)]
theorem make_ext {f g : Nat → Int} (h : ∀ i, i < 65 → f i = g i) : make f = make g := by
 unfold make
 exact List.map_congr_left (fun i hi => h i (List.mem_range.1 hi))
theorem clean_set (v : List Int) : (make (fun i => max ((v[i]?).getD 0) 0)).set 0 0 = clean v := by
 apply List.ext_getElem?
 intro i
 by_cases h65 : i < 65
 ·rw [show clean v = make (at_ v) from rfl, make_at _ i h65]
  by_cases hi : i = 0
  ·subst hi
   rw [List.getElem?_set_self (by rw [make_len]; omega), at_zero v 0 (by omega)]
  ·rw [List.getElem?_set_ne (fun e => hi e.symm), make_at _ i h65]
   unfold at_
   rw [if_pos (by omega)]
 ·rw [List.getElem?_eq_none (by rw [List.length_set, make_len]; omega), List.getElem?_eq_none (by rw [(clean_plain v).1]; omega)]
theorem clean_get (v : List Int) {i : Nat} (h : i < 65) : (clean v)[i]? = some (at_ v i) := make_at _ i h
theorem clean_len (v : List Int) : (clean v).length = 65 := make_len _
theorem up_max {v : List Int} (h : Plain v) {x : V} (hx : Right x) {n : Int} (hn : v[x.by_.toNat]? = some n) : v.set x.by_.toNat (max n x.n) = up v x := by
 have hr := hx
 unfold Right at hr
 have e : n = at_ v x.by_.toNat := by
  have := h.2 x.by_.toNat (by omega)
  rw [hn] at this
  injection this
 by_cases hl : at_ v x.by_.toNat < x.n
 ·rw [up_yes ⟨hx, hl⟩, show max n x.n = x.n by omega]
 ·rw [up_no (fun k => hl k.2), show max n x.n = n by omega]
  apply List.ext_getElem?
  intro i
  by_cases hi : i = x.by_.toNat
  ·subst hi
   rw [List.getElem?_set_self (by rw [h.1]; omega), hn]
  ·rw [List.getElem?_set_ne (fun e => hi e.symm)]
theorem covers_join (a b : List Int) : join a b = clean a ↔ Covers a b := by
 constructor
 ·intro h i hi
  have e : at_ (join a b) i = at_ (clean a) i := by rw [h]
  rw [at_join, at_clean] at e
  omega
 ·intro h
  refine plain_ext (join_plain a b) (clean_plain a) (fun i => ?_)
  rw [at_join, at_clean]
  by_cases hi : i < 65
  ·have := h i hi
   omega
  ·rw [at_far a i hi, at_far b i hi]; rfl
def endsK (v : List Int) (k : Nat) : List V := ((List.range k).filter fun i => decide (0 < at_ v i)).map fun (i : Nat) => ⟨(i : Int), at_ v i⟩
theorem endsK_zero (v : List Int) : endsK v 0 = [] := rfl
theorem endsK_all (v : List Int) : endsK v 65 = ends v := rfl
theorem endsK_more (v : List Int) (k : Nat) (h : 0 < at_ v k) : endsK v (k + 1) = endsK v k ++ [⟨(k : Int), at_ v k⟩] := by
 unfold endsK
 rw [List.range_succ, List.filter_append, List.map_append]
 congr 1
 simp [h]
theorem endsK_same (v : List Int) (k : Nat) (h : ¬ 0 < at_ v k) : endsK v (k + 1) = endsK v k := by
 unfold endsK
 rw [List.range_succ, List.filter_append, List.map_append]
 simp [h]
theorem endsK_one (v : List Int) : endsK v 1 = [] := by
 rw [endsK_same v 0 (by rw [at_zero v 0 (by omega)]; omega), endsK_zero]
theorem endsK_len (v : List Int) (k : Nat) : (endsK v k).length ≤ k := by
 unfold endsK
 rw [List.length_map]
 exact Nat.le_trans (List.length_filter_le ..) (by rw [List.length_range]; exact Nat.le_refl _)
theorem num_nat (v : List Int) {k : Nat} (hk : k < 65) : num v (k : Int) = at_ v k := by
 unfold num
 by_cases h : 1 ≤ (k : Int) ∧ (k : Int) ≤ 64
 ·rw [if_pos h, Int.toNat_natCast]
 ·rw [if_neg h, at_zero v k (by omega)]
instance (v : List Int) : Decidable (Plain v) := inferInstanceAs (Decidable (_ ∧ _))
theorem at_le {v : List Int} (h : ∀ n ∈ v, n ≤ 9223372036854775807) (i : Nat) : at_ v i ≤ 9223372036854775807 := by
 unfold at_
 split
 ·cases hn : v[i]? with
  | none => show max (0 : Int) 0 ≤ _; omega
  | some n =>
   have := h n (List.mem_of_getElem? hn)
   show max n 0 ≤ _
   omega
 ·omega
end Go.Proofs.YtpmolinmopgbdaaGreat.Vec
namespace Go.Proofs.YtpmolinmopgbdaaGreat
open Go.RowKit
def verV (v : Ver.V) : List Value := [.int .i64 v.by_, .int .i64 v.n]
def stpV (s : Ver.S) : List Value := [.int .i64 s.v.by_, .int .i64 s.v.n, .int .i64 s.time]
def numV (n : Int) : List Value := [.int .i64 n]
abbrev verA (v : Ver.V) : Value := .agg #[.int .i64 v.by_, .int .i64 v.n]
abbrev Vrs (w : World) (F : Nat → Prop) (v : Value) (l : List Ver.V) : Prop := Rws 2 verV w F v l
abbrev Sts (w : World) (F : Nat → Prop) (v : Value) (l : List Ver.S) : Prop := Rws 3 stpV w F v l
abbrev Nums (w : World) (F : Nat → Prop) (v : Value) (l : List Int) : Prop := Rws 1 numV w F v l
def Ver.I64 (n : Int) : Prop := -9223372036854775808 ≤ n ∧ n ≤ 9223372036854775807
def Ver.Bd (v : Ver.V) : Prop := Ver.I64 v.by_ ∧ Ver.I64 v.n
def Ver.BdS (s : Ver.S) : Prop := Ver.Bd s.v ∧ Ver.I64 s.time
instance (n : Int) : Decidable (Ver.I64 n) := inferInstanceAs (Decidable (_ ∧ _))
instance (v : Ver.V) : Decidable (Ver.Bd v) := inferInstanceAs (Decidable (_ ∧ _))
instance (s : Ver.S) : Decidable (Ver.BdS s) := inferInstanceAs (Decidable (_ ∧ _))
def Ver.checkV (v : Ver.V) : Int := if Ver.Right v then 0 else 2
def Ver.zero : Ver.S := ⟨0, 0, 0⟩
theorem ver_len (v : Ver.V) : (verV v).length = 2 := rfl
theorem ver_one (v : Ver.V) : ∀ u ∈ verV v, u.oneCell' = true := by
 intro u hu
 unfold verV at hu
 simp only [List.mem_cons, List.not_mem_nil, or_false] at hu
 rcases hu with rfl | rfl <;> rfl
def Laid (w w' : World) : Prop := ∃ q os, w' = Sort.grow (w.drewN q) os
theorem Laid.refl (w : World) : Laid w w := ⟨0, #[], by rw [Sort.grow_empty]; rfl⟩
theorem Laid.new (w : World) (o : Obj) : Laid w (w.alloc o) := ⟨0, #[o], by rw [Sort.alloc_eq_grow]; rfl⟩
theorem Laid.trans {a b c : World} (h : Laid a b) (k : Laid b c) : Laid a c := by
 obtain ⟨q, os, rfl⟩ := h
 obtain ⟨q2, os2, rfl⟩ := k
 refine ⟨q + q2, os ++ os2, ?_⟩
 show Sort.grow (Sort.grow ((a.drewN q).drewN q2) os) os2 = _
 rw [Sort.grow_grow, World.drewN_drewN]
theorem Laid.below {w w' : World} (h : Laid w w') : Below w.heap.size w w' := by
 obtain ⟨q, os, rfl⟩ := h
 exact ⟨rfl, rfl, rfl, by rw [Sort.size_grow]; exact Nat.le_add_right _ _, fun i hi => Sort.heap_grow_old (w.drewN q) os hi⟩
structure VersOk : Prop where
 check : ∀ {w : World} (v : Ver.V), Ver.Bd v → Calls Tryz.prog 72 #[verA v] w fun e w' => e = .returned (.int .i64 (Ver.checkV v)) ∧ Laid w w'
 before : ∀ {w : World} (a b : Ver.V), Calls Tryz.prog 148 #[verA a, verA b] w fun e w' => e = .returned (.bool (decide (Ver.Before a b))) ∧ Laid w w'
 sort : ∀ {w : World} {F : Nat → Prop} {v : Value} {l : List Ver.V}, Vrs w F v l → l.length ≤ 1000000 → Calls Tryz.prog 108 #[v] w fun e w' => ∃ v', e = .returned v' ∧ Vrs w' (NewIn w w') v' (Ver.sort l) ∧ Below w.heap.size w w'
section
variable {w : World} {F : Nat → Prop} {b o n cap : Nat}
theorem Vrs.at {l : List Ver.V} (h : Vrs w F (.slice (some ⟨b, o, none⟩) n cap) l) {i : Nat} {x : Ver.V} (hx : l[i]? = some x) :
  w.cell? ⟨b, o + i * 2, none⟩ = some (.int .i64 x.by_) ∧ w.cell? ⟨b, o + i * 2 + 1, none⟩ = some (.int .i64 x.n) := by
 obtain ⟨A, c, e, -, hat⟩ := h
 injection e with e1 e2 e3
 obtain ⟨b', o', e, -, -, hc⟩ := hat (by obtain ⟨hl, _⟩ := List.getElem?_eq_some_iff.1 hx; omega)
 rw [e] at e1
 injection e1 with e1
 injection e1 with e1 e2
 subst e1 e2
 exact ⟨hc i x hx 0 _ rfl, hc i x hx 1 _ rfl⟩
theorem Sts.at {l : List Ver.S} (h : Sts w F (.slice (some ⟨b, o, none⟩) n cap) l) {i : Nat} {x : Ver.S} (hx : l[i]? = some x) :
  w.cell? ⟨b, o + i * 3, none⟩ = some (.int .i64 x.v.by_) ∧ w.cell? ⟨b, o + i * 3 + 1, none⟩ = some (.int .i64 x.v.n) ∧ w.cell? ⟨b, o + i * 3 + 2, none⟩ = some (.int .i64 x.time) := by
 obtain ⟨A, c, e, -, hat⟩ := h
 injection e with e1 e2 e3
 obtain ⟨b', o', e, -, -, hc⟩ := hat (by obtain ⟨hl, _⟩ := List.getElem?_eq_some_iff.1 hx; omega)
 rw [e] at e1
 injection e1 with e1
 injection e1 with e1 e2
 subst e1 e2
 exact ⟨hc i x hx 0 _ rfl, hc i x hx 1 _ rfl, hc i x hx 2 _ rfl⟩
theorem Nums.at {l : List Int} (h : Nums w F (.slice (some ⟨b, o, none⟩) n cap) l) {i : Nat} {x : Int} (hx : l[i]? = some x) : w.cell? ⟨b, o + i, none⟩ = some (.int .i64 x) := by
 obtain ⟨A, c, e, -, hat⟩ := h
 injection e with e1 e2 e3
 obtain ⟨b', o', e, -, -, hc⟩ := hat (by obtain ⟨hl, _⟩ := List.getElem?_eq_some_iff.1 hx; omega)
 rw [e] at e1
 injection e1 with e1
 injection e1 with e1 e2
 subst e1 e2
 have := hc i x hx 0 _ rfl
 rwa [Nat.mul_one, Nat.add_zero] at this
end
end Go.Proofs.YtpmolinmopgbdaaGreat
namespace Go.Proofs.YtpmolinmopgbdaaGreat
open Go.RowKit
def InB (w w' : World) : Prop := Below w.heap.size w w'
theorem InB.refl (w : World) : InB w w := Below.refl _ _
theorem InB.below {w w' : World} (h : InB w w') : Below w.heap.size w w' := h
theorem InB.drew {w w' : World} (h : InB w w') : InB w w'.drew := Below.drew h
theorem InB.trans {a b c : World} (h : InB a b) (k : Below b.heap.size b c) : InB a c := Below.trans h (k.mono h.below.size)
section
variable {P : Program} {ops : Array Oper} {C : World → Prop} {Q : Act → Prop} {o : Oper} {rest : List Oper} {a : Act}
structure WQ (P : Program) (ops : Array Oper) (C : World → Prop) (Q : Act → Prop) (l : List Oper) (a : Act) : Prop where
 out : wpQuiet P ops C Q l a
theorem wp_region_below {id : Nat} {Q : Exit → Act → World → Prop} {a : Act} {w : World} {l : List Oper} (hm : P.follows .mixedOrders = true) (hB : Region.lexB .any l.toArray = true)
  (h : WQ P l.toArray (InB w) (fun a' => ∀ w', InB w w' → Q .normal a' w') l a) : (Code.region id l.toArray true).wp P Q a w :=
 wp_region_quiet (C := InB w) hm hB ⟨rfl, rfl, rfl, Nat.le_refl _, fun _ _ => rfl⟩ (by simpa using h.out)
theorem wq_nil (h : Q a) : WQ P ops C Q [] a := ⟨wpQuiet_nil h⟩
theorem wq_skip (hw : Region.wanted o (yielded ops a.tmps) = false) (k : WQ P ops C Q rest (a.put o.dst undef)) : WQ P ops C Q (o :: rest) a := by
 refine ⟨?_⟩
 unfold wpQuiet
 rw [if_neg (by rw [hw]; decide)]
 exact k.out
theorem wq_take {v : Value} (hw : Region.wanted o (yielded ops a.tmps) = true) (h : ∀ w, C w → (execOp a.eval o).run P w = .ok (.value v) w) (k : WQ P ops C Q rest (a.put o.dst v)) : WQ P ops C Q (o :: rest) a := by
 refine ⟨?_⟩
 unfold wpQuiet
 rw [if_pos hw]
 refine ⟨v, fun w hC => ?_, k.out⟩
 unfold Oper.quietAt
 rw [h w hC]
 exact ⟨rfl, rfl⟩
theorem wq_td {v : Value} (k : WQ P ops C Q rest (a.put o.dst v)) (hw : Region.wanted o (yielded ops a.tmps) = true := by kernel_rfl) (h : ∀ w, C w → (execOp a.eval o).run P w = .ok (.value v) w := by intro w hSw; go_simp; first | done | with_reducible rfl) : WQ P ops C Q (o :: rest) a := wq_take hw h k
theorem wq_call {v : Value} {f : FuncId} {args : Array Value} (hw : Region.wanted o (yielded ops a.tmps) = true) (h : ∀ w, C w → (execOp a.eval o).run P w = .ok (.enter f args) w) (hc : ∀ w, C w → Calls P f args w fun e w' => e = .returned v ∧ C w') (k : WQ P ops C Q rest (a.put o.dst v)) : WQ P ops C Q (o :: rest) a := by
 refine ⟨?_⟩
 unfold wpQuiet
 rw [if_pos hw]
 refine ⟨v, fun w hC => ?_, k.out⟩
 unfold Oper.quietAt
 rw [h w hC]
 exact ⟨rfl, hc w hC⟩
end
theorem inB_calls {P : Program} {f : FuncId} {args : Array Value} {W w : World} {v : Value} (hC : InB W w) (h : Calls P f args w fun e w' => e = .returned v ∧ Below w.heap.size w w') : Calls P f args w fun e w' => e = .returned v ∧ InB W w' :=
 h.mono fun _ _ ⟨he, hb⟩ => ⟨he, hC.trans hb⟩
end Go.Proofs.YtpmolinmopgbdaaGreat
namespace Go.Proofs.YtpmolinmopgbdaaGreat
open Go.RowKit
def vecL (v : List Int) : List Value := v.map (Value.int .i64)
def vecR (v : List Int) : Array Value := (vecL v).toArray
abbrev vecA (v : List Int) : Value := .agg (vecR v)
def Vec.zeros : List Int := List.replicate 65 0
theorem Vec.zeros_len : Vec.zeros.length = 65 := List.length_replicate
theorem Vec.zeros_plain : Vec.Plain Vec.zeros := Vec.zero_plain
theorem vecL_len (v : List Int) : (vecL v).length = v.length := List.length_map ..
theorem vecR_size {v : List Int} (h : v.length = 65) : (vecR v).size = 65 := by unfold vecR; rw [List.size_toArray, vecL_len, h]
theorem vecR_get {v : List Int} {i : Nat} {n : Int} (h : v[i]? = some n) : (vecR v)[i]? = some (.int .i64 n) := by
 unfold vecR vecL
 rw [List.getElem?_toArray, List.getElem?_map, h]; rfl
theorem vecR_one (v : List Int) : (vecR v).all (·.oneCell') = true := all_oneCell_toArray (fun u hu => by
 obtain ⟨n, _, rfl⟩ := List.mem_map.1 hu
 rfl)
theorem vecR_set (v : List Int) (i : Nat) (n : Int) : (vecR v).setIfInBounds i (.int .i64 n) = vecR (v.set i n) := by
 unfold vecR vecL
 rw [List.setIfInBounds_toArray, List.map_set]
theorem vecInfo : (Tryz.prog.info? 39).map (fun i => (i.zero, i.size)) = some (some (vecA Vec.zeros), 65) := by kernel_rfl
theorem vecZero (w : World) : (zeroValue 39).run Tryz.prog w = .ok (vecA Vec.zeros) w := (zero_of_info vecInfo).1 w
theorem vecSize {v : List Int} (h : v.length = 65) : (Tryz.prog.info? 39).map (·.size) = some (vecR v).size := by rw [vecR_size h]; exact (zero_of_info vecInfo).2
def VRow (w : World) (b : Nat) (v : List Int) : Prop := Row w b 39 (vecR v) ∧ v.length = 65
section
variable {w w' a : World} {b : Nat} {v : List Int}
theorem VRow.row (h : VRow w b v) : Row w b 39 (vecR v) := h.1
theorem VRow.len (h : VRow w b v) : v.length = 65 := h.2
theorem VRow.inHeap (h : VRow w b v) : b < w.heap.size := h.1.inHeap
theorem VRow.at (h : VRow w b v) {i : Nat} {n : Int} (hn : v[i]? = some n) : w.cell? ⟨b, i, none⟩ = some (.int .i64 n) := by rw [h.1.at, vecR_get hn]
theorem VRow.free (h : VRow w b v) (i : Nat) : w.frozen? ⟨b, i, none⟩ = false := h.1.free i
theorem VRow.made (w : World) (hv : v.length = 65) : VRow (w.alloc (.cells (vecR v) 39)) w.heap.size v := ⟨Row.made w _ _, hv⟩
theorem VRow.stored (h : VRow w b v) (i : Nat) (n : Int) : VRow (w.setCell ⟨b, i, none⟩ (.int .i64 n)) b (v.set i n) := ⟨by have := h.1.stored i (.int .i64 n); rwa [vecR_set] at this, by rw [List.length_set]; exact h.2⟩
theorem VRow.below {B : Nat} (h : VRow w b v) (hb : Below B w w') (hB : b < B) : VRow w' b v := ⟨h.1.below hb hB, h.2⟩
theorem VRow.load (h : VRow w b v) : (Instr.loadAt 39 (.pointer (some ⟨b, 0, none⟩))).run Tryz.prog w = .ok (vecA v) w := by
 simp only [Instr.loadAt, Instr.sureAddr, Sem.run_bind, Sem.run_pure, Result.andThen]
 exact run_loadVar_row _ _ _ _ _ (0, 0) _ h.1 Tryz.underlying39 rfl (vecSize h.2)
theorem VRow.set (h : VRow w b v) (u : List Int) (hu : u.length = 65) : VRow (w.setRow b (vecR u)) b u := by
 have h1 : w.heap[b]? = some (Obj.cells (vecR v) 39 (0, 0)) := h.1
 refine ⟨?_, hu⟩
 show (w.heap.modify b _)[b]? = _
 rw [Array.getElem?_modify, if_pos rfl, h1]
 rfl
theorem VRow.store (h : VRow w b v) {u : List Int} (hu : u.length = 65) : (Instr.storeAt 39 (.pointer (some ⟨b, 0, none⟩)) (vecA u)).run Tryz.prog w = .ok () (w.setRow b (vecR u)) := by
 simp only [Instr.storeAt, Instr.sureAddr, Sem.run_bind, Sem.run_pure, Result.andThen]
 exact run_storeVar_row _ _ _ _ _ _ h.1 (vecSize hu) (by rw [vecR_size h.2, vecR_size hu]) (vecR_one u)
theorem wpList_vload {ops : Array Oper} {rest : List Oper} {op : Oper} {a : Act} {Q : Exit → Act → World → Prop} (hw : Region.wanted op (yielded ops a.tmps) = true) (x : Operand) (ho : op.op = .load 39 x) (hx : a.eval x = .pointer (some ⟨b, 0, none⟩)) (h : VRow w b v)
  (k : wpList Tryz.prog ops Q rest (a.put op.dst (vecA v)) w) : wpList Tryz.prog ops Q (op :: rest) a w := by
 unfold wpList
 rw [if_pos hw]
 refine Or.inl ?_
 have hl := h.load
 unfold Oper.wp execOp
 simp only [ho, hx, Sem.run_bind, hl, Result.andThen_ok]
 exact k
theorem wpList_vstore {ops : Array Oper} {rest : List Oper} {op : Oper} {a : Act} {Q : Exit → Act → World → Prop} (hw : Region.wanted op (yielded ops a.tmps) = true) (x y : Operand) (ho : op.op = .store 39 x y) {u : List Int} (hx : a.eval x = .pointer (some ⟨b, 0, none⟩)) (hy : a.eval y = vecA u) (h : VRow w b v) (hu : u.length = 65)
  (k : wpList Tryz.prog ops Q rest (a.put op.dst undef) (w.setRow b (vecR u))) : wpList Tryz.prog ops Q (op :: rest) a w := by
 unfold wpList
 rw [if_pos hw]
 refine Or.inl ?_
 have hl := h.store hu
 unfold Oper.wp execOp
 simp only [ho, hx, hy, Sem.run_bind, hl, Result.andThen_ok]
 exact k
theorem exec_vload {f : Operand → Value} {op : Oper} {x : Operand} (ho : op.op = .load 39 x) (hx : f x = .pointer (some ⟨b, 0, none⟩)) (h : VRow w b v) : (execOp f op).run Tryz.prog w = .ok (.value (vecA v)) w := by
 have hl := h.load
 unfold execOp
 simp only [ho, hx, Sem.run_bind, hl, Result.andThen_ok]
 rfl
theorem step_vstore {ops : Array Oper} {o : Oper} {a : Act} {K : Act → World → Prop} {Q : Exit → Act → World → Prop} {E : Prop} (x y : Operand) (hgd : o.guard = none) (ho : o.op = .store 39 x y) {u : List Int} (hx : a.eval x = .pointer (some ⟨b, 0, none⟩)) (hy : a.eval y = vecA u) (h : VRow w b v) (hu : u.length = 65)
  (k : K (a.put o.dst undef) (w.setRow b (vecR u))) : if Region.wanted o (yielded ops a.tmps) = true then Oper.wp Tryz.prog o a w K Q else E := by
 rw [if_pos (by simp [Region.wanted, hgd])]
 have hl := h.store hu
 unfold Oper.wp execOp
 simp only [ho, hx, hy, Sem.run_bind, hl, Result.andThen_ok]
 exact k
theorem VRow.draws (h : VRow w b v) (n : Nat) : VRow (w.drewN n) b v := h
theorem VRow.grown (h : VRow w b v) (n : Nat) (os : Array Obj) : VRow (Sort.grow (w.drewN n) os) b v := ⟨(Sort.heap_grow_old (w.drewN n) os h.1.inHeap).trans h.1, h.2⟩
theorem VRow.alloc (h : VRow w b v) (o : Obj) : VRow (w.alloc o) b v := ⟨h.1.behindNew o, h.2⟩
theorem VRow.storedElsewhere (h : VRow w b v) {p : Addr} (hp : p.block ≠ b) (u : Value) : VRow (w.setCell p u) b v := ⟨h.1.storedElsewhere hp u, h.2⟩
theorem VRow.setElsewhere (h : VRow w b v) {c : Nat} (hc : c ≠ b) (cs : Array Value) : VRow (w.setRow c cs) b v := by
 refine ⟨?_, h.2⟩
 show (w.heap.modify c _)[b]? = _
 rw [Array.getElem?_modify, if_neg hc]
 exact h.1
theorem Laid.drew (h : Laid a w) : Laid a w.drew := by
 obtain ⟨q, os, rfl⟩ := h
 exact ⟨q + 1, os, rfl⟩
theorem Laid.draws (h : Laid a w) (n : Nat) : Laid a (w.drewN n) := by
 obtain ⟨q, os, rfl⟩ := h
 exact ⟨q + n, os, by show Sort.grow ((a.drewN q).drewN n) os = _; rw [World.drewN_drewN]⟩
theorem Laid.alloc (h : Laid a w) (o : Obj) : Laid a (w.alloc o) := h.trans (Laid.new w o)
theorem Laid.size (h : Laid a w) : a.heap.size ≤ w.heap.size := h.below.size
theorem Laid.grown (h : Laid a w) (n : Nat) (os : Array Obj) : Laid a (Sort.grow (w.drewN n) os) := h.trans ⟨n, os, rfl⟩
theorem Laid.heap (h : Laid a w) (f : Array Obj → Array Obj) (hf : ∀ os : Array Obj, ∃ os', f (a.heap ++ os) = a.heap ++ os') : Laid a { w with heap := f w.heap } := by
 obtain ⟨q, os, rfl⟩ := h
 obtain ⟨os', e⟩ := hf os
 exact ⟨q, os', by show { Sort.grow (a.drewN q) os with heap := f (a.heap ++ os) } = _; rw [e]; rfl⟩
theorem Laid.stored (h : Laid a w) {p : Addr} (hp : a.heap.size ≤ p.block) (u : Value) : Laid a (w.setCell p u) :=
 h.heap (fun hp => hp.modify p.block _) (fun os => ⟨_, Sort.modify_append_right a.heap os p.block _ hp⟩)
theorem Laid.set (h : Laid a w) {b : Nat} (hb : a.heap.size ≤ b) (cs : Array Value) : Laid a (w.setRow b cs) :=
 h.heap (fun hp => hp.modify b _) (fun os => ⟨_, Sort.modify_append_right a.heap os b _ hb⟩)
end
theorem vec_index {v : List Int} {k : Nat} {n : Int} (hk : k < 65) (hn : v[k]? = some n) (w : World) : (Instr.index 39 (vecA v) (.int .i64 (k : Int))).run Tryz.prog w = .ok (.int .i64 n) w := by
 have hu := Tryz.underlying39
 have ha := Tryz.isAgg3
 have hs := Tryz.sizeOf3
 have hg : (vecR v)[k]? = some (.int .i64 n) := vecR_get hn
 have h1 : (0 : Int) ≤ (k : Int) ∧ (k : Int) < 65 := by omega
 simp [Instr.index, run_underlying hu, asIntOf, h1, go_sem, ha, hs, part, hg]
 intro h
 omega
theorem vec_addr {k : Nat} (hk : k < 65) (b : Nat) (w : World) : (Instr.indexAt 39 (.pointer (some ⟨b, 0, none⟩)) (.int .i64 (k : Int))).run Tryz.prog w = .ok (.pointer (some ⟨b, k, none⟩)) w := by
 have hu := Tryz.underlying39
 have hs := Tryz.sizeOf3
 have h1 : (0 : Int) ≤ (k : Int) ∧ (k : Int) < 65 := by omega
 simp [Instr.indexAt, Instr.sureAddr, run_underlying hu, asIntOf, h1, go_sem, hs, Addr.add]
 rw [if_pos hk]
 by_cases h0 : k = 0
 ·subst h0; rfl
 ·rw [if_neg h0]
theorem wq_vload {ops : Array Oper} {rest : List Oper} {op : Oper} {a : Act} {C : World → Prop} {Q : Act → Prop} {b : Nat} {v : List Int} (hw : Region.wanted op (yielded ops a.tmps) = true) (x : Operand) (ho : op.op = .load 39 x) (hx : a.eval x = .pointer (some ⟨b, 0, none⟩)) (h : ∀ w, C w → VRow w b v)
  (k : WQ Tryz.prog ops C Q rest (a.put op.dst (vecA v))) : WQ Tryz.prog ops C Q (op :: rest) a :=
 wq_take hw (fun w hC => exec_vload ho hx (h w hC)) k
theorem inB_laid {P : Program} {f : FuncId} {args : Array Value} {W w : World} {v : Value} (hC : InB W w) (h : Calls P f args w fun e w' => e = .returned v ∧ Laid w w') : Calls P f args w fun e w' => e = .returned v ∧ InB W w' :=
 h.mono fun _ _ ⟨he, hb⟩ => ⟨he, hC.trans hb.below⟩
theorem VRow.inB {w w' : World} {b : Nat} {v : List Int} (h : VRow w b v) (k : InB w w') : VRow w' b v := h.below k.below h.inHeap
structure VecOk : Prop where
 clean : ∀ {w : World} {v : List Int}, v.length = 65 → Calls Tryz.prog 97 #[vecA v] w fun e w' => e = .returned (vecA (Vec.clean v)) ∧ Laid w w'
 has : ∀ {w : World} {v : List Int} (x : Ver.V), v.length = 65 → Ver.Bd x → Calls Tryz.prog 38 #[vecA v, verA x] w fun e w' => e = .returned (.bool (decide (Vec.Has v x))) ∧ Laid w w'
 ofl : ∀ {w : World} {F : Nat → Prop} {s : Value} {l : List Ver.V}, Vrs w F s l → l.length ≤ 1000000 → (∀ x ∈ l, Ver.Bd x) → Calls Tryz.prog 36 #[s] w fun e w' => e = .returned (vecA (Vec.ofl l)) ∧ Laid w w'
 join : ∀ {w : World} {a b : List Int}, a.length = 65 → b.length = 65 → Calls Tryz.prog 69 #[vecA a, vecA b] w fun e w' => e = .returned (vecA (Vec.join a b)) ∧ Laid w w'
 covers : ∀ {w : World} {a b : List Int}, a.length = 65 → b.length = 65 → Calls Tryz.prog 99 #[vecA a, vecA b] w fun e w' => e = .returned (.bool (decide (Vec.Covers a b))) ∧ Laid w w'
 ends : ∀ {w : World} {v : List Int}, v.length = 65 → Calls Tryz.prog 62 #[vecA v] w fun e w' => ∃ s, e = .returned s ∧ Vrs w' (NewIn w w') s (Vec.ends v) ∧ Below w.heap.size w w'
end Go.Proofs.YtpmolinmopgbdaaGreat
namespace Go.Proofs.YtpmolinmopgbdaaGreat.Iset
open Ver (V sort Up)
def join (a b : List V) : List V := sort (a ++ b)
def meet (a b : List V) : List V := sort (a.filter fun x => decide (x ∈ b))
def minus (a b : List V) : List V := sort (a.filter fun x => decide (x ∉ b))
def put (l : List V) (x : V) : List V := Ver.put (sort l) x
def drop (l : List V) (x : V) : List V := minus l [x]
def Within (a b : List V) : Prop := ∀ x ∈ a, x ∈ b
instance (a b : List V) : Decidable (Within a b) := inferInstanceAs (Decidable (∀ x ∈ a, _))
theorem meet_mem {a b : List V} {x : V} : x ∈ meet a b ↔ x ∈ a ∧ x ∈ b := by unfold meet; rw [Ver.sort_mem, List.mem_filter]; simp
theorem minus_mem {a b : List V} {x : V} : x ∈ minus a b ↔ x ∈ a ∧ x ∉ b := by unfold minus; rw [Ver.sort_mem, List.mem_filter]; simp
theorem put_mem {l : List V} {x y : V} : y ∈ put l x ↔ y = x ∨ y ∈ l := by unfold put; rw [Ver.put_mem, Ver.sort_mem]
theorem put_up (l : List V) (x : V) : Up (put l x) := Ver.put_up (Ver.sort_up _) x
theorem sort_same {a b : List V} (h : ∀ x, x ∈ a ↔ x ∈ b) : sort a = sort b := Ver.up_same (Ver.sort_up _) (Ver.sort_up _) (fun x => by rw [Ver.sort_mem, Ver.sort_mem]; exact h x)
theorem up_empty {l : List V} : l = [] ↔ ∀ x, x ∉ l := by
 cases l with
 | nil => simp
 | cons a l =>
  constructor
  ·intro h; cases h
  ·intro h; exact absurd (List.mem_cons_self ..) (h a)
theorem filter_take (p : V → Bool) (l : List V) (i : Nat) (x : V) (hx : l[i]? = some x) : (l.take (i + 1)).filter p = (l.take i).filter p ++ (if p x then [x] else []) := by
 obtain ⟨hl, he⟩ := List.getElem?_eq_some_iff.1 hx
 rw [List.take_succ_eq_append_getElem hl, he, List.filter_append]
 congr 1
 cases h : p x <;> simp [h]
theorem sort_more (l : List V) (x : V) : sort (l ++ [x]) = Ver.put (sort l) x := by
 unfold sort
 rw [List.foldl_append]
 rfl
theorem minus_take (a b : List V) (i : Nat) (x : V) (hx : a[i]? = some x) : minus (a.take (i + 1)) b = if x ∈ b then minus (a.take i) b else Ver.put (minus (a.take i) b) x := by
 unfold minus
 rw [filter_take _ a i x hx]
 by_cases h : x ∈ b
 ·rw [if_pos h, if_neg (by simpa using h), List.append_nil]
 ·rw [if_neg h, if_pos (by simpa using h), sort_more]
theorem minus_len (a b : List V) : (minus a b).length ≤ a.length := Nat.le_trans (Ver.sort_len _) (List.length_filter_le _ _)
theorem put_len (l : List V) (x : V) : (put l x).length ≤ l.length + 1 := by
 have := Ver.put_len (sort l) x
 have := Ver.sort_len l
 unfold put
 omega
theorem apart (a b : List V) : meet (minus a b) b = [] := by
 rw [up_empty]
 intro x hx
 have := meet_mem.1 hx
 exact (minus_mem.1 this.1).2 this.2
theorem put_is (l : List V) (x : V) : sort (l ++ [x]) = put l x := by unfold put; rw [sort_more]
theorem half_up {m : List V} {y x : V} {i : Nat} (h : Up m) (hy : m[i]? = some y) (hb : Ver.Before y x) : Up (m.drop (i + 1)) ∧ (x ∈ m ↔ x ∈ m.drop (i + 1)) := by
 have e : m.take (i + 1) ++ m.drop (i + 1) = m := List.take_append_drop _ _
 refine ⟨List.Pairwise.sublist (List.drop_sublist _ _) h, ?_⟩
 constructor
 ·intro hx
  obtain ⟨j, hj⟩ := List.getElem?_of_mem hx
  rcases Nat.lt_or_ge i j with hlt | hge
  ·refine List.mem_of_getElem? (i := j - (i + 1)) ?_
   rw [List.getElem?_drop, show i + 1 + (j - (i + 1)) = j by omega]
   exact hj
  ·exfalso
   rcases Nat.lt_or_ge j i with hji | hji
   ·obtain ⟨h1, e1⟩ := List.getElem?_eq_some_iff.1 hj
    obtain ⟨h2, e2⟩ := List.getElem?_eq_some_iff.1 hy
    have := List.pairwise_iff_getElem.1 h j i h1 h2 hji
    rw [e1, e2] at this
    exact Ver.before_asymm hb this
   ·have : j = i := by omega
    subst this
    rw [hy] at hj
    injection hj with hj
    rw [hj] at hb
    exact Ver.before_irrefl x hb
 ·exact fun hx => List.mem_of_mem_drop hx
theorem half_low {m : List V} {y x : V} {i : Nat} (h : Up m) (hy : m[i]? = some y) (hb : Ver.Before x y) : Up (m.take i) ∧ (x ∈ m ↔ x ∈ m.take i) := by
 refine ⟨List.Pairwise.sublist (List.take_sublist _ _) h, ?_⟩
 constructor
 ·intro hx
  obtain ⟨j, hj⟩ := List.getElem?_of_mem hx
  rcases Nat.lt_or_ge j i with hlt | hge
  ·refine List.mem_of_getElem? (i := j) ?_
   rw [List.getElem?_take, if_pos hlt]
   exact hj
  ·exfalso
   rcases Nat.lt_or_ge i j with hji | hji
   ·obtain ⟨h1, e1⟩ := List.getElem?_eq_some_iff.1 hj
    obtain ⟨h2, e2⟩ := List.getElem?_eq_some_iff.1 hy
    have := List.pairwise_iff_getElem.1 h i j h2 h1 hji
    rw [e1, e2] at this
    exact Ver.before_asymm hb this
   ·have : j = i := by omega
    subst this
    rw [hy] at hj
    injection hj with hj
    rw [hj] at hb
    exact Ver.before_irrefl x hb
 ·exact fun hx => List.mem_of_mem_take hx
theorem half_here {m : List V} {y x : V} {i : Nat} (hy : m[i]? = some y) (h1 : ¬ Ver.Before y x) (h2 : ¬ Ver.Before x y) : x ∈ m := by
 by_cases e : y = x
 ·rw [← e]; exact List.mem_of_getElem? hy
 ·rcases Ver.before_or e with h | h
  ·exact absurd h h1
  ·exact absurd h h2
theorem filter_sort (p : V → Bool) (l : List V) : (sort l).filter p = sort (l.filter p) := by
 refine (Ver.sort_is (List.Pairwise.filter p (Ver.sort_up l)) (fun x => ?_)).symm
 rw [List.mem_filter, List.mem_filter, Ver.sort_mem]
theorem meet_is (a b : List V) : (sort a).filter (fun x => decide (x ∈ b)) = meet a b := filter_sort _ a
theorem within_is (a b : List V) : (!a.any fun x => !decide (x ∈ b)) = decide (Within a b) := by
 rw [Bool.eq_iff_iff, decide_eq_true_iff]
 unfold Within
 simp
end Go.Proofs.YtpmolinmopgbdaaGreat.Iset
namespace Go.Proofs.YtpmolinmopgbdaaGreat
open Go.RowKit
structure IsetOk : Prop where
 ofl : ∀ {w : World} {F : Nat → Prop} {v : Value} {l : List Ver.V}, Vrs w F v l → l.length ≤ 1000000 → Calls Tryz.prog 70 #[v] w fun e w' => ∃ v', e = .returned v' ∧ Vrs w' (NewIn w w') v' (Ver.sort l) ∧ Below w.heap.size w w'
 has : ∀ {w : World} {F : Nat → Prop} {v : Value} {l : List Ver.V} (x : Ver.V), Vrs w F v l → l.length ≤ 1000000 → Calls Tryz.prog 76 #[v, verA x] w fun e w' => e = .returned (.bool (decide (x ∈ l))) ∧ Below w.heap.size w w'
 put : ∀ {w : World} {F : Nat → Prop} {v : Value} {l : List Ver.V} (x : Ver.V), Vrs w F v l → l.length ≤ 500000 → Calls Tryz.prog 56 #[v, verA x] w fun e w' => ∃ v', e = .returned v' ∧ Vrs w' (NewIn w w') v' (Iset.put l x) ∧ Below w.heap.size w w'
 join : ∀ {w : World} {F G : Nat → Prop} {u v : Value} {a b : List Ver.V}, Vrs w F u a → Vrs w G v b → a.length ≤ 500000 → b.length ≤ 500000 → Calls Tryz.prog 89 #[u, v] w fun e w' => ∃ v', e = .returned v' ∧ Vrs w' (NewIn w w') v' (Iset.join a b) ∧ Below w.heap.size w w'
 within : ∀ {w : World} {F G : Nat → Prop} {u v : Value} {a b : List Ver.V}, Vrs w F u a → Vrs w G v b → a.length ≤ 1000000 → b.length ≤ 1000000 → Calls Tryz.prog 100 #[u, v] w fun e w' => e = .returned (.bool (decide (Iset.Within a b))) ∧ Below w.heap.size w w'
end Go.Proofs.YtpmolinmopgbdaaGreat
