import Derived.Test.YtkcgmnhjofoeiaaGreatCom5
import Derived.Test.YtkcgmnhjofoeiaaGreatCom10
import Derived.DeepKeys4
import Derived.Maps.Keyed
import Derived.WideKeyElems
import Derived.Great.BuildSlice
set_option maxRecDepth 100000
set_option linter.all false
namespace Go.Proofs.YtkcgmnhjofoeiaaGreat
open Go.RowKit Go.ChangeMaps
theorem ver_law : WideMaps.KeyLaw Tryz.prog 33 := deep_law_laid (m := 9) (by kernel_rfl) (by decide) (of_decide_eq_true (by kernel_rfl)) (by kernel_rfl) (by kernel_rfl)
theorem ver_wf {n : Int} (h : Ver.I64 n) : (Lit.int .i64 n).wf = true := by
 unfold Ver.I64 at h
 simp only [Lit.wf, Bool.and_eq_true, decide_eq_true_iff]
 have h1 : IntKind.i64.min = -9223372036854775808 := rfl
 have h2 : IntKind.i64.max = 9223372036854775807 := rfl
 omega
theorem ver_sized : ∃ m, Tryz.prog.types.size + 1 = m + 2 := ⟨_, rfl⟩
theorem ver_key {x : Ver.V} (h : Ver.Bd x) : ∃ l, keyOf Tryz.prog 33 (verA x) = some l := by
 have w1 := ver_wf h.1
 have w2 := ver_wf h.2
 have hc : Tryz.prog.cellsOf 33 = 2 := by kernel_rfl
 have hi : Tryz.prog.cellsOf 3 = 1 := by kernel_rfl
 have hkt : Tryz.prog.keyType 33 = true := by kernel_rfl
 obtain ⟨m, hm⟩ := ver_sized
 refine ⟨.string (keyBytes [.int .i64 x.by_, .int .i64 x.n]), ?_⟩
 unfold keyOf
 rw [hm]
 simp [Tryz.underlying33, hkt, Value.formed, hc, Program.keyLits, Tryz.underlying3, hi, w1, w2, Value.cells]
theorem verA_inj {x y : Ver.V} (h : verA x = verA y) : x = y := by
 cases x; cases y
 simpa using h
abbrev Ver.Fn := Ver.V → Option Value
def Ver.set (m : Ver.Fn) (x : Ver.V) (v : Value) : Ver.Fn := fun y => if y = x then some v else m y
def VmAt (w : World) (bm : Nat) (m : Ver.Fn) : Prop := ∃ es clock, w.heap[bm]? = some (.map es clock) ∧ (∀ e ∈ es.toList, ∃ x : Ver.V, Ver.Bd x ∧ e.key = verA x ∧ m x = some e.val) ∧
 (∀ x v, m x = some v → ∃ e ∈ es.toList, e.key = verA x) ∧ es.toList.Pairwise (fun a b => a.key ≠ b.key)
section
variable {w w' : World} {bm : Nat} {m : Ver.Fn} {T E : TypeId} {z : Value}
theorem VmAt.lt (h : VmAt w bm m) : bm < w.heap.size := by
 obtain ⟨es, clock, hb, -⟩ := h
 exact (Array.getElem?_eq_some_iff.1 hb).1
theorem VmAt.kept {G : Nat → Prop} (h : VmAt w bm m) (k : Kept G w w') (hd : ¬ G bm) : VmAt w' bm m := by
 have hl := h.lt
 obtain ⟨es, clock, hb, r⟩ := h
 exact ⟨es, clock, (k.block bm hl hd).trans hb, r⟩
theorem VmAt.below (h : VmAt w bm m) (k : Below w.heap.size w w') : VmAt w' bm m := h.kept (Kept.ofBelow k (fun _ => False)) (fun h => h)
theorem VmAt.made (w : World) : VmAt (w.alloc (.map #[] 0)) w.heap.size (fun _ => none) := ⟨#[], 0, Array.getElem?_push_size, fun e h => absurd h (List.not_mem_nil), fun x v h => (by cases h), List.Pairwise.nil⟩
def Ver.got (m : Ver.Fn) (z : Value) (x : Ver.V) : Value := .tuple #[(m x).getD z, .bool (m x).isSome]
theorem VmAt.look (h : VmAt w bm m) (hu : Tryz.prog.underlying T = some (.map 33 E)) (hz : (zeroValue E).run Tryz.prog w = .ok z w) {x : Ver.V} (hx : Ver.Bd x) : (Instr.lookup T (.map (some bm)) (verA x) true).run Tryz.prog w = .ok (Ver.got m z x) w := by
 obtain ⟨es, clock, hb, h1, h2, h3⟩ := h
 have K := ver_law
 obtain ⟨kl, hkey⟩ := ver_key hx
 unfold Ver.got
 rcases K.find w hkey es.toList (fun e he => by obtain ⟨y, hy, e1, -⟩ := h1 e he; rw [e1]; exact ver_key hy) with ⟨f1, f2⟩ | ⟨j, e0, f1, f2, f3⟩
 ·have hn : m x = none := by
   cases hm : m x with
   | none => rfl
   | some v =>
    obtain ⟨e, he, e1⟩ := h2 x v hm
    exact absurd e1 (f2 e he)
  rw [hn]
  simp [Instr.lookup, run_underlying hu, MapKept.run_getObj_map hb, K.check w _ hkey, f1, hz, Result.andThen]
 ·obtain ⟨y, hy, e1, e2⟩ := h1 e0 (List.mem_of_getElem? f2)
  have hxy : y = x := verA_inj (e1.symm.trans f3)
  subst hxy
  rw [e2]
  simp [Instr.lookup, run_underlying hu, MapKept.run_getObj_map hb, K.check w _ hkey, f1, Result.andThen]
theorem VmAt.put (h : VmAt w bm m) (hu : Tryz.prog.underlying T = some (.map 33 E)) {x : Ver.V} (hx : Ver.Bd x) (v : Value) :
  ∃ w', (Instr.mapUpdate T (.map (some bm)) (verA x) v).run Tryz.prog w = .ok () w' ∧ VmAt w' bm (Ver.set m x v) ∧ w.grownBy w' (some bm) := by
 have hlt := h.lt
 obtain ⟨es, clock, hb, h1, h2, h3⟩ := h
 have K := ver_law
 obtain ⟨kl, hkey⟩ := ver_key hx
 have hself : Ver.set m x v x = some v := by unfold Ver.set; rw [if_pos rfl]
 have hother : ∀ y, y ≠ x → Ver.set m x v y = m y := fun y hy => by unfold Ver.set; rw [if_neg hy]
 have hgrow : ∀ o : Obj, w.grownBy (setBlock w bm o) (some bm) := fun o => ⟨rfl, rfl, rfl, by simp [setBlock], fun k hk hne => by
  have hne : bm ≠ k := fun e => hne (by rw [e])
  simp [setBlock, Array.getElem?_setIfInBounds, hne]⟩
 have hget : ∀ o : Obj, (setBlock w bm o).heap[bm]? = some o := fun o => by simp [setBlock, hlt]
 rcases K.find w hkey es.toList (fun e he => by obtain ⟨y, hy, e1, -⟩ := h1 e he; rw [e1]; exact ver_key hy) with ⟨f1, f2⟩ | ⟨j, e0, f1, f2, f3⟩
 ·refine ⟨setBlock w bm (.map (es.push ⟨verA x, v, clock⟩) (clock + 1)), ?_, ⟨_, _, hget _, ?_, ?_, ?_⟩, hgrow _⟩
  ·simp [Instr.mapUpdate, run_underlying hu, MapKept.run_getObj_map hb, K.check w false hkey, f1, MapKept.run_setObj_map _ hb, Result.andThen, setBlock]
  ·intro e he
   rw [Array.toList_push] at he
   rcases List.mem_append.1 he with he | he
   ·obtain ⟨y, hy, e1, e2⟩ := h1 e he
    have hne : y ≠ x := fun q => f2 e he (by rw [e1, q])
    exact ⟨y, hy, e1, by rw [hother y hne]; exact e2⟩
   ·rw [List.mem_singleton.1 he]
    exact ⟨x, hx, rfl, hself⟩
  ·intro y u hy
   by_cases e : y = x
   ·exact ⟨⟨verA x, v, clock⟩, by rw [Array.toList_push]; simp, by rw [e]⟩
   ·rw [hother y e] at hy
    obtain ⟨e, he, e1⟩ := h2 y u hy
    exact ⟨e, by rw [Array.toList_push]; exact List.mem_append.2 (Or.inl he), e1⟩
  ·rw [Array.toList_push]
   refine List.pairwise_append.2 ⟨h3, List.pairwise_singleton .., fun a ha b hb' => ?_⟩
   rw [List.mem_singleton.1 hb']
   exact f2 a ha
 ·have hj : es[j]? = some e0 := by simpa using f2
  have hjl : j < es.toList.length := (List.getElem?_eq_some_iff.1 f2).1
  have hlist : (es.modify j (fun e' => { e' with key := verA x, val := v })).toList = es.toList.set j ⟨verA x, v, e0.born⟩ := by
   rw [Array.toList_modify]
   apply List.ext_getElem?
   intro k
   rw [List.getElem?_modify, List.getElem?_set]
   by_cases e : j = k
   ·subst e
    rw [f2, if_pos rfl, if_pos hjl]
    show some (if j = j then _ else _) = _
    rw [if_pos rfl]
   ·rw [if_neg e]
    cases es.toList[k]? with
    | none => rfl
    | some a =>
     show some (if j = k then _ else a) = some a
     rw [if_neg e]
  refine ⟨setBlock w bm (.map (es.modify j (fun e' => { e' with key := verA x, val := v })) clock), ?_, ⟨_, _, hget _, ?_, ?_, ?_⟩, hgrow _⟩
  ·simp [Instr.mapUpdate, run_underlying hu, MapKept.run_getObj_map hb, K.check w false hkey, f1, hj, f3, K.stays w hkey, MapKept.run_setObj_map _ hb, Result.andThen, setBlock]
  ·intro e he
   rw [hlist] at he
   obtain ⟨k, hk⟩ := List.getElem?_of_mem he
   rw [List.getElem?_set] at hk
   by_cases ejk : j = k
   ·rw [if_pos ejk] at hk
    split at hk
    ·injection hk with hk
     rw [← hk]
     exact ⟨x, hx, rfl, hself⟩
    ·exact absurd hjl (by assumption)
   ·rw [if_neg ejk] at hk
    have hm := List.mem_of_getElem? hk
    obtain ⟨y, hy, e1, e2⟩ := h1 e hm
    have hne : y ≠ x := fun q => by
     obtain ⟨hkl, ek⟩ := List.getElem?_eq_some_iff.1 hk
     obtain ⟨hjl', ej⟩ := List.getElem?_eq_some_iff.1 f2
     have hkey2 : e.key = e0.key := by rw [e1, f3, q]
     rcases Nat.lt_or_gt_of_ne ejk with hlt2 | hlt2
     ·have := List.pairwise_iff_getElem.1 h3 j k hjl' hkl hlt2
      rw [ek, ej] at this
      exact this hkey2.symm
     ·have := List.pairwise_iff_getElem.1 h3 k j hkl hjl' hlt2
      rw [ek, ej] at this
      exact this hkey2
    exact ⟨y, hy, e1, by rw [hother y hne]; exact e2⟩
  ·intro y u hy
   have hex : ∃ e ∈ es.toList, e.key = verA y := by
    by_cases e : y = x
    ·rw [e]
     exact ⟨e0, List.mem_of_getElem? f2, f3⟩
    ·rw [hother y e] at hy
     exact h2 y u hy
   obtain ⟨e, he, e1⟩ := hex
   obtain ⟨k, hk⟩ := List.getElem?_of_mem he
   by_cases ejk : j = k
   ·subst ejk
    rw [f2] at hk
    injection hk with hk
    refine ⟨_, by rw [hlist]; exact List.mem_of_getElem? (List.getElem?_set_self hjl), ?_⟩
    rw [← e1, ← hk, f3]
   ·exact ⟨e, by rw [hlist]; exact List.mem_of_getElem? (by rw [List.getElem?_set_ne ejk]; exact hk), e1⟩
  ·rw [hlist]
   have hmap : (es.toList.set j ⟨verA x, v, e0.born⟩).map (·.key) = es.toList.map (·.key) := by
    rw [List.map_set]
    apply List.ext_getElem?
    intro k
    rw [List.getElem?_set]
    by_cases e : j = k
    ·subst e
     rw [if_pos rfl, if_pos (by rw [List.length_map]; exact hjl), List.getElem?_map, f2]
     show some (verA x) = some e0.key
     rw [f3]
    ·rw [if_neg e]
   have h3' : (es.toList.map (·.key)).Pairwise (· ≠ ·) := List.pairwise_map.2 h3
   rw [← hmap] at h3'
   exact List.pairwise_map.1 h3'
end
open Go.RowKit Go.ChangeMaps
def KmAt (w : World) (bm : Nat) (l : List Know.It) : Prop := ∃ es clock, w.heap[bm]? = some (.map es clock) ∧ (∀ e ∈ es.toList, ∃ x : Ver.V, Ver.Bd x ∧ e.key = verA x ∧ e.val = .agg (vecL (Know.vecOf l x)).toArray ∧ x ∈ l.map (·.item)) ∧
 (∀ x ∈ l.map (·.item), ∃ e ∈ es.toList, e.key = verA x) ∧ es.toList.Pairwise (fun a b => a.key ≠ b.key)
section
variable {w w' : World} {bm : Nat} {l : List Know.It}
theorem Know.vecOf_none {l : List Know.It} {x : Ver.V} (h : x ∉ l.map (·.item)) : Know.vecOf l x = Know.zeros := by
 have : ∀ n, n ≤ l.length → Know.vecOf (l.take n) x = Know.zeros := by
  intro n
  induction n with
  | zero => intro _; rw [List.take_zero]; rfl
  | succ n ih =>
   intro hn
   rw [List.take_succ_eq_append_getElem (by omega), Know.vecOf_more, if_neg (fun e => h (List.mem_map.2 ⟨_, List.getElem_mem _, e⟩))]
   exact ih (by omega)
 have h1 := this l.length (Nat.le_refl _)
 rwa [List.take_length] at h1
theorem KmAt.lt (h : KmAt w bm l) : bm < w.heap.size := by
 obtain ⟨es, clock, hb, -⟩ := h
 exact (Array.getElem?_eq_some_iff.1 hb).1
theorem KmAt.kept {G : Nat → Prop} (h : KmAt w bm l) (k : Kept G w w') (hd : ¬ G bm) : KmAt w' bm l := by
 have hl := h.lt
 obtain ⟨es, clock, hb, r⟩ := h
 exact ⟨es, clock, (k.block bm hl hd).trans hb, r⟩
theorem KmAt.below (h : KmAt w bm l) (k : Below w.heap.size w w') : KmAt w' bm l := h.kept (Kept.ofBelow k (fun _ => False)) (fun h => h)
theorem KmAt.made (w : World) : KmAt (w.alloc (.map #[] 0)) w.heap.size [] := ⟨#[], 0, Array.getElem?_push_size, fun e h => absurd h (List.not_mem_nil), fun x h => absurd h (List.not_mem_nil), List.Pairwise.nil⟩
theorem KmAt.look (h : KmAt w bm l) {x : Ver.V} (hx : Ver.Bd x) : (Instr.lookup 120 (.map (some bm)) (verA x) false).run Tryz.prog w = .ok (.agg (vecL (Know.vecOf l x)).toArray) w := by
 obtain ⟨es, clock, hb, h1, h2, h3⟩ := h
 have K := ver_law
 obtain ⟨kl, hkey⟩ := ver_key hx
 have hz : (zeroValue 28).run Tryz.prog w = .ok (.agg (vecL Vec.zeros).toArray) w := vecZero w
 rcases K.find w hkey es.toList (fun e he => by obtain ⟨y, hy, e1, -⟩ := h1 e he; rw [e1]; exact ver_key hy) with ⟨f1, f2⟩ | ⟨j, e0, f1, f2, f3⟩
 ·have hn : x ∉ l.map (·.item) := fun hm => by
   obtain ⟨e, he, e1⟩ := h2 x hm
   exact f2 e he e1
  rw [Know.vecOf_none hn]
  show _ = Result.ok (Value.agg (vecL Vec.zeros).toArray) w
  generalize Value.agg (vecL Vec.zeros).toArray = z at hz ⊢
  simp [Instr.lookup, run_underlying Tryz.underlying120, MapKept.run_getObj_map hb, K.check w _ hkey, f1, hz, Result.andThen]
 ·obtain ⟨y, hy, e1, e2, -⟩ := h1 e0 (List.mem_of_getElem? f2)
  have hxy : y = x := verA_inj (e1.symm.trans f3)
  subst hxy
  simp [Instr.lookup, run_underlying Tryz.underlying120, MapKept.run_getObj_map hb, K.check w _ hkey, f1, e2, Result.andThen]
theorem KmAt.put (h : KmAt w bm l) (i : Know.It) (hx : Ver.Bd i.item) :
  ∃ w', (Instr.mapUpdate 120 (.map (some bm)) (verA i.item) (Value.agg (vecL (Vec.join (Know.vecOf l i.item) i.v)).toArray)).run Tryz.prog w = .ok () w' ∧ KmAt w' bm (l ++ [i]) ∧ w.grownBy w' (some bm) := by
 have hlt := h.lt
 obtain ⟨es, clock, hb, h1, h2, h3⟩ := h
 have K := ver_law
 obtain ⟨kl, hkey⟩ := ver_key hx
 have hself : Know.vecOf (l ++ [i]) i.item = Vec.join (Know.vecOf l i.item) i.v := by rw [Know.vecOf_more, if_pos rfl]
 have hother : ∀ y, y ≠ i.item → Know.vecOf (l ++ [i]) y = Know.vecOf l y := fun y hy => by rw [Know.vecOf_more, if_neg (fun e => hy e.symm)]
 have hgrow : ∀ o : Obj, w.grownBy (setBlock w bm o) (some bm) := fun o => ⟨rfl, rfl, rfl, by simp [setBlock], fun k hk hne => by
  have hne : bm ≠ k := fun e => hne (by rw [e])
  simp [setBlock, Array.getElem?_setIfInBounds, hne]⟩
 have hget : ∀ o : Obj, (setBlock w bm o).heap[bm]? = some o := fun o => by simp [setBlock, hlt]
 rcases K.find w hkey es.toList (fun e he => by obtain ⟨y, hy, e1, -⟩ := h1 e he; rw [e1]; exact ver_key hy) with ⟨f1, f2⟩ | ⟨j, e0, f1, f2, f3⟩
 ·refine ⟨setBlock w bm (.map (es.push ⟨verA i.item, Value.agg (vecL (Vec.join (Know.vecOf l i.item) i.v)).toArray, clock⟩) (clock + 1)), ?_, ⟨_, _, hget _, ?_, ?_, ?_⟩, hgrow _⟩
  ·simp [Instr.mapUpdate, run_underlying Tryz.underlying120, MapKept.run_getObj_map hb, K.check w false hkey, f1, MapKept.run_setObj_map _ hb, Result.andThen, setBlock]
  ·intro e he
   rw [Array.toList_push] at he
   rcases List.mem_append.1 he with he | he
   ·obtain ⟨y, hy, e1, e2, e3⟩ := h1 e he
    have hne : y ≠ i.item := fun q => f2 e he (by rw [e1, q])
    exact ⟨y, hy, e1, by rw [hother y hne]; exact e2, by rw [List.map_append]; exact List.mem_append.2 (Or.inl e3)⟩
   ·rw [List.mem_singleton.1 he]
    exact ⟨i.item, hx, rfl, by rw [hself], by simp⟩
  ·intro x hxm
   rw [List.map_append] at hxm
   rcases List.mem_append.1 hxm with hm | hm
   ·obtain ⟨e, he, e1⟩ := h2 x hm
    exact ⟨e, by rw [Array.toList_push]; exact List.mem_append.2 (Or.inl he), e1⟩
   ·have : x = i.item := by simpa using hm
    subst this
    exact ⟨⟨verA i.item, Value.agg (vecL (Vec.join (Know.vecOf l i.item) i.v)).toArray, clock⟩, by rw [Array.toList_push]; simp, rfl⟩
  ·rw [Array.toList_push]
   refine List.pairwise_append.2 ⟨h3, List.pairwise_singleton .., fun a ha b hb' => ?_⟩
   rw [List.mem_singleton.1 hb']
   exact f2 a ha
 ·have hj : es[j]? = some e0 := by simpa using f2
  have hjl : j < es.toList.length := (List.getElem?_eq_some_iff.1 f2).1
  have hlist : (es.modify j (fun e' => { e' with key := verA i.item, val := Value.agg (vecL (Vec.join (Know.vecOf l i.item) i.v)).toArray })).toList = es.toList.set j ⟨verA i.item, Value.agg (vecL (Vec.join (Know.vecOf l i.item) i.v)).toArray, e0.born⟩ := by
   rw [Array.toList_modify]
   apply List.ext_getElem?
   intro k
   rw [List.getElem?_modify, List.getElem?_set]
   by_cases e : j = k
   ·subst e
    rw [f2, if_pos rfl, if_pos hjl]
    show some (if j = j then _ else _) = _
    rw [if_pos rfl]
   ·rw [if_neg e]
    cases es.toList[k]? with
    | none => rfl
    | some a =>
     show some (if j = k then _ else a) = some a
     rw [if_neg e]
  refine ⟨setBlock w bm (.map (es.modify j (fun e' => { e' with key := verA i.item, val := Value.agg (vecL (Vec.join (Know.vecOf l i.item) i.v)).toArray })) clock), ?_, ⟨_, _, hget _, ?_, ?_, ?_⟩, hgrow _⟩
  ·simp [Instr.mapUpdate, run_underlying Tryz.underlying120, MapKept.run_getObj_map hb, K.check w false hkey, f1, hj, f3, K.stays w hkey, MapKept.run_setObj_map _ hb, Result.andThen, setBlock]
  ·intro e he
   rw [hlist] at he
   obtain ⟨k, hk⟩ := List.getElem?_of_mem he
   rw [List.getElem?_set] at hk
   by_cases ejk : j = k
   ·rw [if_pos ejk] at hk
    split at hk
    ·injection hk with hk
     rw [← hk]
     exact ⟨i.item, hx, rfl, by rw [hself], by simp⟩
    ·exact absurd hjl (by assumption)
   ·rw [if_neg ejk] at hk
    have hm := List.mem_of_getElem? hk
    obtain ⟨y, hy, e1, e2, e3⟩ := h1 e hm
    have hne : y ≠ i.item := fun q => by
     obtain ⟨hkl, ek⟩ := List.getElem?_eq_some_iff.1 hk
     obtain ⟨hjl', ej⟩ := List.getElem?_eq_some_iff.1 f2
     have hkey2 : e.key = e0.key := by rw [e1, f3, q]
     rcases Nat.lt_or_gt_of_ne ejk with hlt2 | hlt2
     ·have := List.pairwise_iff_getElem.1 h3 j k hjl' hkl hlt2
      rw [ek, ej] at this
      exact this hkey2.symm
     ·have := List.pairwise_iff_getElem.1 h3 k j hkl hjl' hlt2
      rw [ek, ej] at this
      exact this hkey2
    exact ⟨y, hy, e1, by rw [hother y hne]; exact e2, by rw [List.map_append]; exact List.mem_append.2 (Or.inl e3)⟩
  ·intro x hxm
   rw [List.map_append] at hxm
   have hex : ∃ e ∈ es.toList, e.key = verA x := by
    rcases List.mem_append.1 hxm with hm | hm
    ·exact h2 x hm
    ·have : x = i.item := by simpa using hm
     rw [this]
     exact ⟨e0, List.mem_of_getElem? f2, f3⟩
   obtain ⟨e, he, e1⟩ := hex
   obtain ⟨k, hk⟩ := List.getElem?_of_mem he
   by_cases ejk : j = k
   ·subst ejk
    rw [f2] at hk
    injection hk with hk
    refine ⟨_, by rw [hlist]; exact List.mem_of_getElem? (List.getElem?_set_self hjl), ?_⟩
    rw [← e1, ← hk, f3]
   ·exact ⟨e, by rw [hlist]; exact List.mem_of_getElem? (by rw [List.getElem?_set_ne ejk]; exact hk), e1⟩
  ·rw [hlist]
   have hmap : (es.toList.set j ⟨verA i.item, Value.agg (vecL (Vec.join (Know.vecOf l i.item) i.v)).toArray, e0.born⟩).map (·.key) = es.toList.map (·.key) := by
    rw [List.map_set]
    apply List.ext_getElem?
    intro k
    rw [List.getElem?_set]
    by_cases e : j = k
    ·subst e
     rw [if_pos rfl, if_pos (by rw [List.length_map]; exact hjl), List.getElem?_map, f2]
     show some (verA i.item) = some e0.key
     rw [f3]
    ·rw [if_neg e]
   have h3' : (es.toList.map (·.key)).Pairwise (· ≠ ·) := List.pairwise_map.2 h3
   rw [← hmap] at h3'
   exact List.pairwise_map.1 h3'
end
open Go.RowKit
theorem it_places (parts : List (Nat × Value)) : Tryz.prog.built 45 parts = Instr.fill (#[(0, 2), (2, 65)][·]?) (itV itZ).toArray parts := by kernel_rfl
theorem it_built (x : Ver.V) {v : List Int} (hv : v.length = 65) : Tryz.prog.built 45 [(0, verA x), (1, .agg (vecL v).toArray)] = some (itV ⟨x, v⟩).toArray := by
 rw [it_places]
 have hs : (itV itZ).toArray.size = 67 := itZ_size
 have hvl : (vecL v).length = 65 := by rw [vecL_len, hv]
 obtain ⟨p1, p2⟩ := Great.foldl_set 0 (verV x) 0 (itV itZ).toArray
 generalize hc1 : ((verV x).zipIdx 0).foldl (fun cs (x : Value × Nat) => cs.setIfInBounds (0 + x.2) x.1) (itV itZ).toArray = c1 at *
 obtain ⟨q1, q2⟩ := Great.foldl_set 2 (vecL v) 0 c1
 have e1 : (verA x).cells = (verV x).toArray := rfl
 have e2 : (Value.agg (vecL v).toArray).cells = (vecL v).toArray := rfl
 have hfill : Instr.fill (#[(0, 2), (2, 65)][·]?) (itV itZ).toArray [(0, verA x), (1, .agg (vecL v).toArray)] = some (((vecL v).zipIdx 0).foldl (fun cs (x : Value × Nat) => cs.setIfInBounds (2 + x.2) x.1) c1) := by
  have s1 : ((verV x).toArray.zipIdx).foldl (fun cs (x : Value × Nat) => cs.setIfInBounds (0 + x.2) x.1) (itV itZ).toArray = c1 := by
   rw [← hc1, Array.zipIdx_toArray, List.foldl_toArray']
   simp
  have s2 : ((vecL v).toArray.zipIdx).foldl (fun cs (x : Value × Nat) => cs.setIfInBounds (2 + x.2) x.1) c1 = ((vecL v).zipIdx 0).foldl (fun cs (x : Value × Nat) => cs.setIfInBounds (2 + x.2) x.1) c1 := by
   rw [Array.zipIdx_toArray, List.foldl_toArray']
   simp
  unfold Instr.fill
  simp only [List.getElem?_toArray, List.getElem?_cons_zero, e1, List.size_toArray]
  rw [if_neg (by rw [it_len Vec.zeros_len]; simp [verV])]
  unfold Instr.fill
  simp only [List.getElem?_toArray, List.getElem?_cons_succ, List.getElem?_cons_zero, e2, List.size_toArray]
  rw [s1]
  rw [if_neg (by rw [p1, hs, hvl]; simp)]
  unfold Instr.fill
  rw [s2]
 rw [hfill]
 congr 1
 apply Array.ext_getElem?
 intro k
 have hr : (itV ⟨x, v⟩).toArray[k]? = (verV x ++ vecL v)[k]? := by rw [List.getElem?_toArray]; rfl
 rw [q2 k, p1, hs, hr]
 by_cases h : k < 2
 ·rw [if_neg (by omega), p2 k, hs, if_pos (by show 0 + 0 ≤ k ∧ k < 0 + 0 + 2 ∧ k < 67; omega), List.getElem?_append_left (by exact h)]
  simp
 ·by_cases h67 : k < 67
  ·rw [if_pos (by rw [hvl]; omega), List.getElem?_append_right (by show 2 ≤ k; omega)]
   rfl
  ·rw [if_neg (by omega), p2 k, hs, if_neg (by omega), List.getElem?_toArray, List.getElem?_eq_none (by rw [it_len Vec.zeros_len]; omega), List.getElem?_eq_none (by rw [List.length_append, hvl]; show 2 + 65 ≤ k; omega)]
theorem wpList_itbuild {ops : Array Oper} {rest : List Oper} {o : Oper} {a : Act} {w : World} {Q : Exit → Act → World → Prop} (hg : o.guard = none) (x y : Operand) (ho : o.op = .build 45 #[(0, x), (1, y)]) {i : Ver.V} {v : List Int} (hx : a.eval x = verA i) (hy : a.eval y = .agg (vecL v).toArray) (hv : v.length = 65)
  (h : wpList Tryz.prog ops Q rest (a.put o.dst (.agg (itV ⟨i, v⟩).toArray)) w) : wpList Tryz.prog ops Q (o :: rest) a w := by
 have hb := it_built i hv
 have e : (#[(0, x), (1, y)].map fun (i, x) => (i, a.eval x)).toList = [(0, verA i), (1, .agg (vecL v).toArray)] := by simp [hx, hy]
 refine wpList_build hg 45 _ ho (by rw [e, hb]; rfl) ?_
 rw [e, hb]
 exact h
theorem exec_itbuild {f : Operand → Value} {op : Oper} {x y : Operand} (ho : op.op = .build 45 #[(0, x), (1, y)]) {i : Ver.V} {v : List Int} (hx : f x = verA i) (hy : f y = .agg (vecL v).toArray) (hv : v.length = 65) (w : World) : (execOp f op).run Tryz.prog w = .ok (.value (.agg (itV ⟨i, v⟩).toArray)) w := by
 have hb := run_build w 45 #[(0, verA i), (1, .agg (vecL v).toArray)] _ (it_built i hv)
 have e : (#[(0, x), (1, y)].map fun (i, x) => (i, f x)) = #[(0, verA i), (1, .agg (vecL v).toArray)] := by simp [hx, hy]
 unfold execOp
 simp only [ho, e, Sem.run_bind, hb, Result.andThen_ok]
 rfl
theorem wpList_nstoreAt {ty : TypeId} {w : World} {cs : List Value} {ops : Array Oper} {rest : List Oper} {op : Oper} {a : Act} {Q : Exit → Act → World → Prop} {old : Array Value} {t : TypeId} {g : Nat} (hg : w.heap.size = g) (hw : Region.wanted op (yielded ops a.tmps) = true) (x y : Operand) (ho : op.op = .store ty x y) (hx : a.eval x = .pointer (some ⟨g, 0, none⟩)) (hy : a.eval y = .agg cs.toArray)
  (hi : (Tryz.prog.info? ty).map (·.size) = some cs.length) (hs : old.size = cs.length) (h1 : ∀ u ∈ cs, u.oneCell' = true)
  (k : wpList Tryz.prog ops Q rest (a.put op.dst undef) (w.alloc (.cells cs.toArray t))) : wpList Tryz.prog ops Q (op :: rest) a (w.alloc (.cells old t)) := by
 subst hg
 exact wpList_nstore hw x y ho hx hy hi hs h1 k
end Go.Proofs.YtkcgmnhjofoeiaaGreat
