import Derived.Test.YtgpeobmaneponaaCom2
import Derived.Test.YtgpeobmaneponaaCom7
import Derived.Test.YtgpeobmaneponaaCom3
import Derived.DeepKeys4
import Derived.Maps.Keyed
import Derived.WideKeyElems
import Derived.Great.Walk
set_option maxRecDepth 100000
set_option linter.unusedVariables false
set_option linter.unusedSimpArgs false
set_option maxHeartbeats 12800000
namespace Go.Proofs.Ytgpeobmaneponaa
open Go.RowKit Go.ChangeMaps
theorem ver_law : WideMaps.KeyLaw Try.prog 23 := deep_law_laid (m := 9) (by kernel_rfl) (by decide) (of_decide_eq_true (by kernel_rfl)) (by kernel_rfl) (by kernel_rfl)
theorem ver_wf {n : Int} (h : Ver.I64 n) : (Lit.int .i64 n).wf = true := by
 unfold Ver.I64 at h
 simp only [Lit.wf, Bool.and_eq_true, decide_eq_true_iff]
 have h1 : IntKind.i64.min = -9223372036854775808 := rfl
 have h2 : IntKind.i64.max = 9223372036854775807 := rfl
 omega
theorem ver_sized : ∃ m, Try.prog.types.size + 1 = m + 2 := ⟨_, rfl⟩
theorem ver_key {x : Ver.V} (h : Ver.Bd x) : ∃ l, keyOf Try.prog 23 (verA x) = some l := by
 have w1 := ver_wf h.1
 have w2 := ver_wf h.2
 have hc : Try.prog.cellsOf 23 = 2 := by kernel_rfl
 have hi : Try.prog.cellsOf 3 = 1 := by kernel_rfl
 have hkt : Try.prog.keyType 23 = true := by kernel_rfl
 obtain ⟨m, hm⟩ := ver_sized
 refine ⟨.string (keyBytes [.int .i64 x.by_, .int .i64 x.n]), ?_⟩
 unfold keyOf
 rw [hm]
 simp [Try.underlying23, hkt, Value.formed, hc, Program.keyLits, Try.underlying3, hi, w1, w2, Value.cells]
theorem verA_inj {x y : Ver.V} (h : verA x = verA y) : x = y := by
 cases x; cases y
 simpa using h
abbrev Ver.Fn := Ver.V → Option Value
def Ver.set (m : Ver.Fn) (x : Ver.V) (v : Value) : Ver.Fn := fun y => if y = x then some v else m y
def VmAt (w : World) (bm : Nat) (m : Ver.Fn) : Prop := ∃ es clock, w.heap[bm]? = some (.map es clock) ∧ (∀ e ∈ es.toList, ∃ x : Ver.V, Ver.Bd x ∧ e.key = verA x ∧ m x = some e.val) ∧
 (∀ x v, m x = some v → ∃ e ∈ es.toList, e.key = verA x) ∧ es.toList.Pairwise (fun a b => a.key ≠ b.key)
section
variable {w w' : World} {bm : Nat} {m : Ver.Fn} {T E : TypeId} {z : Value}
theorem VmAt.lt (h : VmAt w bm m) : bm < w.heap.size := by
 obtain ⟨es, clock, hb, -⟩ := h
 exact (Array.getElem?_eq_some_iff.1 hb).1
theorem VmAt.kept {G : Nat → Prop} (h : VmAt w bm m) (k : Kept G w w') (hd : ¬ G bm) : VmAt w' bm m := by
 have hl := h.lt
 obtain ⟨es, clock, hb, r⟩ := h
 exact ⟨es, clock, (k.block bm hl hd).trans hb, r⟩
theorem VmAt.below (h : VmAt w bm m) (k : Below w.heap.size w w') : VmAt w' bm m := h.kept (Kept.ofBelow k (fun _ => False)) (fun h => h)
theorem VmAt.made (w : World) : VmAt (w.alloc (.map #[] 0)) w.heap.size (fun _ => none) := ⟨#[], 0, Array.getElem?_push_size, fun e h => absurd h (List.not_mem_nil), fun x v h => (by cases h), List.Pairwise.nil⟩
def Ver.got (m : Ver.Fn) (z : Value) (x : Ver.V) : Value := .tuple #[(m x).getD z, .bool (m x).isSome]
theorem VmAt.look (h : VmAt w bm m) (hu : Try.prog.underlying T = some (.map 23 E)) (hz : (zeroValue E).run Try.prog w = .ok z w) {x : Ver.V} (hx : Ver.Bd x) : (Instr.lookup T (.map (some bm)) (verA x) true).run Try.prog w = .ok (Ver.got m z x) w := by
 obtain ⟨es, clock, hb, h1, h2, h3⟩ := h
 have K := ver_law
 obtain ⟨kl, hkey⟩ := ver_key hx
 unfold Ver.got
 rcases K.find w hkey es.toList (fun e he => by obtain ⟨y, hy, e1, -⟩ := h1 e he; rw [e1]; exact ver_key hy) with ⟨f1, f2⟩ | ⟨j, e0, f1, f2, f3⟩
 ·have hn : m x = none := by
   cases hm : m x with
   | none => rfl
   | some v =>
    obtain ⟨e, he, e1⟩ := h2 x v hm
    exact absurd e1 (f2 e he)
  rw [hn]
  simp [Instr.lookup, run_underlying hu, MapKept.run_getObj_map hb, K.check w _ hkey, f1, hz, Result.andThen]
 ·obtain ⟨y, hy, e1, e2⟩ := h1 e0 (List.mem_of_getElem? f2)
  have hxy : y = x := verA_inj (e1.symm.trans f3)
  subst hxy
  rw [e2]
  simp [Instr.lookup, run_underlying hu, MapKept.run_getObj_map hb, K.check w _ hkey, f1, Result.andThen]
theorem VmAt.put (h : VmAt w bm m) (hu : Try.prog.underlying T = some (.map 23 E)) {x : Ver.V} (hx : Ver.Bd x) (v : Value) :
  ∃ w', (Instr.mapUpdate T (.map (some bm)) (verA x) v).run Try.prog w = .ok () w' ∧ VmAt w' bm (Ver.set m x v) ∧ w.grownBy w' (some bm) := by
 have hlt := h.lt
 obtain ⟨es, clock, hb, h1, h2, h3⟩ := h
 have K := ver_law
 obtain ⟨kl, hkey⟩ := ver_key hx
 have hself : Ver.set m x v x = some v := by unfold Ver.set; rw [if_pos rfl]
 have hother : ∀ y, y ≠ x → Ver.set m x v y = m y := fun y hy => by unfold Ver.set; rw [if_neg hy]
 have hgrow : ∀ o : Obj, w.grownBy (setBlock w bm o) (some bm) := fun o => ⟨rfl, rfl, rfl, by simp [setBlock], fun k hk hne => by
  have hne : bm ≠ k := fun e => hne (by rw [e])
  simp [setBlock, Array.getElem?_setIfInBounds, hne]⟩
 have hget : ∀ o : Obj, (setBlock w bm o).heap[bm]? = some o := fun o => by simp [setBlock, hlt]
 rcases K.find w hkey es.toList (fun e he => by obtain ⟨y, hy, e1, -⟩ := h1 e he; rw [e1]; exact ver_key hy) with ⟨f1, f2⟩ | ⟨j, e0, f1, f2, f3⟩
 ·refine ⟨setBlock w bm (.map (es.push ⟨verA x, v, clock⟩) (clock + 1)), ?_, ⟨_, _, hget _, ?_, ?_, ?_⟩, hgrow _⟩
  ·simp [Instr.mapUpdate, run_underlying hu, MapKept.run_getObj_map hb, K.check w false hkey, f1, MapKept.run_setObj_map _ hb, Result.andThen, setBlock]
  ·intro e he
   rw [Array.toList_push] at he
   rcases List.mem_append.1 he with he | he
   ·obtain ⟨y, hy, e1, e2⟩ := h1 e he
    have hne : y ≠ x := fun q => f2 e he (by rw [e1, q])
    exact ⟨y, hy, e1, by rw [hother y hne]; exact e2⟩
   ·rw [List.mem_singleton.1 he]
    exact ⟨x, hx, rfl, hself⟩
  ·intro y u hy
   by_cases e : y = x
   ·exact ⟨⟨verA x, v, clock⟩, by rw [Array.toList_push]; simp, by rw [e]⟩
   ·rw [hother y e] at hy
    obtain ⟨e, he, e1⟩ := h2 y u hy
    exact ⟨e, by rw [Array.toList_push]; exact List.mem_append.2 (Or.inl he), e1⟩
  ·rw [Array.toList_push]
   refine List.pairwise_append.2 ⟨h3, List.pairwise_singleton .., fun a ha b hb' => ?_⟩
   rw [List.mem_singleton.1 hb']
   exact f2 a ha
 ·have hj : es[j]? = some e0 := by simpa using f2
  have hjl : j < es.toList.length := (List.getElem?_eq_some_iff.1 f2).1
  have hlist : (es.modify j (fun e' => { e' with key := verA x, val := v })).toList = es.toList.set j ⟨verA x, v, e0.born⟩ := by
   rw [Array.toList_modify]
   apply List.ext_getElem?
   intro k
   rw [List.getElem?_modify, List.getElem?_set]
   by_cases e : j = k
   ·subst e
    rw [f2, if_pos rfl, if_pos hjl]
    show some (if j = j then _ else _) = _
    rw [if_pos rfl]
   ·rw [if_neg e]
    cases es.toList[k]? with
    | none => rfl
    | some a =>
     show some (if j = k then _ else a) = some a
     rw [if_neg e]
  refine ⟨setBlock w bm (.map (es.modify j (fun e' => { e' with key := verA x, val := v })) clock), ?_, ⟨_, _, hget _, ?_, ?_, ?_⟩, hgrow _⟩
  ·simp [Instr.mapUpdate, run_underlying hu, MapKept.run_getObj_map hb, K.check w false hkey, f1, hj, f3, K.stays w hkey, MapKept.run_setObj_map _ hb, Result.andThen, setBlock]
  ·intro e he
   rw [hlist] at he
   obtain ⟨k, hk⟩ := List.getElem?_of_mem he
   rw [List.getElem?_set] at hk
   by_cases ejk : j = k
   ·rw [if_pos ejk] at hk
    split at hk
    ·injection hk with hk
     rw [← hk]
     exact ⟨x, hx, rfl, hself⟩
    ·exact absurd hjl (by assumption)
   ·rw [if_neg ejk] at hk
    have hm := List.mem_of_getElem? hk
    obtain ⟨y, hy, e1, e2⟩ := h1 e hm
    have hne : y ≠ x := fun q => by
     obtain ⟨hkl, ek⟩ := List.getElem?_eq_some_iff.1 hk
     obtain ⟨hjl', ej⟩ := List.getElem?_eq_some_iff.1 f2
     have hkey2 : e.key = e0.key := by rw [e1, f3, q]
     rcases Nat.lt_or_gt_of_ne ejk with hlt2 | hlt2
     ·have := List.pairwise_iff_getElem.1 h3 j k hjl' hkl hlt2
      rw [ek, ej] at this
      exact this hkey2.symm
     ·have := List.pairwise_iff_getElem.1 h3 k j hkl hjl' hlt2
      rw [ek, ej] at this
      exact this hkey2
    exact ⟨y, hy, e1, by rw [hother y hne]; exact e2⟩
  ·intro y u hy
   have hex : ∃ e ∈ es.toList, e.key = verA y := by
    by_cases e : y = x
    ·rw [e]
     exact ⟨e0, List.mem_of_getElem? f2, f3⟩
    ·rw [hother y e] at hy
     exact h2 y u hy
   obtain ⟨e, he, e1⟩ := hex
   obtain ⟨k, hk⟩ := List.getElem?_of_mem he
   by_cases ejk : j = k
   ·subst ejk
    rw [f2] at hk
    injection hk with hk
    refine ⟨_, by rw [hlist]; exact List.mem_of_getElem? (List.getElem?_set_self hjl), ?_⟩
    rw [← e1, ← hk, f3]
   ·exact ⟨e, by rw [hlist]; exact List.mem_of_getElem? (by rw [List.getElem?_set_ne ejk]; exact hk), e1⟩
  ·rw [hlist]
   have hmap : (es.toList.set j ⟨verA x, v, e0.born⟩).map (·.key) = es.toList.map (·.key) := by
    rw [List.map_set]
    apply List.ext_getElem?
    intro k
    rw [List.getElem?_set]
    by_cases e : j = k
    ·subst e
     rw [if_pos rfl, if_pos (by rw [List.length_map]; exact hjl), List.getElem?_map, f2]
     show some (verA x) = some e0.key
     rw [f3]
    ·rw [if_neg e]
   have h3' : (es.toList.map (·.key)).Pairwise (· ≠ ·) := List.pairwise_map.2 h3
   rw [← hmap] at h3'
   exact List.pairwise_map.1 h3'
end
end Go.Proofs.Ytgpeobmaneponaa
namespace Go.Proofs.Ytgpeobmaneponaa
open Go.RowKit Go.Sort
def Upd.bestFn (l : List Upd.U) : Ver.Fn := fun x => (Upd.best l x).map fun u => upA u
theorem bestFn_take {l : List Upd.U} {i : Nat} {u : Upd.U} (hu : l[i]? = some u) (h : ∀ b, Upd.best (l.take i) u.item = some b → Upd.Wins u b) : Upd.bestFn (l.take (i + 1)) = Ver.set (Upd.bestFn (l.take i)) u.item (upA u) := by
 funext x
 unfold Upd.bestFn Ver.set
 rw [Upd.best_take l x i u hu]
 unfold Upd.step
 by_cases e : x = u.item
 ·subst e
  rw [if_pos rfl, if_pos rfl]
  cases hb : Upd.best (l.take i) u.item with
  | none => rfl
  | some b =>
   simp only
   rw [if_pos (h b hb)]
   rfl
 ·rw [if_neg e, if_neg (fun q => e q.symm)]
theorem bestFn_stay {l : List Upd.U} {i : Nat} {u b : Upd.U} (hu : l[i]? = some u) (hb : Upd.best (l.take i) u.item = some b) (h : ¬ Upd.Wins u b) : Upd.bestFn (l.take (i + 1)) = Upd.bestFn (l.take i) := by
 funext x
 unfold Upd.bestFn
 rw [Upd.best_take l x i u hu]
 unfold Upd.step
 by_cases e : u.item = x
 ·subst e
  rw [if_pos rfl, hb]
  simp only
  rw [if_neg h]
 ·rw [if_neg e]
abbrev Upd.zeroA : Value := .agg #[.int .i64 0, .int .i64 0, .int .i64 0, .int .i64 0, .int .i64 0, .string ⟨#[]⟩, .string ⟨#[]⟩, .bool false]
theorem upZero (w : World) : (zeroValue 27).run Try.prog w = .ok Upd.zeroA w := by kernel_rfl
theorem best_got (l : List Upd.U) (x : Ver.V) : Ver.got (Upd.bestFn l) Upd.zeroA x = .tuple #[upA ((Upd.best l x).getD Upd.zeroU), .bool (Upd.best l x).isSome] := by
 unfold Ver.got Upd.bestFn
 cases Upd.best l x <;> rfl
theorem cho_asks {w : World} {cb bm : Nat} {l : List Upd.U} (h0 : w.cell? ⟨cb, 0, none⟩ = some (.map (some bm))) (hcb : cb < w.heap.size) (hM : VmAt w bm (Upd.bestFn l)) (x : Ver.V) (hx : Ver.Bd x) :
  Calls Try.prog 53 #[verA x, .pointer (some ⟨cb, 0, none⟩)] w fun e w' => e = .returned (.tuple #[upA ((Upd.best l x).getD Upd.zeroU), .bool (Upd.best l x).isSome]) ∧ Below w.heap.size w w' := by
 obtain ⟨W0, hW0⟩ : ∃ W0, W0 = (w.alloc (.cells #[.int .i64 x.by_, .int .i64 x.n] 23)).alloc (.cells #[.int .i64 0, .int .i64 0, .int .i64 0, .int .i64 0, .int .i64 0, .string ⟨#[]⟩, .string ⟨#[]⟩, .bool false] 27) := ⟨_, rfl⟩
 have hb0 : Below w.heap.size w W0 := by rw [hW0]; exact ((Below.refl _ _).alloc (Nat.le_refl _) _).alloc (by simp) _
 have hlk := (hM.below hb0).look (T := 84) Try.underlying84 (upZero W0) hx
 rw [best_got] at hlk
 have c0 : W0.cell? ⟨cb, 0, none⟩ = some (.map (some bm)) := (hb0.cell (p := ⟨cb, 0, none⟩) hcb).trans h0
 have hs0 : W0.heap.size = w.heap.size + 1 + 1 := by rw [hW0]; simp
 have r1 : Row W0 (w.heap.size + 1) 27 #[.int .i64 0, .int .i64 0, .int .i64 0, .int .i64 0, .int .i64 0, .string ⟨#[]⟩, .string ⟨#[]⟩, .bool false] := by
  rw [hW0]
  have := Row.made (w.alloc (.cells #[.int .i64 x.by_, .int .i64 x.n] 23)) 27 #[.int .i64 0, .int .i64 0, .int .i64 0, .int .i64 0, .int .i64 0, .string ⟨#[]⟩, .string ⟨#[]⟩, .bool false]
  rwa [World.size_alloc] at this
 generalize (Upd.best l x).getD Upd.zeroU = u at *
 generalize (Upd.best l x).isSome = is at *
 obtain ⟨⟨i1, i2⟩, ⟨t, ⟨v1, v2⟩⟩, p, d, dd⟩ := u
 obtain ⟨x1, x2⟩ := x
 dsimp only [upA, verA] at *
 generalize mk p = y1 at *
 generalize mk d = y2 at *
 have R3 := Lib.hid (r1.behindNew (.cells #[.int .i64 i1, .int .i64 i2, .int .i64 v1, .int .i64 v2, .int .i64 t, .string y1, .string y2, .bool dd] 27))
 have B3 : Hid (Below w.heap.size w (W0.alloc (.cells #[.int .i64 i1, .int .i64 i2, .int .i64 v1, .int .i64 v2, .int .i64 t, .string y1, .string y2, .bool dd] 27))) := Lib.hid (hb0.alloc hb0.size _)
 have Hsz : Hid ((Try.prog.info? 27).map (·.size) = some 8) := Lib.hid (by kernel_rfl)
 rw [hW0] at hlk c0 R3 B3
 clear hM h0 r1 hs0 hb0 hW0 W0
 go_enter Try.func53, Try.ntmps53
 go_wp2_with (refine wpList_rstore (cs := [.int .i64 i1, .int .i64 i2, .int .i64 v1, .int .i64 v2, .int .i64 t, .string y1, .string y2, .bool dd]) (by rfl) (.tmp 3) (.tmp 13) (by rfl) (by rfl) (by rfl) R3.out Hsz.out rfl (by simp [Value.oneCell']) ?_)
 rintro w3 hr3 hk3
 have B4 := Lib.hid (B3.out.trans (hk3.below B3.out.size (fun i e => by omega)))
 have R4 := Lib.hid hr3
 clear hr3 hk3 hlk c0
 go_wp2_with fail
 refine bodyPost_ret (v := .tuple #[.agg #[.int .i64 i1, .int .i64 i2, .int .i64 v1, .int .i64 v2, .int .i64 t, .string y1, .string y2, .bool dd], .bool is]) ?_ rfl ⟨rfl, B4.out⟩
 rw [results_cell_tmp (by rfl)]
 have hl := run_loadVar_row (P := Try.prog) _ (w.heap.size + 1) 27 27 _ (0, 0) _ R4.out Try.underlying27 rfl Hsz.out
 simp [asAddr, hl, Result.andThen]
theorem up_lies {w : World} {b o : Nat} {cs : List Value} (h : w.rangeAt b o cs) (hl : cs.length = 8) : Lies 27 w b o cs :=
 ⟨h, ⟨_, Try.underlying27, rfl⟩, by rw [hl]; kernel_rfl⟩
theorem up_lies_row {w : World} {b : Nat} {t : TypeId} {cs : List Value} (h : Row w b t cs.toArray) (hl : cs.length = 8) : Lies 27 w b 0 cs := up_lies (range_row h) hl
def Chosen (w : World) (fv : Value) (l : List Upd.U) : Prop := ∃ cb bm, fv = .func (.func 53) #[] #[.pointer (some ⟨cb, 0, none⟩)] ∧ cb < w.heap.size ∧ w.cell? ⟨cb, 0, none⟩ = some (.map (some bm)) ∧ VmAt w bm (Upd.bestFn l)
theorem upd_chooser (V : VersOk) {w : World} {F : Nat → Prop} {v : Value} {l : List Upd.U} (h : Ups w F v l) (hl : l.length ≤ 100000) (hb : ∀ u ∈ l, Upd.Bd u) :
  Calls Try.prog 37 #[v] w fun e w' => ∃ fv, e = .returned fv ∧ Chosen w' fv l ∧ Below w.heap.size w w' := by
 have hmk := @run_makeMap Try.prog
 obtain ⟨A, cap, rfl, -⟩ := h.parts
 obtain ⟨W0, hW0⟩ : ∃ W0, W0 = (w.alloc (.map #[] 0)).alloc (.cells #[.map (some w.heap.size)] 84) := ⟨_, rfl⟩
 have hb0 : Below w.heap.size w W0 := by rw [hW0]; exact ((Below.refl _ _).alloc (Nat.le_refl _) _).alloc (by simp) _
 have r0 : Row W0 (w.heap.size + 1) 84 #[.map (some w.heap.size)] := by
  rw [hW0]
  have := Row.made (w.alloc (.map #[] 0)) 84 #[.map (some w.heap.size)]
  rwa [World.size_alloc] at this
 have m0 : VmAt W0 w.heap.size (Upd.bestFn []) := by
  rw [hW0]
  exact (VmAt.made w).below ((Below.refl _ _).alloc (Nat.le_refl _) _)
 have H := Lib.hid h
 have HB0 := Lib.hid hb0
 have R0 := Lib.hid r0
 have M0 := Lib.hid m0
 have Hbd := Lib.hid hb
 have hl' : (l.length : Int) ≤ 100000 := by omega
 have W := Lib.hid (fun a b W => upd_wins V a b W)
 clear h hb hb0 r0 m0 hl
 go_enter Try.func37, Try.ntmps37
 go_wp2_with fail
 rw [← hW0]
 clear hW0
 go_loopw [11] (fun i wr => ∃ k : Nat, k ≤ l.length ∧ i = .int .i64 (k : Int) ∧ Hid (VmAt wr w.heap.size (Upd.bestFn (l.take k))) ∧ Hid (Row wr (w.heap.size + 1) 84 #[.map (some w.heap.size)]) ∧ Hid (Below w.heap.size w wr)) (fun i _ => l.length - (intOf i).toNat)
 case atStart => exact ⟨0, Nat.zero_le _, rfl, M0, R0, HB0⟩
 case round =>
  obtain ⟨k, hk, rfl, hM, hR, hB⟩ := hrel
  by_cases hlt : k < l.length
  ·obtain ⟨u, hu⟩ : ∃ u, l[k]? = some u := ⟨_, List.getElem?_eq_getElem hlt⟩
   obtain ⟨b, o, rfl, -, -⟩ : ∃ b o, A = some ⟨b, o, none⟩ ∧ True ∧ True := by
    obtain ⟨b, o, c, e, -⟩ := H.out.block (by omega)
    injection e with e1
    exact ⟨b, o, e1, trivial, trivial⟩
   have hbu := Hbd.out u (List.mem_of_getElem? hu)
   have LE := Lib.hid (up_lies (range_rws (Rws.below H.out hB.out) hu) (up_len u))
   have hA : Below wr.heap.size wr (wr.alloc (.cells (upV u).toArray 27)) := (Below.refl _ _).alloc (Nat.le_refl _) _
   have mA := hM.out.below hA
   have rA := hR.out.below hA hR.out.inHeap
   have cA := rA.at 0
   have uA := Row.made wr 27 (upV u).toArray
   have hlk := mA.look (T := 84) Try.underlying84 (upZero _) hbu.item
   rw [best_got] at hlk
   have hk0 : (0 : Int) ≤ (k : Int) := by omega
   have hk1 : (k : Int) < (l.length : Int) := by omega
   have hA' := Lib.hid (hB.out.trans (hA.mono hB.out.size))
   have hbl : w.heap.size < wr.heap.size := hM.out.lt
   cases hbest : Upd.best (l.take k) u.item with
   | none =>
    rw [hbest] at hlk
    have hfn := Lib.hid (bestFn_take hu (fun b h => by rw [hbest] at h; cases h))
    obtain ⟨⟨i1, i2⟩, ⟨t, ⟨v1, v2⟩⟩, p, d, dd⟩ := u
    dsimp only [upA, verA, upV, Option.getD, Option.isSome] at *
    replace hlk : (Instr.lookup 84 (.map (some w.heap.size)) (.agg #[.int .i64 i1, .int .i64 i2]) true).run Try.prog (wr.alloc (.cells #[.int .i64 i1, .int .i64 i2, .int .i64 v1, .int .i64 v2, .int .i64 t, .string (mk p), .string (mk d), .bool dd] 27)) = .ok (.tuple #[.agg #[.int .i64 0, .int .i64 0, .int .i64 0, .int .i64 0, .int .i64 0, .string ⟨#[]⟩, .string ⟨#[]⟩, .bool false], .bool false]) (wr.alloc (.cells #[.int .i64 i1, .int .i64 i2, .int .i64 v1, .int .i64 v2, .int .i64 t, .string (mk p), .string (mk d), .bool dd] 27)) := hlk
    generalize mk p = y1 at *
    generalize mk d = y2 at *
    have hA2 : Below (wr.alloc (.cells #[.int .i64 i1, .int .i64 i2, .int .i64 v1, .int .i64 v2, .int .i64 t, .string y1, .string y2, .bool dd] 27)).heap.size (wr.alloc (.cells #[.int .i64 i1, .int .i64 i2, .int .i64 v1, .int .i64 v2, .int .i64 t, .string y1, .string y2, .bool dd] 27)) ((wr.alloc (.cells #[.int .i64 i1, .int .i64 i2, .int .i64 v1, .int .i64 v2, .int .i64 t, .string y1, .string y2, .bool dd] 27)).alloc (.cells #[.int .i64 0, .int .i64 0, .int .i64 0, .int .i64 0, .int .i64 0, .string ⟨#[]⟩, .string ⟨#[]⟩, .bool false] 27)) := (Below.refl _ _).alloc (Nat.le_refl _) _
    obtain ⟨w3, hput, m3, g3⟩ := (mA.below hA2).put (T := 84) Try.underlying84 hbu.item (.agg #[.int .i64 i1, .int .i64 i2, .int .i64 v1, .int .i64 v2, .int .i64 t, .string y1, .string y2, .bool dd])
    dsimp only [verA] at hput
    have cA2 := (rA.below hA2 rA.inHeap).at 0
    have R3 := Lib.hid ((rA.below hA2 rA.inHeap).kept (Kept.ofGrown (F := fun i => i = w.heap.size) g3 (fun i h => (Option.some.inj h).symm)) (by omega))
    have B3 := Lib.hid ((hA'.out.trans (hA2.mono hA'.out.size)).grown g3 (Nat.le_trans hA'.out.size hA2.size) (fun j hj => by have := Option.some.inj hj; omega))
    have M3 : Hid (VmAt w3 w.heap.size (Upd.bestFn (l.take (k + 1)))) := Lib.hid (by rw [hfn.out]; exact m3)
    clear hA hA2 mA rA uA m3 g3 hfn hbest hu hbu hM hR hB
    go_wp2_with (refine wpList_mload (by rfl) _ (by rfl) (by rfl) LE.out ?_)
    exact ⟨⟨k + 1, by omega, by go_num, M3, R3, B3⟩, by show l.length - ((k : Int) + 1).toNat < l.length - (k : Int).toNat; omega⟩
   | some b' =>
    rw [hbest] at hlk
    have WI := Lib.hid (W.out u b')
    have hfT := Lib.hid (fun hw : Upd.Wins u b' => bestFn_take hu (fun b h => by rw [hbest] at h; injection h with h; rw [← h]; exact hw))
    have hfF := Lib.hid (fun hw : ¬ Upd.Wins u b' => bestFn_stay hu hbest hw)
    have hdec : ∃ q : Bool, q = decide (Upd.Wins u b') := ⟨_, rfl⟩
    obtain ⟨q, hq⟩ := hdec
    rw [← hq] at WI
    have HT := Lib.hid (fun h : q = true => hfT.out (of_decide_eq_true (hq ▸ h)))
    have HF := Lib.hid (fun h : q = false => hfF.out (of_decide_eq_false (hq ▸ h)))
    clear hq hfT hfF hbest hu
    obtain ⟨⟨i1, i2⟩, ⟨t, ⟨v1, v2⟩⟩, p, d, dd⟩ := u
    obtain ⟨⟨j1, j2⟩, ⟨s, ⟨u1, u2⟩⟩, p2, d', d2⟩ := b'
    dsimp only [upA, verA, upV, Option.getD, Option.isSome] at *
    generalize mk p = y1 at *
    generalize mk d = y2 at *
    generalize mk p2 = z1 at *
    generalize mk d' = z2 at *
    obtain ⟨W2, hW2⟩ : ∃ W2, W2 = (wr.alloc (.cells #[.int .i64 i1, .int .i64 i2, .int .i64 v1, .int .i64 v2, .int .i64 t, .string y1, .string y2, .bool dd] 27)).alloc (.cells #[.int .i64 j1, .int .i64 j2, .int .i64 u1, .int .i64 u2, .int .i64 s, .string z1, .string z2, .bool d2] 27) := ⟨_, rfl⟩
    have hA2 : Below (wr.alloc (.cells #[.int .i64 i1, .int .i64 i2, .int .i64 v1, .int .i64 v2, .int .i64 t, .string y1, .string y2, .bool dd] 27)).heap.size (wr.alloc (.cells #[.int .i64 i1, .int .i64 i2, .int .i64 v1, .int .i64 v2, .int .i64 t, .string y1, .string y2, .bool dd] 27)) W2 := by rw [hW2]; exact (Below.refl _ _).alloc (Nat.le_refl _) _
    have X2 := Lib.hid (⟨mA.below hA2, rA.below hA2 rA.inHeap, uA.below hA2 uA.inHeap, hA'.out.trans (hA2.mono hA'.out.size)⟩ : VmAt W2 w.heap.size (Upd.bestFn (l.take k)) ∧ Row W2 (w.heap.size + 1) 84 #[.map (some w.heap.size)] ∧ Row W2 wr.heap.size 27 #[.int .i64 i1, .int .i64 i2, .int .i64 v1, .int .i64 v2, .int .i64 t, .string y1, .string y2, .bool dd] ∧ Below w.heap.size w W2)
    have HW2 := Lib.hid hW2
    clear hA hA2 mA rA uA hM hR hB hA'
    go_wp2_with (refine wpList_mload (by rfl) _ (by rfl) (by rfl) LE.out ?_)
    rw [← hW2]
    refine (WI.out W2).mono ?_
    rintro e w3 ⟨rfl, hl3⟩
    have b3 := hl3.below
    have M3 := Lib.hid (X2.out.1.below b3)
    have R3 := Lib.hid (X2.out.2.1.below b3 X2.out.2.1.inHeap)
    have U3 := X2.out.2.2.1.below b3 X2.out.2.2.1.inHeap
    have B3 := Lib.hid (X2.out.2.2.2.trans (b3.mono X2.out.2.2.2.size))
    have Hbu := Lib.hid hbu.item
    clear X2 hl3 b3 hW2 HW2 hlk cA WI hbu
    cases q with
    | false =>
     have M4 : Hid (VmAt w3 w.heap.size (Upd.bestFn (l.take (k + 1)))) := Lib.hid (by rw [HF.out rfl]; exact M3.out)
     clear M3 U3
     go_wp2_with fail
     exact ⟨⟨k + 1, by omega, by go_num, M4, R3, B3⟩, by show l.length - ((k : Int) + 1).toNat < l.length - (k : Int).toNat; omega⟩
    | true =>
     obtain ⟨w4, hput, m4, g4⟩ := M3.out.put (T := 84) Try.underlying84 Hbu.out (.agg #[.int .i64 i1, .int .i64 i2, .int .i64 v1, .int .i64 v2, .int .i64 t, .string y1, .string y2, .bool dd])
     dsimp only [verA] at hput
     have R4 := Lib.hid (R3.out.kept (Kept.ofGrown (F := fun i => i = w.heap.size) g4 (fun i h => (Option.some.inj h).symm)) (by omega))
     have B4 := Lib.hid (B3.out.grown g4 B3.out.size (fun j hj => by have := Option.some.inj hj; omega))
     have M4 : Hid (VmAt w4 w.heap.size (Upd.bestFn (l.take (k + 1)))) := Lib.hid (by rw [HT.out rfl]; exact m4)
     have c3 := R3.out.at 0
     have c4 := U3.at 0
     have c5 := U3.at 1
     have LU := Lib.hid (up_lies_row (cs := [.int .i64 i1, .int .i64 i2, .int .i64 v1, .int .i64 v2, .int .i64 t, .string y1, .string y2, .bool dd]) U3 rfl)
     clear M3 U3 m4 g4
     go_wp2_with (refine wpList_mload (by rfl) _ (by rfl) (by rfl) LU.out ?_)
     exact ⟨⟨k + 1, by omega, by go_num, M4, R4, B4⟩, by show l.length - ((k : Int) + 1).toNat < l.length - (k : Int).toNat; omega⟩
  ·obtain rfl : k = l.length := by omega
   have HM : Hid (VmAt wr w.heap.size (Upd.bestFn l)) := Lib.hid (by have := hM.out; rwa [List.take_length] at this)
   clear hM
   go_wp2_with fail
   go_ret
   exact ⟨_, rfl, ⟨_, _, rfl, hR.out.inHeap, hR.out.at 0, HM.out⟩, hB.out⟩
end Go.Proofs.Ytgpeobmaneponaa
