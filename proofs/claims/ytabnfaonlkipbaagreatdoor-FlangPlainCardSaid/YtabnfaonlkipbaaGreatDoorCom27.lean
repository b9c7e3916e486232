/- The landed sizes: Meet, Minus, Covers, Same, Many. -/
import Derived.Test.YtabnfaonlkipbaaGreatDoorCom26
import Derived.Test.YtabnfaonlkipbaaGreatDoorCom14
import Derived.Test.YtabnfaonlkipbaaGreatDoorCom25
import Derived.Test.YtabnfaonlkipbaaGreatDoorCom19
import Derived.Test.YtabnfaonlkipbaaGreatDoorCom6
import Derived.Test.YtabnfaonlkipbaaGreatDoorCom5
import Derived.Test.YtabnfaonlkipbaaGreatDoorCom4
import Derived.Shelf.Spec.SlicesGrow
import Derived.Handed
import Derived.Stop.LaidErr
import Derived.Shelf.Vars
import Derived.Deep.Fields
set_option linter.unusedSimpArgs false
set_option linter.unusedVariables false
namespace Go.Proofs.YtabnfaonlkipbaaGreatDoor
open Go.RowKit

section
variable {w : World} {F G : Nat → Prop} {u v : Value} {a b l : List Sz.Rg}

set_option maxRecDepth 100000 in
theorem sz_minus (ha : Rgs w F u a) (hb : Rgs w G v b) (la : a.length ≤ 1000000) (lb : b.length ≤ 1000000) :
    Calls Tryz.prog 49 #[u, v] w fun e w' => ∃ v', e = .returned v' ∧ Rgs w' (NewIn w w') v' (Sz.two 2 a b) ∧ Below w.heap.size w w' := by
  have HP := Lib.hid (sz_part ha hb la lb)
  clear ha hb
  go_enter Tryz.func49, Tryz.ntmps49
  go_wp2_with fail
  refine (HP.out).mono ?_
  rintro e w1 ⟨vi, vo, rfl, g1, g2, g3⟩
  have G2 := Lib.hid g2
  have G3 := Lib.hid g3
  clear g1 g2 g3
  go_wp2_with fail
  go_ret
  exact ⟨vo, rfl, G2.out, G3.out⟩

set_option maxRecDepth 100000 in
theorem wide_take {l : List Sz.Rg} {n : Nat} {x : Sz.Rg} (hx : l[n]? = some x) : Sz.wide (l.take (n + 1)) = Sz.wide (l.take n) + (x.2 - x.1 + 1) := by
  obtain ⟨hl, he⟩ := List.getElem?_eq_some_iff.1 hx
  unfold Sz.wide
  rw [List.take_succ_eq_append_getElem hl, he, List.map_append, List.sum_append]
  simp

end
end Go.Proofs.YtabnfaonlkipbaaGreatDoor
/- The landed sizes: Join. -/
set_option linter.unusedSimpArgs false
set_option linter.unusedVariables false
namespace Go.Proofs.YtabnfaonlkipbaaGreatDoor
open Go.RowKit Go.Shelf Go.Lib

set_option maxRecDepth 100000 in
/-- Room for so many. -/
theorem sz_grow (n : Nat) (hn : n ≤ 2000000) (w : World) :
    Calls Tryz.prog 113 #[.slice none 0 0, .int .i64 (n : Int)] w fun e w' => ∃ v, e = .returned v ∧ RowsOwn 40 2 rgV w [] v w' := by
  obtain ⟨i0, hi0, hz0, hz1, hz2⟩ := info_parts rangeInfo
  by_cases h0 : n = 0
  · subst h0
    refine (Any8.slices_Grow_room Tryz.growRg none 0 0 0 w (Nat.le_refl _) (by omega) (by omega) (by omega)).mono ?_
    rintro e w' ⟨rfl, rfl⟩
    exact ⟨_, rfl, RowsOwn.start _ _ _ _⟩
  · refine (Any8.slices_Grow_grow Tryz.growRg i0 (.agg #[.int .i64 0, .int .i64 0]) hi0 hz0 (by omega) none 0 0 n [] w (Nat.le_refl _) (by omega) (by rw [hz2]; omega) (by omega) (by simp) (fun _ => rfl) (fun a h => by cases h)).mono ?_
    rintro e w' ⟨rfl, rfl⟩
    refine ⟨_, rfl, ?_, ((Below.refl _ w).drew).alloc (Nat.le_refl _) _⟩
    have hG := grownCap_ge w (0 + n) 0 (Tryz.growRg_ren.t 25)
    have hM := grownCap_le_maxLen w (0 + n) 0 (Tryz.growRg_ren.t 25) (by unfold maxLen; omega)
    refine World.ownsRow_made w.drew _ _ (Nat.le_refl _) hM ?_
    have hzc : (Value.agg #[.int .i64 0, .int .i64 0]).cells.size = 2 := rfl
    simp only [Array.size_append, size_zeroCells, hzc, List.size_toArray, List.length_nil]
    omega

set_option maxRecDepth 100000 in
set_option maxHeartbeats 3200000 in
theorem sz_concat {w : World} {F G : Nat → Prop} {u v : Value} {a b : List Sz.Rg} {bk : Nat} (ha : Rgs w F u a) (hb : Rgs w G v b) (la : a.length ≤ 500000) (lb : b.length ≤ 500000) (c0 : w.cell? ⟨bk, 0, none⟩ = some u) (c1 : w.cell? ⟨bk, 1, none⟩ = some v) (hk : bk < w.heap.size) :
    Calls Tryz.prog 92 #[.slice (some ⟨bk, 0, none⟩) 2 2] w fun e w' => ∃ v', e = .returned v' ∧ RowsOwn 40 2 rgV w (a ++ b) v' w' := by
  obtain ⟨i0, hi0, hz0, hz1, hz2⟩ := info_parts rangeInfo
  obtain ⟨A, c, rfl, hc⟩ := ha.parts
  obtain ⟨B, d, rfl, hd⟩ := hb.parts
  have HA := Lib.hid ha
  have HB := Lib.hid hb
  have la0 : (a.length : Int) ≤ 500000 := by omega
  have lb0 : (b.length : Int) ≤ 500000 := by omega
  have la1 : (0 : Int) ≤ (a.length : Int) := by omega
  have lb1 : (0 : Int) ≤ (b.length : Int) := by omega
  have HG : Hid (∀ W, Calls Tryz.prog 113 #[.slice none 0 0, .int .i64 ((a.length : Int) + (b.length : Int))] W fun e w' => ∃ v, e = .returned v ∧ RowsOwn 40 2 rgV W [] v w') := Lib.hid (fun W => by
    have := sz_grow (a.length + b.length) (by omega) W
    rwa [Int.natCast_add] at this)
  clear ha hb
  go_enter Tryz.func92, Tryz.ntmps92
  go_wp2_with fail
  refine wp_loop_rounds 3 ?_
  rw [rounds_succ]
  go_wp2_with fail
  rw [rounds_succ]
  go_wp2_with fail
  rw [rounds_succ]
  go_wp2_with fail
  refine (HG.out w).mono ?_
  rintro e w1 ⟨v1, rfl, h1⟩
  have hg1 := HA.out.below h1.2
  have hz1' : w.heap.size ≤ w1.heap.size := h1.2.size
  have e0 : w1.cell? ⟨bk, 0, none⟩ = some (.slice A a.length c) := (h1.2.cell (p := ⟨bk, 0, none⟩) hk).trans c0
  have e1 : w1.cell? ⟨bk, 1, none⟩ = some (.slice B b.length d) := (h1.2.cell (p := ⟨bk, 1, none⟩) hk).trans c1
  have H1 := Lib.hid h1
  have own1 := h1.1
  clear h1 c0 c1
  go_wp2_with fail
  refine wp_loop_rounds 3 ?_
  rw [rounds_succ]
  go_wp2_with (at_builtin; refine wp_joins (f := rgV) (k := 2) rfl _ _ 58 rfl w.heap.size 40 i0 (.agg #[.int .i64 0, .int .i64 0]) 16 Tryz.underlying58 hi0 hz0 hz1 hz2 rfl (by decide) rfl rfl own1 hg1 (fun _ _ => rfl) (fun x _ => rg_one x) ?c3 ?c4 hz1' ?_)
  case c3 => unfold maxLen; first | omega | (simp <;> omega)
  case c4 => first | omega | (simp <;> omega)
  intro v2 w2 j1 j2 j3
  have h2 : RowsOwn 40 2 rgV w a v2 w2 := ⟨by simpa using j1, H1.out.2.grown j2 H1.out.2.size (fun k hk => (H1.out.1.lt k hk).1)⟩
  have hg2 := HB.out.below h2.2
  have hz2' : w.heap.size ≤ w2.heap.size := h2.2.size
  have f1 : w2.cell? ⟨bk, 1, none⟩ = some (.slice B b.length d) := (j2.cell e1 (fun e => by have := (H1.out.1.lt bk e.symm).1; omega))
  have H2 := Lib.hid h2
  have own2 := h2.1
  clear h2 j1 j2 j3 H1 own1 hg1 e0 e1
  go_wp2_with fail
  rw [rounds_succ]
  go_wp2_with (at_builtin; refine wp_joins (f := rgV) (k := 2) rfl _ _ 58 rfl w.heap.size 40 i0 (.agg #[.int .i64 0, .int .i64 0]) 16 Tryz.underlying58 hi0 hz0 hz1 hz2 rfl (by decide) rfl rfl own2 hg2 (fun _ _ => rfl) (fun x _ => rg_one x) ?c3 ?c4 hz2' ?_)
  case c3 => unfold maxLen; first | omega | (simp <;> omega)
  case c4 => first | omega | (simp <;> omega)
  intro v3 w3 j1 j2 j3
  have h3 : RowsOwn 40 2 rgV w (a ++ b) v3 w3 := ⟨by rw [List.length_append, List.flatMap_append]; exact j1, H2.out.2.grown j2 H2.out.2.size (fun k hk => (H2.out.1.lt k hk).1)⟩
  have H3 := Lib.hid h3
  clear h3 j1 j2 j3 H2 own2 hg2 f1
  go_wp2_with fail
  rw [rounds_succ]
  go_wp2_with fail
  go_ret
  exact ⟨v3, rfl, H3.out⟩

set_option maxRecDepth 100000 in
theorem sz_join {w : World} {F G : Nat → Prop} {u v : Value} {a b : List Sz.Rg} (ha : Rgs w F u a) (hb : Rgs w G v b) (la : a.length ≤ 500000) (lb : b.length ≤ 500000) :
    Calls Tryz.prog 66 #[u, v] w fun e w' => ∃ v', e = .returned v' ∧ RowsOwn 40 2 rgV w (Sz.two 0 a b) v' w' := by
  obtain ⟨A, c, rfl, hc⟩ := ha.parts
  obtain ⟨B, d, rfl, hd⟩ := hb.parts
  have hb0 : Below w.heap.size w (w.alloc (.cells #[.slice A a.length c, .slice B b.length d] 58)) := (Below.refl _ _).alloc (Nat.le_refl _) _
  have hrow := Row.made w 58 #[.slice A a.length c, .slice B b.length d]
  have HC := Lib.hid (sz_concat (ha.below hb0) (hb.below hb0) la lb (hrow.at 0) (hrow.at 1) (by simp))
  have Hb0 := Lib.hid hb0
  have hfin : Hid (∀ w1 v1, RowsOwn 40 2 rgV (w.alloc (.cells #[.slice A a.length c, .slice B b.length d] 58)) (a ++ b) v1 w1 → Calls Tryz.prog 91 #[v1] w1 fun e w' => ∃ v', e = .returned v' ∧ RowsOwn 40 2 rgV w (Sz.two 0 a b) v' w') := Lib.hid (by
    intro w1 v1 h1
    refine (sz_norm (h1.rows (fun _ _ => rfl)) (by rw [List.length_append]; omega)).mono ?_
    rintro e w' ⟨v', rfl, h2⟩
    rw [Sz.join_is] at h2
    exact ⟨v', rfl, (h2.since h1.2).since Hb0.out⟩)
  clear ha hb hb0 hrow
  go_enter Tryz.func66, Tryz.ntmps66
  go_wp2_with fail
  refine (HC.out).mono ?_
  rintro e w1 ⟨v1, rfl, h1⟩
  have HN := Lib.hid (hfin.out w1 v1 h1)
  clear h1
  go_wp2_with fail
  refine (HN.out).mono ?_
  rintro e w2 ⟨v2, rfl, h2⟩
  have H2 := Lib.hid h2
  clear h2
  go_wp2_with fail
  go_ret
  exact ⟨v2, rfl, H2.out⟩
end Go.Proofs.YtabnfaonlkipbaaGreatDoor
/- The package sizes as it landed: it does what layer 8's laws ask of it. -/
namespace Go.Proofs.YtabnfaonlkipbaaGreatDoor
open Go.RowKit

set_option maxRecDepth 100000 in
theorem new_rows {w w' : World} {v : Value} {l : List Sz.Rg} (h : RowsOwn 40 2 rgV w l v w') : Rgs w' (NewIn w w') v l ∧ Below w.heap.size w w' := ⟨h.rows (fun _ _ => rfl), h.2⟩

set_option maxRecDepth 100000 in
theorem sizes_ok : SizesOk where
  norm := fun h hl _ => (sz_norm h (by omega)).mono (fun e w' ⟨v', he, hr⟩ => ⟨v', he, new_rows hr⟩)
  join := fun ha hb la lb _ _ => (sz_join ha hb (by omega) (by omega)).mono (fun e w' ⟨v', he, hr⟩ => ⟨v', he, new_rows hr⟩)
  minus := fun ha hb la lb _ _ => sz_minus ha hb (by omega) (by omega)
end Go.Proofs.YtabnfaonlkipbaaGreatDoor
/- The package filter as it landed answers as FilterOk asks. -/
namespace Go.Proofs.YtabnfaonlkipbaaGreatDoor
open Go.RowKit

set_option maxRecDepth 100000 in
theorem filter_ok : FilterOk where
  check := flt_check
  norm := fun h hl _ bf => flt_norm sizes_ok h hl bf
end Go.Proofs.YtabnfaonlkipbaaGreatDoor
/- The package flang as it landed answers as FlangOk asks. -/
namespace Go.Proofs.YtabnfaonlkipbaaGreatDoor

set_option maxRecDepth 100000 in
theorem flang_ok : FlangOk := flang_of filter_ok
end Go.Proofs.YtabnfaonlkipbaaGreatDoor
/- From a contract to a row: what the row lists, and the first world's shape, are handed to the contract. -/
namespace Go.Proofs.YtabnfaonlkipbaaGreatDoor
open Go.RowKit Go.ChangeShapes Go.WideShapes Go.ChangeAt

set_option maxRecDepth 100000 in
theorem flg_returns {H : Type} {enc : TypeId × Value → H} {a : Assume} {C : Checked} {os : Os} {f : FuncId} {fn : Func} {s : ChangeSpec} {conds : List PathCond} {apart fresh handsOn again : Bool} {X : World → Array Value → Prop}
    (hX : ∀ (w w' : World) (args : Array Value), w.heap = w'.heap → X w args → X w' args)
    (own : ownKnob C.prog.godebug = none) (started : os.Started) (noInit : C.prog.inits.idxOf? f = none) (hfn : C.prog.funcs[f]? = some fn)
    (witness : ∃ (w : World) (tape : Tape) (i : Input), w.os = os ∧ (w.forCall tape i).Shaped C.prog ∧ i.vars = [] ∧ Input.okWide C.prog (w.forCall tape i) .any w.heap.size f i ∧
      ((s.pre enc C.prog fn conds apart (w.forCall tape i).memory i.args ∧ X (w.forCall tape i).memory i.args) ∧ sizedMet enc C.prog fn (OpenSpec.ofChange s) apart (w.forCall tape i).memory i.args) ∧ a.holds C.prog (lone (Frame.enter C.prog f i.args .normal) [] (w.forCall tape i)))
    (contract : ∀ (W : World) (base : Nat) (args : Array Value) (ds gs : List (DataW H)) (before : List MemPlace),
      (∀ (j : Nat) t v, fn.params[j]? = some t → args[j]? = some v → Value.okWide C.prog W .any base t v) →
      DataW.Whole enc C.prog fn.params.toList s.vars apart W args.toList ds gs before →
      (DataW.weightsEach C.prog (fn.params.toList ++ s.plain.varTypes C.prog) (ds ++ gs)).all (· ≤ reachBytes) = true → X W args → W.ShapedOpen C.prog →
      Calls C.prog f args W fun e W' => ∃ v, e = .returned v ∧ s.post enc C.prog fn apart fresh handsOn again W args v W') :
    ReturnsInHanded a C os f .any (fun w args => (s.pre enc C.prog fn conds apart w args ∧ X w args) ∧ sizedMet enc C.prog fn (OpenSpec.ofChange s) apart w args) (s.post enc C.prog fn apart fresh handsOn again) := by
  refine returnsInHanded_of_calls own started noInit witness ?_
  intro w tape i _ hsh _ hok hpre _
  obtain ⟨_, _, _, fn', hfn', _, _, _, _, hval⟩ := hok
  obtain rfl : fn' = fn := Option.some.inj (hfn'.symm.trans hfn)
  obtain ⟨⟨⟨ds, gs, before, hw, _⟩, hx⟩, hz⟩ := hpre
  refine (contract (w.forCall tape i) w.heap.size i.args ds gs before hval (DataW.Whole.of_heap (w' := w.forCall tape i) (by rfl) hw) (hz.weights hw) (hX _ _ _ (by rfl) hx) hsh).mono fun e W' ⟨v, he, hp⟩ => ?_
  subst he
  exact ChangeSpec.post_blind hp

set_option maxRecDepth 100000 in
theorem flg_star : "*" ++ "errors.errorString" = "*errors.errorString" := by decide
set_option maxRecDepth 100000 in
theorem flg_errRow (u : TypeId) (h : Tryz.prog.typeName? 3 u = some "*errors.errorString") : u = 174 :=
  typeName_ptr_named (nm := "errors.errorString") (by rw [flg_star]; kernel_rfl) (by kernel_rfl) (by decide) u (by rw [flg_star]; exact h)
set_option maxRecDepth 100000 in
theorem flg_cells1 : Tryz.prog.cellsOf 176 = 1 := by kernel_rfl
set_option maxRecDepth 100000 in
theorem flg_cells2 : Tryz.prog.cellsOf 9 = 1 := by kernel_rfl
set_option maxRecDepth 100000 in
theorem flg_cells3 : Tryz.prog.cellsOf 119 = 1 := by kernel_rfl
set_option maxRecDepth 100000 in
theorem flg_cells4 : Tryz.prog.cellsOf 147 = 20 := by kernel_rfl
def Flg.outData : DataW Unit := .iface "*errors.errorString" (.ptr (.agg [.lit (.string [118, 97, 108, 117, 101, 32, 111, 117, 116, 32, 111, 102, 32, 114, 97, 110, 103, 101])]))
def Flg.badData : DataW Unit := .iface "*errors.errorString" (.ptr (.agg [.lit (.string [105, 110, 118, 97, 108, 105, 100, 32, 115, 121, 110, 116, 97, 120])]))
set_option maxRecDepth 100000 in
/-- What a row lists gives what strconv and strings read. -/
theorem flg_tabs {W : World} {r1 r2 r3 : List (String × DataW Unit)} (hp : laidMet Tryz.prog (("internal/strconv.uint64pow10", Lib.tabData .u64 Lib.pow10Tab) :: r1) W)
    (hr : laidMet Tryz.prog (("strconv.ErrRange", Flg.outData) :: r2) W) (hs : laidMet Tryz.prog (("strconv.ErrSyntax", Flg.badData) :: r3) W) (hW : W.ShapedOpen Tryz.prog) : Flg.Tabs W where
  top := cell_of_shapedOpen_int (zero := #[.int .i64 0]) (t := 3) hW (of_decide_eq_true (by kernel_rfl)) (by kernel_rfl) rfl (by kernel_rfl) (by kernel_rfl) Tryz.underlying3
  pow := Lib.tabIs_of_head (g := 1) (t := 147) (e := 119) (n := 20) (by kernel_rfl) (by kernel_rfl) Tryz.underlying147 Tryz.underlying119 flg_cells3 flg_cells4 hp
  bad := by
    obtain ⟨a0, s0, hv0, -, -, -⟩ := laid_sentinel (g := 4) (ti := 71) hs (by kernel_rfl) (by kernel_rfl) Tryz.underlying71 flg_errRow Tryz.underlying174 Tryz.underlying176 rfl rfl Tryz.underlying9 flg_cells1 flg_cells2
    exact ⟨_, _, hv0⟩
  out := by
    obtain ⟨a0, s0, hv0, -, -, -⟩ := laid_sentinel (g := 5) (ti := 71) hr (by kernel_rfl) (by kernel_rfl) Tryz.underlying71 flg_errRow Tryz.underlying174 Tryz.underlying176 rfl rfl Tryz.underlying9 flg_cells1 flg_cells2
    exact ⟨_, _, hv0⟩
end Go.Proofs.YtabnfaonlkipbaaGreatDoor
/- What came in to layer 8's laws, opened: ranges. -/
set_option linter.unusedSimpArgs false
set_option linter.unusedVariables false
namespace Go.Proofs.YtabnfaonlkipbaaGreatDoor
open Go.ChangeShapes Go.WideShapes Go.ChangeAt Go.RowKit Go.Deep

set_option maxRecDepth 100000 in
theorem Sz.intCells : Tryz.prog.cellsOf 3 = 1 := by kernel_rfl
set_option maxRecDepth 100000 in
theorem Sz.rangeCells : Tryz.prog.cellsOf 40 = 2 := by kernel_rfl

set_option maxRecDepth 100000 in
theorem Sz.in_heap {W : World} {a : Addr} {v : Value} (h : W.cell? a = some v) : a.block < W.heap.size ∧ a.spot = none := by
  refine ⟨World.block_lt_of_cell? W a h, ?_⟩
  exact World.cell?_spot h

set_option maxRecDepth 100000 in
/-- From 'for each index there is one' to a list. -/
theorem Sz.list_of {α : Type} {p : Nat → α → Prop} : ∀ n, (∀ i, i < n → ∃ x, p i x) → ∃ l : List α, l.length = n ∧ ∀ i x, l[i]? = some x → p i x
  | 0, _ => ⟨[], rfl, fun i x h => by simp at h⟩
  | n + 1, h => by
    obtain ⟨l, hl, hp⟩ := Sz.list_of n (fun i hi => h i (by omega))
    obtain ⟨x, hx⟩ := h n (by omega)
    refine ⟨l ++ [x], by simp [hl], fun i y hy => ?_⟩
    by_cases hi : i < n
    · rw [List.getElem?_append_left (by omega)] at hy
      exact hp i y hy
    · have hin : i < (l ++ [x]).length := (List.getElem?_eq_some_iff.1 hy).1
      have : i = n := by simp [hl] at hin; omega
      subst this
      rw [List.getElem?_append_right (by omega), hl, Nat.sub_self] at hy
      simp at hy
      rw [← hy]; exact hx

section
variable {H : Type} {enc : TypeId × Value → H}

set_option maxRecDepth 100000 in
theorem open_rgs {W : World} {c : Value} {n : Nat} {d : DataW H × List MemPlace} (h : DataW.trod enc Tryz.prog W 0 (fun _ => true) true n 58 [c] = some d) :
    ∃ (A : Option Addr) (len cap : Nat) (l : List Sz.Rg), c = .slice A len cap ∧ Rgs W (fun i => i < W.heap.size) c l ∧ l.length = len ∧ len ≤ cap ∧ len ≤ 9223372036854775807 ∧ ∀ r ∈ l, Bd r := by
  obtain ⟨d, pl⟩ := d
  rcases open_slice Tryz.underlying58 h with ⟨hcs, _⟩ | ⟨a, len', cap', m, n', D, Pl, hcs, _, hl, hm, hmm, _, hi⟩
  · simp at hcs
    exact ⟨none, 0, 0, [], hcs, by rw [hcs]; exact Rws.none _ _ _, rfl, Nat.le_refl _, by omega, fun r hr => by cases hr⟩
  · simp at hcs
    subst hcs
    simp at hmm
    unfold maxLen at hm
    have hcell : ∀ i, i < len' → ∃ f : Sz.Rg, W.cell? (a.add (i * 2)) = some (.int .i64 f.1) ∧ W.cell? (a.add (i * 2 + 1)) = some (.int .i64 f.2) ∧ Bd f := by
      intro i hil
      obtain ⟨cs', hc, ht⟩ := hi i (by omega)
      rw [Sz.rangeCells] at hc
      obtain ⟨_, hcl, hat⟩ := World.cells?_some hc
      obtain ⟨xs, n'', _, _, _, hxs, hfs⟩ := DataW.trod_struct Tryz.underlying40 ht
      match cs', hcl with
      | [c0, c1], _ =>
        have hl2 : xs.length = 2 := hxs
        have k0 : DataW.trod enc Tryz.prog W 0 (fun _ => true) true n'' 3 (([c0, c1].drop 0).take (Tryz.prog.cellsOf 3)) = xs[0]? := hfs 0 _ rfl
        have k1 : DataW.trod enc Tryz.prog W 0 (fun _ => true) true n'' 3 (([c0, c1].drop 1).take (Tryz.prog.cellsOf 3)) = xs[1]? := hfs 1 _ rfl
        rw [Sz.intCells, List.getElem?_eq_getElem (by omega)] at k0 k1
        obtain ⟨x0, e0, _, w0⟩ := DataW.trod_int Tryz.underlying3 k0
        obtain ⟨x1, e1, _, w1⟩ := DataW.trod_int Tryz.underlying3 k1
        have e0 : c0 = .int .i64 x0 := by simpa using e0
        have e1 : c1 = .int .i64 x1 := by simpa using e1
        have b0 := bounds_i64 w0
        have b1 := bounds_i64 w1
        refine ⟨(x0, x1), ?_, ?_, by unfold Bd; simp only; omega⟩
        · have := hat 0 (by omega)
          rw [e0, Go.Deep.add_add] at this
          exact this
        · have := hat 1 (by omega)
          rw [e1, Go.Deep.add_add] at this
          exact this
    obtain ⟨l, hll, hlp⟩ := Sz.list_of len' hcell
    refine ⟨some a, len', cap', l, rfl, ⟨some a, cap', by rw [hll], by rw [hll]; exact hl, fun hpos => ?_⟩, hll, hl, by omega, fun r hr => ?_⟩
    · rw [hll] at hpos
      obtain ⟨x0, h0, _⟩ := hcell 0 hpos
      have hb := Sz.in_heap h0
      obtain ⟨b, off, spot⟩ := a
      have hs : spot = none := by simpa [Addr.add] using hb.2
      subst hs
      have hb1 : b < W.heap.size := by simpa [Addr.add] using hb.1
      refine ⟨b, off, rfl, hb1, hb1, fun i x hx j u hu => ?_⟩
      obtain ⟨q0, q1, _⟩ := hlp i x hx
      rw [Go.WideShapes.add_plain] at q0 q1
      match j, hu with
      | 0, hu => simp [rgV] at hu; subst hu; exact q0
      | 1, hu => simp [rgV] at hu; subst hu; rw [← Nat.add_assoc] at q1; exact q1
    · obtain ⟨i, hil, rfl⟩ := List.getElem_of_mem hr
      exact (hlp i _ (List.getElem?_eq_getElem hil)).2.2

set_option maxRecDepth 100000 in
/-- The same, of a value that came in whole. -/
theorem open_ranges {W : World} {v : Value} {d : DataW H} {p : List MemPlace} (h : DataW.Trod enc Tryz.prog W 0 (fun _ => true) true 58 v d p) (hv : ∃ a len cap, v = .slice a len cap) :
    ∃ (A : Option Addr) (len cap : Nat) (l : List Sz.Rg), v = .slice A len cap ∧ Rgs W (fun i => i < W.heap.size) v l ∧ l.length = len ∧ len ≤ cap ∧ len ≤ 9223372036854775807 ∧ ∀ r ∈ l, Bd r := by
  obtain ⟨A, len, cap, rfl⟩ := hv
  obtain ⟨fuel, hf⟩ := h
  exact open_rgs (by simpa [Value.cells] using hf)

set_option maxRecDepth 100000 in
theorem open_rgl {W : World} {v : Value} {d : DataW H} {p : List MemPlace} (hv : ∃ a len cap, v = .slice a len cap) (h : DataW.Trod enc Tryz.prog W 0 (fun _ => true) true 58 v d p) :
    ∃ l : List Sz.Rg, Rgs W (fun i => i < W.heap.size) v l ∧ l.length ≤ 9223372036854775807 ∧ ∀ r ∈ l, Bd r := by
  obtain ⟨A, len, cap, l, _, h1, h2, _, h4, h5⟩ := open_ranges h hv
  exact ⟨l, h1, by omega, h5⟩
end
end Go.Proofs.YtabnfaonlkipbaaGreatDoor
/- What came in to layer 9's laws, opened: clauses, a file. -/
set_option linter.unusedSimpArgs false
set_option linter.unusedVariables false
namespace Go.Proofs.YtabnfaonlkipbaaGreatDoor
open Go.ChangeShapes Go.WideShapes Go.ChangeAt Go.RowKit Go.Deep

set_option maxRecDepth 100000 in
theorem Flt.stringCells : Tryz.prog.cellsOf 9 = 1 := by kernel_rfl
set_option maxRecDepth 100000 in
theorem Flt.boolCells : Tryz.prog.cellsOf 4 = 1 := by kernel_rfl
set_option maxRecDepth 100000 in
theorem Flt.clauseCells : Tryz.prog.cellsOf 42 = 3 := by kernel_rfl

section
variable {H : Type} {enc : TypeId × Value → H}

/-- A clause as it came in. -/
def Flt.In (c : Flt.Cl) : Prop := c.pre.length ≤ 9223372036854775807 ∧ Go.Proofs.YtabnfaonlkipbaaGreatDoor.Bd (Flt.rg c)

set_option maxRecDepth 100000 in
theorem open_cls {W : World} {c : Value} {n : Nat} {d : DataW H × List MemPlace} (h : DataW.trod enc Tryz.prog W 0 (fun _ => true) true n 22 [c] = some d) :
    ∃ (A : Option Addr) (len cap : Nat) (l : List Flt.Cl), c = .slice A len cap ∧ Cls W (fun i => i < W.heap.size) c l ∧ l.length = len ∧ len ≤ cap ∧ len ≤ 9223372036854775807 ∧ ∀ r ∈ l, Flt.In r := by
  obtain ⟨d, pl⟩ := d
  rcases open_slice Tryz.underlying22 h with ⟨hcs, _⟩ | ⟨a, len', cap', m, n', D, Pl, hcs, _, hl, hm, hmm, _, hi⟩
  · simp at hcs
    exact ⟨none, 0, 0, [], hcs, by rw [hcs]; exact Rws.none _ _ _, rfl, Nat.le_refl _, by omega, fun r hr => by cases hr⟩
  · simp at hcs
    subst hcs
    simp at hmm
    unfold maxLen at hm
    have hcell : ∀ i, i < len' → ∃ f : Flt.Cl, W.cell? (a.add (i * 3)) = some (.string (mk f.pre)) ∧ W.cell? (a.add (i * 3 + 1)) = some (.int .i64 f.lo) ∧ W.cell? (a.add (i * 3 + 2)) = some (.int .i64 f.hi) ∧ Flt.In f := by
      intro i hil
      obtain ⟨cs', hc, ht⟩ := hi i (by omega)
      rw [Flt.clauseCells] at hc
      obtain ⟨_, hcl, hat⟩ := World.cells?_some hc
      obtain ⟨xs, n'', _, _, _, hxs, hfs⟩ := DataW.trod_struct Tryz.underlying42 ht
      match cs', hcl with
      | [c0, c1, c2], _ =>
        have hl2 : xs.length = 2 := hxs
        have k0 : DataW.trod enc Tryz.prog W 0 (fun _ => true) true n'' 9 (([c0, c1, c2].drop 0).take (Tryz.prog.cellsOf 9)) = xs[0]? := hfs 0 _ rfl
        have k1 : DataW.trod enc Tryz.prog W 0 (fun _ => true) true n'' 40 (([c0, c1, c2].drop 1).take (Tryz.prog.cellsOf 40)) = xs[1]? := hfs 1 _ rfl
        rw [Flt.stringCells, List.getElem?_eq_getElem (by omega)] at k0
        rw [Sz.rangeCells, List.getElem?_eq_getElem (by omega)] at k1
        obtain ⟨ys, n3, _, _, _, hys, hgs⟩ := DataW.trod_struct Tryz.underlying40 k1
        have hl3 : ys.length = 2 := hys
        have k2 : DataW.trod enc Tryz.prog W 0 (fun _ => true) true n3 3 (([c1, c2].drop 0).take (Tryz.prog.cellsOf 3)) = ys[0]? := hgs 0 _ rfl
        have k3 : DataW.trod enc Tryz.prog W 0 (fun _ => true) true n3 3 (([c1, c2].drop 1).take (Tryz.prog.cellsOf 3)) = ys[1]? := hgs 1 _ rfl
        rw [Sz.intCells, List.getElem?_eq_getElem (by omega)] at k2 k3
        obtain ⟨x0, e0, _, w0⟩ := DataW.trod_string Tryz.underlying9 k0
        obtain ⟨x1, e1, _, w1⟩ := DataW.trod_int Tryz.underlying3 k2
        obtain ⟨x2, e2, _, w2⟩ := DataW.trod_int Tryz.underlying3 k3
        have e0 : c0 = .string x0 := by simpa using e0
        have e1 : c1 = .int .i64 x1 := by simpa using e1
        have e2 : c2 = .int .i64 x2 := by simpa using e2
        have b1 := bounds_i64 w1
        have b2 := bounds_i64 w2
        refine ⟨⟨x0.data.toList, x1, x2⟩, ?_, ?_, ?_, ?_, by unfold Bd Flt.rg; simp only; omega⟩
        · have := hat 0 (by omega)
          rw [e0, Go.Deep.add_add] at this
          rw [mk_of]
          exact this
        · have := hat 1 (by omega)
          rw [e1, Go.Deep.add_add] at this
          exact this
        · have := hat 2 (by omega)
          rw [e2, Go.Deep.add_add] at this
          exact this
        · have := w0
          unfold maxLen at this
          simpa using this
    obtain ⟨l, hll, hlp⟩ := Sz.list_of len' hcell
    refine ⟨some a, len', cap', l, rfl, ⟨some a, cap', by rw [hll], by rw [hll]; exact hl, fun hpos => ?_⟩, hll, hl, by omega, fun r hr => ?_⟩
    · rw [hll] at hpos
      obtain ⟨x0, h0, _⟩ := hcell 0 hpos
      have hb := Sz.in_heap h0
      obtain ⟨b, off, spot⟩ := a
      have hs : spot = none := by simpa [Addr.add] using hb.2
      subst hs
      have hb1 : b < W.heap.size := by simpa [Addr.add] using hb.1
      refine ⟨b, off, rfl, hb1, hb1, fun i x hx j u hu => ?_⟩
      obtain ⟨q0, q1, q2, _⟩ := hlp i x hx
      rw [Go.WideShapes.add_plain] at q0 q1 q2
      match j, hu with
      | 0, hu => simp [clV] at hu; subst hu; exact q0
      | 1, hu => simp [clV] at hu; subst hu; rw [← Nat.add_assoc] at q1; exact q1
      | 2, hu => simp [clV] at hu; subst hu; rw [← Nat.add_assoc] at q2; exact q2
    · obtain ⟨i, hil, rfl⟩ := List.getElem_of_mem hr
      exact (hlp i _ (List.getElem?_eq_getElem hil)).2.2.2

set_option maxRecDepth 100000 in
/-- Clauses that came in whole. -/
theorem open_cll {W : World} {v : Value} {d : DataW H} {p : List MemPlace} (hv : ∃ a len cap, v = .slice a len cap) (h : DataW.Trod enc Tryz.prog W 0 (fun _ => true) true 22 v d p) :
    ∃ l : List Flt.Cl, Cls W (fun i => i < W.heap.size) v l ∧ l.length ≤ 9223372036854775807 ∧ ∀ r ∈ l, Flt.In r := by
  obtain ⟨A, len, cap, rfl⟩ := hv
  obtain ⟨fuel, hf⟩ := h
  obtain ⟨_, _, _, l, _, h1, h2, _, h4, h5⟩ := open_cls (by simpa [Value.cells] using hf)
  exact ⟨l, h1, by omega, h5⟩

end
end Go.Proofs.YtabnfaonlkipbaaGreatDoor
