import Derived.Test.YtkcgmnhjofoeiaaGreatCom39
import Derived.Test.YtkcgmnhjofoeiaaGreatCom14
import Derived.Test.YtkcgmnhjofoeiaaGreatCom25
import Derived.Test.YtkcgmnhjofoeiaaGreatCom15
import Derived.Shelf.Spec.SlicesGrow
import Derived.Shelf.SlicesQ.IndexFunc
import Derived.Shelf.SlSortCmp.NoneTotal
import Derived.Great.Walk
set_option maxRecDepth 100000
set_option linter.all false
set_option maxHeartbeats 12800000
namespace Go.Proofs.YtkcgmnhjofoeiaaGreat
open Go.RowKit Go.Shelf Go.Lib
theorem iset_grow (n : Nat) (hn : n ≤ 2000000) (w : World) :
  Calls Tryz.prog 130 #[.slice none 0 0, .int .i64 (n : Int)] w fun e w' => ∃ v, e = .returned v ∧ RowsOwn 33 2 verV w [] v w' := by
 obtain ⟨i0, hi0, hz0, hz1, hz2⟩ := ver_parts verInfo
 by_cases h0 : n = 0
 ·subst h0
  refine (Any8.slices_Grow_room Tryz.growVr none 0 0 0 w (Nat.le_refl _) (by omega) (by omega) (by omega)).mono ?_
  rintro e w' ⟨rfl, rfl⟩
  exact ⟨_, rfl, RowsOwn.start _ _ _ _⟩
 ·refine (Any8.slices_Grow_grow Tryz.growVr i0 (.agg #[.int .i64 0, .int .i64 0]) hi0 hz0 (by omega) none 0 0 n [] w (Nat.le_refl _) (by omega) (by rw [hz2]; omega) (by omega) (by simp) (fun _ => rfl) (fun a h => by cases h)).mono ?_
  rintro e w' ⟨rfl, rfl⟩
  refine ⟨_, rfl, ?_, ((Below.refl _ w).drew).alloc (Nat.le_refl _) _⟩
  have hG := grownCap_ge w (0 + n) 0 (Tryz.growVr_ren.t 25)
  have hM := grownCap_le_maxLen w (0 + n) 0 (Tryz.growVr_ren.t 25) (by unfold maxLen; omega)
  refine World.ownsRow_made w.drew _ _ (Nat.le_refl _) hM ?_
  have hzc : (Value.agg #[.int .i64 0, .int .i64 0]).cells.size = 2 := rfl
  simp only [Array.size_append, size_zeroCells, hzc, List.size_toArray, List.length_nil]
  omega
theorem iset_concat {w : World} {F G : Nat → Prop} {u v : Value} {a b : List Ver.V} {bk : Nat} (ha : Vrs w F u a) (hb : Vrs w G v b) (la : a.length ≤ 500000) (lb : b.length ≤ 500000) (c0 : w.cell? ⟨bk, 0, none⟩ = some u) (c1 : w.cell? ⟨bk, 1, none⟩ = some v) (hk : bk < w.heap.size) :
  Calls Tryz.prog 110 #[.slice (some ⟨bk, 0, none⟩) 2 2] w fun e w' => ∃ v', e = .returned v' ∧ RowsOwn 33 2 verV w (a ++ b) v' w' := by
 obtain ⟨i0, hi0, hz0, hz1, hz2⟩ := ver_parts verInfo
 obtain ⟨A, c, rfl, hc⟩ := ha.parts
 obtain ⟨B, d, rfl, hd⟩ := hb.parts
 have HA := Lib.hid ha
 have HB := Lib.hid hb
 have la0 : (a.length : Int) ≤ 500000 := by omega
 have lb0 : (b.length : Int) ≤ 500000 := by omega
 have la1 : (0 : Int) ≤ (a.length : Int) := by omega
 have lb1 : (0 : Int) ≤ (b.length : Int) := by omega
 have HG : Hid (∀ W, Calls Tryz.prog 130 #[.slice none 0 0, .int .i64 ((a.length : Int) + (b.length : Int))] W fun e w' => ∃ v, e = .returned v ∧ RowsOwn 33 2 verV W [] v w') := Lib.hid (fun W => by
  have := iset_grow (a.length + b.length) (by omega) W
  rwa [Int.natCast_add] at this)
 clear ha hb
 go_enter Tryz.func110, Tryz.ntmps110
 go_wp2_with fail
 refine wp_loop_rounds 3 ?_
 rw [rounds_succ]
 go_wp2_with fail
 rw [rounds_succ]
 go_wp2_with fail
 rw [rounds_succ]
 go_wp2_with fail
 refine (HG.out w).mono ?_
 rintro e w1 ⟨v1, rfl, h1⟩
 have hg1 := HA.out.below h1.2
 have hz1' : w.heap.size ≤ w1.heap.size := h1.2.size
 have e0 : w1.cell? ⟨bk, 0, none⟩ = some (.slice A a.length c) := (h1.2.cell (p := ⟨bk, 0, none⟩) hk).trans c0
 have e1 : w1.cell? ⟨bk, 1, none⟩ = some (.slice B b.length d) := (h1.2.cell (p := ⟨bk, 1, none⟩) hk).trans c1
 have H1 := Lib.hid h1
 have own1 := h1.1
 clear h1 c0 c1
 go_wp2_with fail
 refine wp_loop_rounds 3 ?_
 rw [rounds_succ]
 go_wp2_with (at_builtin; refine wp_joins (f := verV) (k := 2) rfl _ _ 29 rfl w.heap.size 33 i0 (.agg #[.int .i64 0, .int .i64 0]) 16 Tryz.underlying29 hi0 hz0 hz1 hz2 rfl (by decide) rfl rfl own1 hg1 (fun _ _ => rfl) (fun x _ => ver_one x) ?c3 ?c4 hz1' ?_)
 case c3 => unfold maxLen; first | omega | (simp <;> omega)
 case c4 => first | omega | (simp <;> omega)
 intro v2 w2 j1 j2 j3
 have h2 : RowsOwn 33 2 verV w a v2 w2 := ⟨by simpa using j1, H1.out.2.grown j2 H1.out.2.size (fun k hk => (H1.out.1.lt k hk).1)⟩
 have hg2 := HB.out.below h2.2
 have hz2' : w.heap.size ≤ w2.heap.size := h2.2.size
 have f1 : w2.cell? ⟨bk, 1, none⟩ = some (.slice B b.length d) := (j2.cell e1 (fun e => by have := (H1.out.1.lt bk e.symm).1; omega))
 have H2 := Lib.hid h2
 have own2 := h2.1
 clear h2 j1 j2 j3 H1 own1 hg1 e0 e1
 go_wp2_with fail
 rw [rounds_succ]
 go_wp2_with (at_builtin; refine wp_joins (f := verV) (k := 2) rfl _ _ 29 rfl w.heap.size 33 i0 (.agg #[.int .i64 0, .int .i64 0]) 16 Tryz.underlying29 hi0 hz0 hz1 hz2 rfl (by decide) rfl rfl own2 hg2 (fun _ _ => rfl) (fun x _ => ver_one x) ?c3 ?c4 hz2' ?_)
 case c3 => unfold maxLen; first | omega | (simp <;> omega)
 case c4 => first | omega | (simp <;> omega)
 intro v3 w3 j1 j2 j3
 have h3 : RowsOwn 33 2 verV w (a ++ b) v3 w3 := ⟨by rw [List.length_append, List.flatMap_append]; exact j1, H2.out.2.grown j2 H2.out.2.size (fun k hk => (H2.out.1.lt k hk).1)⟩
 have H3 := Lib.hid h3
 clear h3 j1 j2 j3 H2 own2 hg2 f1
 go_wp2_with fail
 rw [rounds_succ]
 go_wp2_with fail
 go_ret
 exact ⟨v3, rfl, H3.out⟩
theorem iset_join (Z : VersOk) {w : World} {F G : Nat → Prop} {u v : Value} {a b : List Ver.V} (ha : Vrs w F u a) (hb : Vrs w G v b) (la : a.length ≤ 500000) (lb : b.length ≤ 500000) :
  Calls Tryz.prog 86 #[u, v] w fun e w' => ∃ v', e = .returned v' ∧ Vrs w' (NewIn w w') v' (Iset.join a b) ∧ Below w.heap.size w w' := by
 obtain ⟨A, c, rfl, hc⟩ := ha.parts
 obtain ⟨B, d, rfl, hd⟩ := hb.parts
 have hb0 : Below w.heap.size w (w.alloc (.cells #[.slice A a.length c, .slice B b.length d] 29)) := (Below.refl _ _).alloc (Nat.le_refl _) _
 have hrow := Row.made w 29 #[.slice A a.length c, .slice B b.length d]
 have HC := Lib.hid (iset_concat (ha.below hb0) (hb.below hb0) la lb (hrow.at 0) (hrow.at 1) (by simp))
 have Hb0 := Lib.hid hb0
 have HO := Lib.hid (fun (W : World) (x : Value) (hx : RowsOwn 33 2 verV (w.alloc (.cells #[.slice A a.length c, .slice B b.length d] 29)) (a ++ b) x W) => iset_of Z (hx.rows (fun _ _ => rfl)) (by rw [List.length_append]; omega))
 clear ha hb hb0 hrow
 go_enter Tryz.func86, Tryz.ntmps86
 go_wp2_with fail
 refine (HC.out).mono ?_
 rintro e w1 ⟨v1, rfl, h1⟩
 have HB1 := Lib.hid (Hb0.out.trans (h1.2.mono Hb0.out.size))
 have HN := Lib.hid (HO.out w1 v1 h1)
 clear h1
 go_wp2_with fail
 refine (HN.out).mono ?_
 rintro e w2 ⟨v2, rfl, h2, h3⟩
 have H2 : Hid (Vrs w2 (NewIn w w2) v2 (Iset.join a b)) := Lib.hid (h2.mono (fun i hi => ⟨Nat.le_trans HB1.out.size hi.1, hi.2⟩))
 have H3 := Lib.hid (HB1.out.trans (h3.mono HB1.out.size))
 clear h2 h3
 go_wp2_with fail
 go_ret
 exact ⟨v2, rfl, H2.out, H3.out⟩
theorem iset_put (Z : VersOk) {w : World} {F : Nat → Prop} {v : Value} {l : List Ver.V} (x : Ver.V) (h : Vrs w F v l) (hl : l.length ≤ 500000) :
  Calls Tryz.prog 55 #[v, verA x] w fun e w' => ∃ v', e = .returned v' ∧ Vrs w' (NewIn w w') v' (Iset.put l x) ∧ Below w.heap.size w w' := by
 have L0 := (Laid.new w (.cells #[.int .i64 x.by_, .int .i64 x.n] 33)).below
 have L1 := ((Laid.new w (.cells #[.int .i64 x.by_, .int .i64 x.n] 33)).trans (Laid.new _ (.cells #[.int .i64 x.by_, .int .i64 x.n] 33))).below
 have JO := Lib.hid (iset_join Z (h.below L1) (ver_made (w.alloc (.cells #[.int .i64 x.by_, .int .i64 x.n] 33)) 33 x) hl (by simp))
 have HJ : Hid (Iset.join l [x] = Iset.put l x) := Lib.hid (Iset.put_is l x)
 have HL := Lib.hid L1
 obtain ⟨A, cap, rfl, hcap⟩ := h.parts
 obtain ⟨x1, x2⟩ := x
 simp only at JO HL
 rw [World.size_alloc] at JO
 clear h L0 L1
 go_enter Tryz.func55, Tryz.ntmps55
 go_wp2_with fail
 refine (JO.out).mono ?_
 rintro e w1 ⟨v1, rfl, h1, h2⟩
 have H1 : Hid (Vrs w1 (NewIn w w1) v1 (Iset.put l ⟨x1, x2⟩)) := Lib.hid (by rw [← HJ.out]; exact h1.mono (fun i hi => ⟨Nat.le_trans HL.out.size hi.1, hi.2⟩))
 have H2 := Lib.hid (HL.out.trans (h2.mono HL.out.size))
 clear h1 h2
 go_wp2_with fail
 go_ret
 exact ⟨_, rfl, H1.out, H2.out⟩
theorem within_pred (Z : VersOk) {S : List Ver.V} {cb B : Nat} (w : World) (hf : Finds w S (.func (.func 151) #[] #[.pointer (some ⟨cb, 0, none⟩)])) (hB : B < w.heap.size) (hc : w.cell? ⟨B, 0, none⟩ = some (.func (.func 151) #[] #[.pointer (some ⟨cb, 0, none⟩)])) :
  PredBelow Tryz.prog 133 #[.pointer (some ⟨B, 0, none⟩)] (fun x : Ver.V => .agg (verV x).toArray) (fun x => !decide (x ∈ S)) w := fun W x hb => by
 have hc2 : W.cell? ⟨B, 0, none⟩ = some (.func (.func 151) #[] #[.pointer (some ⟨cb, 0, none⟩)]) := (hb.cell (p := ⟨B, 0, none⟩) hB).trans hc
 have LB := Lib.hid (Laid.new W (.cells #[.int .i64 x.by_, .int .i64 x.n] 33))
 have hc3 : (W.alloc (.cells #[.int .i64 x.by_, .int .i64 x.n] 33)).cell? ⟨B, 0, none⟩ = some (.func (.func 151) #[] #[.pointer (some ⟨cb, 0, none⟩)]) := (LB.out.below.cell (p := ⟨B, 0, none⟩) (Nat.lt_of_lt_of_le hB hb.size)).trans hc2
 have FC := Lib.hid (Finds.calls Z ((hf.below hb).below LB.out.below) x)
 have Hb := Lib.hid hb
 obtain ⟨x1, x2⟩ := x
 simp only at hc3 LB FC
 clear hb hc hB hf
 show Calls Tryz.prog 133 #[.agg #[.int .i64 x1, .int .i64 x2], .pointer (some ⟨B, 0, none⟩)] W _
 obtain ⟨r, hr⟩ : ∃ r, r = decide ((⟨x1, x2⟩ : Ver.V) ∈ S) := ⟨_, rfl⟩
 rw [← hr] at FC
 have HR := Lib.hid hr
 clear hr
 go_enter Tryz.func133, Tryz.ntmps133
 go_wp2_with fail
 refine (FC.out).mono ?_
 rintro e w1 ⟨rfl, h1⟩
 have H1 := Lib.hid (Hb.out.trans ((LB.out.trans h1).below.mono Hb.out.size))
 clear h1
 go_wp2_with fail
 go_ret
 exact ⟨by rw [HR.out]; rfl, H1.out⟩
theorem vidx_none (A : Option Addr) (c : Nat) (fv : Value) (w : World) :
  Calls Tryz.prog 153 #[.slice A 0 c, fv] w fun e w' => e = .returned (.int .i64 (-1)) ∧ w' = w := by
 go_enter Tryz.func153, Tryz.ntmps153
 go_wp2_with fail
 refine wp_loop_rounds 1 ?_
 rw [rounds_succ]
 go_wp2_with fail
 go_ret
 exact ⟨rfl, rfl⟩
theorem vhas_none (A : Option Addr) (c : Nat) (fv : Value) (w : World) :
  Calls Tryz.prog 132 #[.slice A 0 c, fv] w fun e w' => e = .returned (.bool false) ∧ w' = w := by
 go_enter Tryz.func132, Tryz.ntmps132
 go_wp2_with (go_at_call 153; refine (vidx_none _ _ _ _).mono ?_; rintro e w' ⟨rfl, rfl⟩)
 go_ret
 exact ⟨rfl, rfl⟩
theorem within_any (Z : VersOk) {w : World} {F : Nat → Prop} {v : Value} {l S : List Ver.V} (h : Vrs w F v l) (hl : l.length ≤ 1000000) {cb B : Nat} (hf : Finds w S (.func (.func 151) #[] #[.pointer (some ⟨cb, 0, none⟩)])) (hB : B < w.heap.size) (hc : w.cell? ⟨B, 0, none⟩ = some (.func (.func 151) #[] #[.pointer (some ⟨cb, 0, none⟩)])) :
  Calls Tryz.prog 132 #[v, .func (.func 133) #[] #[.pointer (some ⟨B, 0, none⟩)]] w fun e w' => e = .returned (.bool (l.any fun x => !decide (x ∈ S))) ∧ Below w.heap.size w w' := by
 by_cases h0 : 0 < l.length
 ·obtain ⟨A, cap, rfl, hcap, hat⟩ := h
  obtain ⟨b, o, rfl, -, hb, hcl⟩ := hat h0
  have eg : ∀ args w, (callFunc 133 args).run Tryz.prog w = .ok (.enter 133 args) w := enters_of Tryz.func133 (by kernel_rfl) rfl
  have hcon := AnyQ.slices_ContainsFunc Tryz.hasVr 2 Tryz.isAgg33 Tryz.sizeOf33 verV ver_len (fun x : Ver.V => !decide (x ∈ S)) 133 #[.pointer (some ⟨B, 0, none⟩)] eg b o l.length cap l w (within_pred Z w hf hB hc) (Nat.le_refl _) (by omega) hb
   (fun j hj i u hi => hcl j _ (by rw [List.getElem?_eq_getElem hj, getElem!_pos l j hj]) i u hi)
  rw [List.take_length] at hcon
  exact hcon
 ·have hl0 : l = [] := List.eq_nil_of_length_eq_zero (by omega)
  subst hl0
  obtain ⟨A, cap, rfl, -, -⟩ := h
  exact (vhas_none A cap _ w).mono (fun e w' h => ⟨h.1, by rw [h.2]; exact Below.refl _ _⟩)
theorem iset_within (Z : VersOk) {w : World} {F G : Nat → Prop} {u v : Value} {a b : List Ver.V} (h : Vrs w F u a) (k : Vrs w G v b) (hl : a.length ≤ 1000000) (hk : b.length ≤ 1000000) :
  Calls Tryz.prog 113 #[u, v] w fun e w' => e = .returned (.bool (decide (Iset.Within a b))) ∧ Below w.heap.size w w' := by
 have FI := Lib.hid (finder_made Z k hk)
 have hsf : ∀ (w : World) (a : Addr) (m : Mode) (fn : Fn) (fi ca : Array Value), (store a (.func fn fi ca) m).run Tryz.prog w = stored Tryz.prog w a (.func fn fi ca) m := fun w a m fn fi ca => run_store Tryz.prog w a _ m rfl
 have H := Lib.hid h
 have HLn := Lib.hid hl
 have HR : Hid ((!a.any fun x => !decide (x ∈ Ver.sort b)) = decide (Iset.Within a b)) := Lib.hid (by
  rw [Iset.within_is, decide_eq_decide]
  unfold Iset.Within
  simp only [Ver.sort_mem])
 clear h k hl hk
 generalize Ver.sort b = S at *
 go_enter Tryz.func113, Tryz.ntmps113
 go_wp2_with fail
 refine (FI.out).mono ?_
 rintro e w1 ⟨fv, rfl, hf, hb1⟩
 have HF := Lib.hid hf
 obtain ⟨cb, sv, Fs, rfl, -, -, -, -, -⟩ := hf
 have hb : Below w1.heap.size w1 (w1.alloc (.cells #[.func (.func 151) #[] #[.pointer (some ⟨cb, 0, none⟩)]] 59)) := (Below.refl _ _).alloc (Nat.le_refl _) _
 have HB := Lib.hid (hb1.trans (hb.mono hb1.size))
 have HC := Lib.hid (within_any Z (H.out.below HB.out) HLn.out (HF.out.below hb) (B := w1.heap.size) (by simp) ((Row.made w1 59 #[.func (.func 151) #[] #[.pointer (some ⟨cb, 0, none⟩)]]).at 0))
 clear hb1 hb
 go_wp2_with (go_at_call 132; refine (HC.out).mono ?_; rintro e w2 ⟨rfl, hb2⟩)
 have H2 := Lib.hid (HB.out.trans (hb2.mono HB.out.size))
 go_ret
 exact ⟨by rw [← HR.out]; rfl, H2.out⟩
theorem iset_of_vers (Z : VersOk) : IsetOk where
 ofl := fun h hl => iset_of Z h hl
 has := fun x h hl => iset_has x h hl
 put := fun x h hl => iset_put Z x h hl
 join := fun h k hl hk => iset_join Z h k hl hk
 within := fun h k hl hk => iset_within Z h k hl hk
open Go.RowKit Go.Sort
theorem ver_before (w : World) (a b : Ver.V) : Calls Tryz.prog 152 #[verA a, verA b] w fun e w' => e = .returned (.bool (decide (Ver.Before a b))) ∧ Laid w w' := by
 have L := Lib.hid (laid_two w)
 obtain ⟨x, y⟩ := a
 obtain ⟨x', y'⟩ := b
 have E := Lib.hid (show decide (Ver.Before ⟨x, y⟩ ⟨x', y'⟩) = _ from before_alt x y x' y')
 by_cases h1 : x < x'
 ·go_enter Tryz.func152, Tryz.ntmps152
  go_wp2_with fail
  go_ret
  exact ⟨by rw [E.out]; first | (simp [h1]; done) | (simp [h1]; omega), L.out _ _⟩
 ·by_cases h2 : x = x'
  ·subst h2
   go_enter Tryz.func152, Tryz.ntmps152
   go_wp2_with fail
   go_ret
   exact ⟨by rw [E.out]; first | (simp [h1]; done) | (simp [h1]; omega), L.out _ _⟩
  ·go_enter Tryz.func152, Tryz.ntmps152
   go_wp2_with fail
   go_ret
   exact ⟨by rw [E.out]; first | (simp [h1, h2]; done) | (simp [h1, h2]; omega), L.out _ _⟩
def Ver.order (a b : Ver.V) : Int := if a = b then 0 else if Ver.Before a b then -1 else 1
theorem ver_order (w : World) (a b : Ver.V) : Calls Tryz.prog 139 #[verA a, verA b] w fun e w' => e = .returned (.int .i64 (Ver.order a b)) ∧ Laid w w' := by
 have L := Lib.hid (laid_two w)
 have BE := Lib.hid (fun W => ver_before W a b)
 by_cases h0 : a = b
 ·subst h0
  have E : Hid (Ver.order a a = 0) := Lib.hid (by unfold Ver.order; rw [if_pos rfl])
  obtain ⟨x, y⟩ := a
  go_enter Tryz.func139, Tryz.ntmps139
  go_wp2_with fail
  go_ret
  exact ⟨by rw [E.out]; rfl, L.out _ _⟩
 ·have hne : a.by_ = b.by_ → ¬ a.n = b.n := fun h k => h0 (Ver.v_ext h k)
  have main : ∀ r : Bool, r = decide (Ver.Before a b) → Ver.order a b = (if r then -1 else 1) → Calls Tryz.prog 139 #[verA a, verA b] w fun e w' => e = .returned (.int .i64 (Ver.order a b)) ∧ Laid w w' := by
   intro r hr hE
   have BE : Hid (∀ W, Calls Tryz.prog 152 #[verA a, verA b] W fun e w' => e = .returned (.bool r) ∧ Laid W w') := Lib.hid (fun W => by have := BE.out W; rwa [← hr] at this)
   have E := Lib.hid hE
   obtain ⟨x, y⟩ := a
   obtain ⟨x', y'⟩ := b
   simp only at hne
   clear hE hr h0
   by_cases h1 : x = x'
   ·have h2 := hne h1
    subst h1
    clear hne
    cases r
    all_goals
     go_enter Tryz.func139, Tryz.ntmps139
     go_wp2_with (go_at_call 152; refine (BE.out _).mono ?_; rintro e w1 ⟨rfl, hl⟩; have HL := Lib.hid ((L.out _ _).trans hl); clear hl)
     go_ret
     exact ⟨by rw [E.out]; rfl, HL.out⟩
   ·clear hne
    cases r
    all_goals
     go_enter Tryz.func139, Tryz.ntmps139
     go_wp2_with (go_at_call 152; refine (BE.out _).mono ?_; rintro e w1 ⟨rfl, hl⟩; have HL := Lib.hid ((L.out _ _).trans hl); clear hl)
     go_ret
     exact ⟨by rw [E.out]; rfl, HL.out⟩
  by_cases hb : Ver.Before a b
  ·exact main true (decide_eq_true hb).symm (by unfold Ver.order; rw [if_neg h0, if_pos hb, if_pos rfl])
  ·exact main false (decide_eq_false hb).symm (by unfold Ver.order; rw [if_neg h0, if_neg hb, if_neg (by decide)])
open Go.RowKit Go.Shelf Go.Lib Go.Sort
theorem lt_order (x y : Ver.V) : ltOf Ver.order x y = decide (Ver.Before x y) := by
 unfold ltOf Ver.order
 by_cases h : x = y
 ·subst h; simp [Ver.before_irrefl]
 ·by_cases h2 : Ver.Before x y <;> simp [h, h2]
theorem swo_order : SWO (ltOf Ver.order) where
 irrefl x := by rw [lt_order]; exact decide_eq_false (Ver.before_irrefl x)
 trans x y z h1 h2 := by
  rw [lt_order] at *
  exact decide_eq_true (Ver.before_trans (of_decide_eq_true h1) (of_decide_eq_true h2))
 ntrans x y z h1 h2 := by
  rw [lt_order] at *
  have k1 := of_decide_eq_false h1
  have k2 := of_decide_eq_false h2
  exact decide_eq_false (by unfold Ver.Before at *; omega)
theorem compact_sort {S : List Ver.V} (h : ∀ (i j : Nat) (x y : Ver.V), i < j → S[i]? = some x → S[j]? = some y → ¬ Ver.Before y x) : Ver.Up (Lib.compact S) ∧ ∀ x, x ∈ Lib.compact S ↔ x ∈ S := by
 have at_ : ∀ i, i < S.length → S[i]? = some S.toArray[i]! := fun i hi => by
  have := getI_to S.toArray (i := i) (by simpa using hi)
  simpa using this
 constructor
 ·unfold Ver.Up Lib.compact Lib.compactUpTo
  rw [List.pairwise_map]
  have hr : List.Pairwise (fun a b => a < b ∧ b < S.length) (List.range S.length) := by
   have h1 : List.Pairwise (fun a b : Nat => a < b) (List.range S.length) := List.pairwise_lt_range
   refine List.Pairwise.imp_of_mem (fun {a b} ha hb hab => ⟨hab, List.mem_range.1 hb⟩) h1
  have hf := hr.filter (Lib.keeps S.toArray)
  refine List.Pairwise.imp_of_mem (fun {a b} ha hb hab => ?_) hf
  obtain ⟨hab, hbl⟩ := hab
  have hk := (List.mem_filter.1 hb).2
  have hne : S.toArray[b]! ≠ S.toArray[b - 1]! := by
   have := of_decide_eq_true hk
   rcases this with h0 | h0
   ·omega
   ·exact h0
  have q1 := h (b - 1) b _ _ (by omega) (at_ _ (by omega)) (at_ _ hbl)
  have q2 := h a b _ _ hab (at_ _ (by omega)) (at_ _ hbl)
  by_cases e : S.toArray[a]! = S.toArray[b]!
  ·exfalso
   have q3 : ¬ Ver.Before S.toArray[b - 1]! S.toArray[b]! := by
    rcases Nat.lt_or_ge a (b - 1) with hlt | hge
    ·have := h a (b - 1) _ _ hlt (at_ _ (by omega)) (at_ _ (by omega))
     rwa [e] at this
    ·have : a = b - 1 := by omega
     subst this
     rw [e]; exact Ver.before_irrefl _
   rcases Ver.before_or hne with k | k
   ·exact q1 k
   ·exact q3 k
  ·exact (Ver.before_or e).resolve_right q2
 ·intro x
  unfold Lib.compact Lib.compactUpTo
  rw [List.mem_map]
  constructor
  ·rintro ⟨i, hi, rfl⟩
   have hi := List.mem_range.1 (List.mem_filter.1 hi).1
   exact List.mem_of_getElem? (at_ i hi)
  ·intro hx
   obtain ⟨i, hi⟩ := List.getElem?_of_mem hx
   have hil : i < S.length := (List.getElem?_eq_some_iff.1 hi).1
   have hxi : S.toArray[i]! = x := getI_of hi
   clear hi
   induction i with
   | zero => exact ⟨0, List.mem_filter.2 ⟨List.mem_range.2 hil, Lib.keeps_lt_one _ 0 (by omega)⟩, hxi⟩
   | succ i ih =>
    by_cases hk : S.toArray[i + 1]! = S.toArray[i]!
    ·exact ih (by omega) (by rw [← hxi, hk])
    ·exact ⟨i + 1, List.mem_filter.2 ⟨List.mem_range.2 hil, Lib.keeps_pos (by simpa using hk)⟩, hxi⟩
theorem ver_clone {w : World} {F : Nat → Prop} {v : Value} {l : List Ver.V} (h : Vrs w F v l) (hl : l.length ≤ 1000000) :
  Calls Tryz.prog 137 #[v] w fun e w' => ∃ v', e = .returned v' ∧ RowsOwn 33 2 verV w l v' w' := by
 obtain ⟨i0, hi0, hz0, hz1, hz2⟩ := ver_parts verInfo
 have hb0 : Below w.heap.size w (w.alloc (.cells #[] 33)) := (Below.refl _ _).alloc (Nat.le_refl _) _
 have hr := h.below hb0
 have h0own : (w.alloc (.cells #[] 33)).ownsRow w.heap.size 33 2 (.slice (some ⟨w.heap.size, 0, none⟩) 0 0) 0 [] := World.ownsRow_made w #[] 0 (Nat.le_refl _) (by decide) rfl
 obtain ⟨A, cap, rfl, hcap, hat⟩ := h
 have q22 : ∀ (w : World) (a : Option Addr) (n c n' c' : Nat), (binOp .eql 29 (.slice a n c) (.slice none n' c')).run Tryz.prog w = .ok (.bool a.isNone) w := fun w a n c n' c' => Lib.run_eql_slice_nil w _ _ a n c n' c' Tryz.underlying29
 cases A with
 | none =>
  have h0 : l.length = 0 := Nat.eq_zero_of_not_pos (fun hp => by obtain ⟨b, o, e, -⟩ := hat hp; cases e)
  have hf : l = [] := List.eq_nil_of_length_eq_zero h0
  subst hf
  clear hr hat
  go_enter Tryz.func137, Tryz.ntmps137
  go_wp2_with fail
  go_ret
  exact ⟨_, rfl, RowsOwn.start _ _ _ w⟩
 | some ad =>
  clear hat
  go_enter Tryz.func137, Tryz.ntmps137
  go_wp2_with (at_builtin; refine wp_joins (f := verV) (k := 2) rfl _ _ 29 rfl w.heap.size 33 i0 (.agg #[.int .i64 0, .int .i64 0]) 16 Tryz.underlying29 hi0 hz0 hz1 hz2 rfl (by decide) rfl rfl h0own hr (fun _ _ => rfl) (fun x _ => ver_one x) ?a1 ?a2 ?a3 ?_)
  case a1 => unfold maxLen; omega
  case a2 => omega
  case a3 => simp
  intro v2 w2 own2 hg2 _
  have F2 := Lib.hid (RowsOwn.front (l := l) (f := verV) (k := 2) (t := 33) hg2 (by rw [Nat.zero_add, List.nil_append]; exact own2))
  clear own2 hg2 hr h0own
  go_wp2_with fail
  go_ret
  exact ⟨_, rfl, F2.out⟩
theorem ver_sortfn {w wr : World} {v : Value} {l : List Ver.V} (h : RowsOwn 33 2 verV w l v wr) (hl : l.length ≤ 1000000) :
  Calls Tryz.prog 138 #[v, .func (.func 139) #[] #[]] wr fun e w' => e = .returned (.tuple #[]) ∧ ∃ S : List Ver.V, RowsOwn 33 2 verV w S v w' ∧ S.Perm l ∧ ∀ (i j : Nat) (x y : Ver.V), i < j → S[i]? = some x → S[j]? = some y → ¬ Ver.Before y x := by
 rcases Nat.eq_zero_or_pos l.length with h0 | h0
 ·have hl0 : l = [] := List.eq_nil_of_length_eq_zero h0
  subst hl0
  obtain ⟨A, cap, e, -⟩ := (h.rows (fun _ _ => rfl)).parts
  rw [List.length_nil] at e
  subst e
  refine (AnyF.slices_SortFunc_none (P := Tryz.prog) (ρ := Tryz.sortVr_ren) { Tryz.sortVr with } A cap _ wr).mono ?_
  rintro e w' ⟨rfl, rfl⟩
  exact ⟨rfl, [], h, List.Perm.refl _, fun i j x y _ hx _ => by simp at hx⟩
 ·obtain ⟨g, cap, rfl, hg0, hgl⟩ := h.1.form (by omega)
  have eg : ∀ args w, (callFunc 139 args).run Tryz.prog w = .ok (.enter 139 args) w := enters_of Tryz.func139 (by kernel_rfl) rfl
  have hcon := AnyQ.slices_SortFunc Tryz.sortVr 2 Tryz.isAgg33 Tryz.sizeOf33 verV ver_len ver_one Ver.order swo_order 139 #[] g 0 cap l.toArray wr eg (fun _ _ _ _ x y => ver_order _ x y) (own_holds ver_len (by decide) h.1) hgl (by simp; omega)
  refine hcon.mono ?_
  rintro e w' ⟨rfl, d, n, os, hp, hs, rfl⟩
  obtain ⟨hperm, hsz⟩ := perm_list hp
  refine ⟨rfl, d.toList, h.sorted ver_len (by decide) hsz, hperm, fun i j x y hij hx hy => ?_⟩
  rw [Array.getElem?_toList] at hx hy
  obtain ⟨hi, ex⟩ := Array.getElem?_eq_some_iff.1 hx
  obtain ⟨hj, ey⟩ := Array.getElem?_eq_some_iff.1 hy
  have hlt := hs i j (Nat.zero_le _) hij (by simpa [hsz] using hj)
  rw [lt_order, getElem!_pos d i hi, getElem!_pos d j hj, ex, ey] at hlt
  exact of_decide_eq_false hlt
theorem ver_sort {w : World} {F : Nat → Prop} {v : Value} {l : List Ver.V} (h : Vrs w F v l) (hl : l.length ≤ 1000000) :
  Calls Tryz.prog 118 #[v] w fun e w' => ∃ v', e = .returned v' ∧ RowsOwn 33 2 verV w (Ver.sort l) v' w' := by
 have C := Lib.hid (ver_clone h hl)
 have SO := Lib.hid (fun (B : World) (x : Value) (hx : RowsOwn 33 2 verV w l x B) => ver_sortfn hx hl)
 have CO := Lib.hid (fun (B : World) (x : Value) (S : List Ver.V) (hs : S.length ≤ 1000000) (hx : RowsOwn 33 2 verV w S x B) => ver_compact hx hs)
 clear h
 go_enter Tryz.func118, Tryz.ntmps118
 go_wp2_with fail
 refine (C.out).mono ?_
 rintro e w1 ⟨x, rfl, hx⟩
 have HX := Lib.hid hx
 clear hx
 go_wp2_with fail
 refine (SO.out _ _ HX.out).mono ?_
 rintro e w2 ⟨rfl, S, hS, hperm, hup⟩
 have HS := Lib.hid hS
 have hSl : S.length ≤ 1000000 := by rw [hperm.length_eq]; exact hl
 have hfin : Hid (Ver.sort l = Lib.compact S) := Lib.hid (by
  obtain ⟨h1, h2⟩ := compact_sort hup
  exact Ver.sort_is h1 (fun x => (h2 x).trans hperm.mem_iff))
 clear hS hperm hup
 go_wp2_with fail
 refine (CO.out _ _ _ hSl HS.out).mono ?_
 rintro e w3 ⟨v3, rfl, h3⟩
 have H3 := Lib.hid h3
 clear h3
 go_wp2_with fail
 go_ret
 exact ⟨_, rfl, by rw [hfin.out]; exact H3.out⟩
open Go.RowKit Go.Sort
open Go.RowKit Go.Sort
theorem vers_ok : VersOk where
 check := fun v h => ver_check _ v h
 before := fun a b => ver_before _ a b
 sort := fun h hl => (ver_sort h hl).mono (fun e w' ⟨v', he, hr⟩ => ⟨v', he, hr.rows (fun _ _ => rfl), hr.2⟩)
theorem iset_ok : IsetOk := iset_of_vers vers_ok
open Go.RowKit Go.Sort
def Vec.zip (g : Int → Int → Int) (x y : List Int) : List Int := Vec.make fun i => g ((x[i]?).getD 0) ((y[i]?).getD 0)
theorem Vec.zip_join (a b : List Int) : Vec.zip max (Vec.clean a) (Vec.clean b) = Vec.join a b := Vec.make_ext (fun i hi => by rw [Vec.clean_get a hi, Vec.clean_get b hi]; rfl)
theorem run_callFunc_own {P : Program} {f : FuncId} (h : (P.funcs[f]?).map (fun fn => (fn.name == "runtime.NumGoroutine", fn.body.isNone)) = some (false, false)) (args : Array Value) (w : World) : (callFunc f args).run P w = .ok (.enter f args) w := by
 cases hf : P.funcs[f]? with
 | none => rw [hf] at h; cases h
 | some fn =>
  rw [hf] at h
  simp only [Option.map_some, Option.some.injEq, Prod.mk.injEq] at h
  have h1 : fn.name ≠ "runtime.NumGoroutine" := by simpa using h.1
  have h2 : fn.body ≠ none := fun e => by rw [e] at h; cases h.2
  simp [callFunc, hf, h1, h2]
def Takes (fn : FuncId) (g : Int → Int → Int) : Prop := ((Tryz.prog.funcs[fn]?).map (fun f => (f.name == "runtime.NumGoroutine", f.body.isNone)) = some (false, false)) ∧ ∀ (W : World) (m n : Int), Calls Tryz.prog fn #[.int .i64 m, .int .i64 n] W fun e w' => e = .returned (.int .i64 (g m n)) ∧ Laid W w'
theorem takes_max : Takes 117 max := by
 refine ⟨by kernel_rfl, fun W m n => ?_⟩
 have L := Lib.hid (Laid.refl W)
 by_cases h : m < n
 ·have e : Hid (max m n = n) := Lib.hid (by omega)
  go_enter Tryz.func117, Tryz.ntmps117
  go_wp2_with fail
  go_ret
  exact ⟨by rw [e.out]; rfl, L.out⟩
 ·have e : Hid (max m n = m) := Lib.hid (by omega)
  go_enter Tryz.func117, Tryz.ntmps117
  go_wp2_with fail
  go_ret
  exact ⟨by rw [e.out]; rfl, L.out⟩
theorem vec_zip {w : World} {ba bb : Nat} {x y : List Int} {fn : FuncId} {g : Int → Int → Int} (tk : Takes fn g) (hx : VRow w ba x) (hy : VRow w bb y) : Calls Tryz.prog 136 #[.func (.func fn) #[] #[], .pointer (some ⟨ba, 0, none⟩), .pointer (some ⟨bb, 0, none⟩)] w fun e w' => e = .returned (vecA (Vec.zip g x y)) ∧ Laid w w' := by
 have hz := vecZero
 have hb1 : VRow ((w.alloc (.cells (vecR Vec.zeros) 28)).alloc (.cells (vecR Vec.zeros) 28)) w.heap.size Vec.zeros := (VRow.made w Vec.zeros_len).alloc _
 have hb2 : VRow ((w.alloc (.cells (vecR Vec.zeros) 28)).alloc (.cells (vecR Vec.zeros) 28)) (w.heap.size + 1) Vec.zeros := by
  have := VRow.made (w.alloc (.cells (vecR Vec.zeros) 28)) (v := Vec.zeros) Vec.zeros_len
  rwa [World.size_alloc] at this
 have HL0 : Hid (Laid w ((w.alloc (.cells (vecR Vec.zeros) 28)).alloc (.cells (vecR Vec.zeros) 28))) := Lib.hid ((Laid.new w _).alloc _)
 have HB1 := Lib.hid hb1
 have HB2 := Lib.hid hb2
 have HX := Lib.hid hx
 have HY := Lib.hid hy
 have TK := Lib.hid tk.2
 have hcf := run_callFunc_own tk.1
 clear hx hy hb1 hb2 tk
 go_enter Tryz.func136, Tryz.ntmps136
 go_wp2_with fail
 go_loopw [7] (fun i wr => ∃ k : Nat, k ≤ 65 ∧ i = .int .i64 (k : Int) ∧ VRow wr w.heap.size Vec.zeros ∧ VRow wr (w.heap.size + 1) (Vec.part (fun i => g ((x[i]?).getD 0) ((y[i]?).getD 0)) Vec.zeros k) ∧ Laid w wr) (fun i _ => 65 - (intOf i).toNat)
 case atStart => exact ⟨0, Nat.zero_le _, rfl, HB1.out, by rw [Vec.part_zero]; exact HB2.out, HL0.out⟩
 case round =>
  obtain ⟨k, hk, rfl, h1, h2, h3⟩ := hrel
  by_cases hlt : k < 65
  ·obtain ⟨m, hm⟩ : ∃ n, x[k]? = some n := ⟨_, List.getElem?_eq_getElem (by rw [HX.out.len]; exact hlt)⟩
   obtain ⟨n, hn⟩ : ∃ n, y[k]? = some n := ⟨_, List.getElem?_eq_getElem (by rw [HY.out.len]; exact hlt)⟩
   have had := fun b => vec_addr hlt b
   have hk0 : (0 : Int) ≤ (k : Int) := by omega
   have hk1 : (k : Int) < 65 := by omega
   have XC := Lib.hid (show ∀ W, Laid wr W → W.cell? ⟨ba, k, none⟩ = some (.int .i64 m) ∧ W.cell? ⟨bb, k, none⟩ = some (.int .i64 n) from fun W hW => ⟨(HX.out.below (h3.trans hW).below HX.out.inHeap).at hm, (HY.out.below (h3.trans hW).below HY.out.inHeap).at hn⟩)
   have e : Hid ((Vec.part (fun i => g ((x[i]?).getD 0) ((y[i]?).getD 0)) Vec.zeros k).set k (g m n) = Vec.part (fun i => g ((x[i]?).getD 0) ((y[i]?).getD 0)) Vec.zeros (k + 1)) := Lib.hid (by
    rw [← Vec.part_set _ Vec.zeros_len hlt, hm, hn]; rfl)
   have hz0 : Vec.zeros[k]? = some 0 := List.getElem?_replicate .. |>.trans (if_pos hlt)
   have hpk : (Vec.part (fun i => g ((x[i]?).getD 0) ((y[i]?).getD 0)) Vec.zeros k)[k]? = some 0 := by rw [Vec.part_ge _ _ (by omega) (Nat.le_refl k)]; exact hz0
   have Hpk := Lib.hid hpk
   have H1 := Lib.hid h1
   have H2 := Lib.hid h2
   have H3 := Lib.hid h3
   clear h1 h2 h3 hm hn hz0 hpk
   go_wp2_with fail
   refine wp_region_tail (n := 9) (S := (fun w' : World => Laid wr w')) (by kernel_rfl) (by kernel_rfl) (by rfl) ((Laid.refl wr).drew) (fun hHeld => ?_)
   refine wpAnyH_td (i := 0) rfl ?_
   simp only [zz]
   refine wpAnyH_td (i := 1) rfl ?_
   simp only [zz]
   refine wpAnyH_td (i := 2) rfl ?_
   simp only [zz]
   refine wpAnyH_td (i := 3) rfl ?_
   simp only [zz]
   refine wpAnyH_tk (i := 4) (v := ?_) rfl (Or.inl ⟨by rfl, (by intro w hSw; obtain ⟨d0, d1⟩ := XC.out _ hSw; go_simp; try with_reducible rfl)⟩) (by assumption) ?_
   simp only [zz]
   refine wpAnyH_td (i := 5) rfl ?_
   simp only [zz]
   refine wpAnyH_td (i := 6) rfl ?_
   simp only [zz]
   refine wpAnyH_tk (i := 7) (v := ?_) rfl (Or.inl ⟨by rfl, (by intro w hSw; obtain ⟨d0, d1⟩ := XC.out _ hSw; go_simp; try with_reducible rfl)⟩) (by assumption) ?_
   simp only [zz]
   refine wpAnyH_ready (rs := [8]) (by kernel_rfl) (by simp) ?_
   refine AllReadyH.cons rfl (fun K hK => ?_) AllReadyH.nil
   go_simp
   refine (TK.out _ _ _).mono ?_
   rintro e w8 ⟨rfl, h8⟩
   have hL := Laid.trans hHeld h8
   have c8 := (H2.out.below hL.below H2.out.inHeap).at Hpk.out
   have f8 := (H2.out.below hL.below H2.out.inHeap).free k
   have H8 : Hid (Laid wr w8) := Lib.hid hL
   have H2w := Lib.hid (H2.out.below hL.below H2.out.inHeap)
   clear h8
   refine hK.out _ _ hL (fun hHeld => ?_)
   clear hK K
   refine wpAnyH_done (by kernel_rfl) ?_ _
   refine wpAny_of_held (S := fun _ => True) _ _ _ _ ?_
   have hHeld : True := trivial
   refine wpAnyH_td (i := 9) rfl ?_
   simp only [zz]
   refine wpAnyH_ready (rs := [10]) (by kernel_rfl) (by simp) ?_
   refine AllReadyH.cons rfl (fun K hK => ?_) AllReadyH.nil
   go_simp
   refine hK.out _ _ trivial (fun hHeld => ?_)
   clear hK K
   refine wpAnyH_done (by kernel_rfl) ?_ _
   have h2 := H2w.out.stored k (g m n)
   rw [e.out] at h2
   have H2n := Lib.hid h2
   have H1n := Lib.hid ((H1.out.below H8.out.below H1.out.inHeap).storedElsewhere (p := ⟨w.heap.size + 1, k, none⟩) (by show w.heap.size + 1 ≠ w.heap.size; omega) (.int .i64 (g m n)))
   have H3n := Lib.hid ((H3.out.trans H8.out).stored (p := ⟨w.heap.size + 1, k, none⟩) (Nat.le_succ _) (.int .i64 (g m n)))
   clear h2 c8 f8
   go_wp2_with fail
   exact ⟨⟨k + 1, by omega, rfl, H1n.out, H2n.out, H3n.out⟩, by show 65 - ((k : Int) + 1).toNat < 65 - (k : Int).toNat; omega⟩
  ·obtain rfl : k = 65 := by omega
   rw [Vec.part_all _ Vec.zeros_len] at h2
   have H1 := Lib.hid h1
   have H2 := Lib.hid h2
   have H3 := Lib.hid h3
   have Hc : Hid ((Vec.zip g x y).length = 65) := Lib.hid (Vec.make_len _)
   clear h1 h2 h3
   go_wp2_with (first | refine wpList_vload (v := Vec.zip g x y) (by rfl) _ (by rfl) (by rfl) H2.out ?_ | refine wpList_vstore (by rfl) _ _ (by rfl) (by rfl) (by rfl) H1.out Hc.out ?_)
   exact bodyPost_ret (v := vecA (Vec.zip g x y)) (results_cell_row (by rfl) _ _ w.heap.size 28 _ (0, 0) _ (by rfl) (H1.out.set _ Hc.out).row Tryz.underlying28 rfl (vecSize Hc.out)) rfl ⟨rfl, H3.out.set (Nat.le_refl _) _⟩
theorem vec_joiner (w : World) {a b : List Int} (ha : a.length = 65) (hb : b.length = 65) : Calls Tryz.prog 116 #[vecA a, vecA b] w fun e w' => e = .returned (.func (.func 136) #[] #[.pointer (some ⟨w.heap.size, 0, none⟩), .pointer (some ⟨w.heap.size + 1, 0, none⟩)]) ∧ VRow w' w.heap.size (Vec.clean a) ∧ VRow w' (w.heap.size + 1) (Vec.clean b) ∧ Laid w w' := by
 have CA := Lib.hid (fun W => vec_clean W ha)
 have CB := Lib.hid (fun W => vec_clean W hb)
 have hla : (Vec.clean a).length = 65 := Vec.clean_len a
 have hlb : (Vec.clean b).length = 65 := Vec.clean_len b
 have r0 : VRow ((w.alloc (.cells (vecR a) 28)).alloc (.cells (vecR b) 28)) w.heap.size a := (VRow.made w ha).alloc _
 have r1 : VRow ((w.alloc (.cells (vecR a) 28)).alloc (.cells (vecR b) 28)) (w.heap.size + 1) b := by
  have := VRow.made (w.alloc (.cells (vecR a) 28)) hb
  rwa [World.size_alloc] at this
 have hL : Laid w ((w.alloc (.cells (vecR a) 28)).alloc (.cells (vecR b) 28)) := (Laid.new w _).alloc _
 have hsz : ((w.alloc (.cells (vecR a) 28)).alloc (.cells (vecR b) 28)).heap.size = w.heap.size + 1 + 1 := by simp
 have R0 := Lib.hid r0
 have R1 := Lib.hid r1
 have HL := Lib.hid hL
 have HA := Lib.hid hla
 have HB := Lib.hid hlb
 clear r0 r1 hL hla hlb ha hb hsz
 go_enter Tryz.func116, Tryz.ntmps116
 go_wp2_with fail
 generalize (w.alloc (.cells (vecR a) 28)).alloc (.cells (vecR b) 28) = W0 at *
 refine wp_region_tail (n := 4) (S := (fun w' : World => Laid W0 w')) (by kernel_rfl) (by kernel_rfl) (by rfl) ((Laid.refl W0).drew) (fun hHeld => ?_)
 refine wpAnyH_tk (i := 0) (v := vecA a) rfl (Or.inl ⟨by rfl, (by intro w hSw; exact exec_vload (by rfl) (by rfl) (R0.out.below (Laid.below hSw) R0.out.inHeap))⟩) (by assumption) ?_
 simp only [zz]
 refine wpAnyH_tk (i := 2) (v := vecA b) rfl (Or.inl ⟨by rfl, (by intro w hSw; exact exec_vload (by rfl) (by rfl) (R1.out.below (Laid.below hSw) R1.out.inHeap))⟩) (by assumption) ?_
 simp only [zz]
 refine wpAnyH_ready (rs := [1]) (by kernel_rfl) (by simp) ?_
 refine AllReadyH.cons rfl (fun K hK => ?_) AllReadyH.nil
 go_simp
 go_at_call 114
 refine (CA.out _).mono ?_
 rintro e w8 ⟨rfl, h8⟩
 have hL := Laid.trans hHeld h8
 refine hK.out _ _ hL (fun hHeld => ?_)
 clear h8 hL
 clear hK K
 refine wpAnyH_ready (rs := [3]) (by kernel_rfl) (by simp) ?_
 refine AllReadyH.cons rfl (fun K hK => ?_) AllReadyH.nil
 go_simp
 go_at_call 114
 refine (CB.out _).mono ?_
 rintro e w9 ⟨rfl, h8⟩
 have hL := Laid.trans hHeld h8
 have L9 : Hid (Laid W0 w9) := Lib.hid hL
 have Q0 := Lib.hid (R0.out.below L9.out.below R0.out.inHeap)
 have Q1 := Lib.hid ((R1.out.below L9.out.below R1.out.inHeap).setElsewhere (c := w.heap.size) (by omega) (vecR (Vec.clean a)))
 refine hK.out _ _ hL (fun hHeld => ?_)
 clear h8 hL
 clear hK K
 refine wpAnyH_done (by kernel_rfl) ?_ _
 refine wpAny_of_held (S := fun _ => True) _ _ _ _ ?_
 have hHeld : True := trivial
 refine wpAnyH_ready (rs := [4]) (by kernel_rfl) (by simp) ?_
 refine AllReadyH.cons rfl (fun K hK => ?_) AllReadyH.nil
 refine step_vstore (.tmp 2) (.tmp 6) rfl (by rfl) (by rfl) (by rfl) Q0.out HA.out ?_
 refine hK.out _ _ trivial (fun hHeld => ?_)
 clear hK K
 refine wpAnyH_ready (rs := [5]) (by kernel_rfl) (by simp) ?_
 refine AllReadyH.cons rfl (fun K hK => ?_) AllReadyH.nil
 refine step_vstore (.tmp 3) (.tmp 8) rfl (by rfl) (by rfl) (by rfl) Q1.out HB.out ?_
 have F0 := Lib.hid ((Q0.out.set _ HA.out).setElsewhere (c := w.heap.size + 1) (by omega) (vecR (Vec.clean b)))
 have F1 := Lib.hid (Q1.out.set _ HB.out)
 have F2 := Lib.hid (((HL.out.trans L9.out).set (Nat.le_refl _) (vecR (Vec.clean a))).set (b := w.heap.size + 1) (Nat.le_succ _) (vecR (Vec.clean b)))
 refine hK.out _ _ trivial (fun hHeld => ?_)
 clear hK K
 refine wpAnyH_done (by kernel_rfl) ?_ _
 go_wp2_with fail
 go_ret
 exact ⟨rfl, F0.out, F1.out, F2.out⟩
theorem vec_join (w : World) {a b : List Int} (ha : a.length = 65) (hb : b.length = 65) : Calls Tryz.prog 96 #[vecA a, vecA b] w fun e w' => e = .returned (vecA (Vec.join a b)) ∧ Laid w w' := by
 have hz := vecZero
 have JO := Lib.hid (fun W => vec_joiner W ha hb)
 have start : ∃ W, W = ((w.alloc (.cells (vecR a) 28)).alloc (.cells (vecR b) 28)).alloc (.cells (vecR Vec.zeros) 28) ∧ VRow W w.heap.size a ∧ VRow W (w.heap.size + 1) b ∧ VRow W (w.heap.size + 1 + 1) Vec.zeros ∧ Laid w W := by
  refine ⟨_, rfl, ((VRow.made w ha).alloc _).alloc _, ?_, ?_, ((Laid.new w _).alloc _).alloc _⟩
  ·have := (VRow.made (w.alloc (.cells (vecR a) 28)) hb).alloc (.cells (vecR Vec.zeros) 28)
   rwa [World.size_alloc] at this
  ·have := VRow.made ((w.alloc (.cells (vecR a) 28)).alloc (.cells (vecR b) 28)) (v := Vec.zeros) Vec.zeros_len
   rwa [World.size_alloc, World.size_alloc] at this
 obtain ⟨W, hW, r0, r1, r2, hL⟩ := start
 have HW := Lib.hid hW
 have R0 := Lib.hid r0
 have R1 := Lib.hid r1
 have R2 := Lib.hid r2
 have HL := Lib.hid hL
 have HJ := Lib.hid (Vec.zip_join a b)
 have Hc : Hid ((Vec.join a b).length = 65) := Lib.hid (Vec.make_len _)
 clear ha hb r0 r1 r2 hL
 go_enter Tryz.func96, Tryz.ntmps96
 go_wp2_with (first | refine wpList_vload (by rfl) _ (by rfl) (by rfl) (HW.out ▸ R0.out) ?_ | refine wpList_vload (by rfl) _ (by rfl) (by rfl) (HW.out ▸ R1.out) ?_)
 rw [← hW]
 refine (JO.out _).mono ?_
 rintro e w1 ⟨rfl, h1, h2, h3⟩
 have ZI := Lib.hid (vec_zip takes_max h1 h2)
 have S2 := Lib.hid (R2.out.below h3.below R2.out.inHeap)
 have S3 := Lib.hid (HL.out.trans h3)
 clear h1 h2 h3 hW
 go_wp2_with fail
 refine ZI.out.mono ?_
 rintro e w2 ⟨rfl, h4⟩
 rw [HJ.out]
 have S4 := Lib.hid (S2.out.below h4.below S2.out.inHeap)
 have S5 := Lib.hid (S3.out.trans h4)
 clear h4
 go_wp2_with (refine wpList_vstore (by rfl) _ _ (by rfl) (by rfl) (by rfl) S4.out Hc.out ?_)
 exact bodyPost_ret (v := vecA (Vec.join a b)) (results_cell_row (by rfl) _ _ (w.heap.size + 1 + 1) 28 _ (0, 0) _ (by rfl) (S4.out.set _ Hc.out).row Tryz.underlying28 rfl (vecSize Hc.out)) rfl ⟨rfl, S5.out.set (by omega) _⟩
end Go.Proofs.YtkcgmnhjofoeiaaGreat
