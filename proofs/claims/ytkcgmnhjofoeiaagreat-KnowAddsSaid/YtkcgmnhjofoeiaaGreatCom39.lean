import Derived.Test.YtkcgmnhjofoeiaaGreatCom38
import Derived.Test.YtkcgmnhjofoeiaaGreatCom14
import Derived.Test.YtkcgmnhjofoeiaaGreatCom37
import Derived.Test.YtkcgmnhjofoeiaaGreatCom36
import Derived.Test.YtkcgmnhjofoeiaaGreatCom6
import Derived.Test.YtkcgmnhjofoeiaaGreatCom25
import Derived.Test.YtkcgmnhjofoeiaaGreatCom8
import Derived.Test.YtkcgmnhjofoeiaaGreatCom10
import Derived.Shelf.Spec.SlicesGrow
import Derived.WalkMore
set_option maxRecDepth 100000
set_option linter.all false
set_option maxHeartbeats 12800000
namespace Go.Proofs.YtkcgmnhjofoeiaaGreat
open Go.RowKit Go.Shelf Go.Lib
theorem sz_grow (n : Nat) (hn : n ≤ 2000000) (w : World) :
  Calls Tryz.prog 167 #[.slice none 0 0, .int .i64 (n : Int)] w fun e w' => ∃ v, e = .returned v ∧ RowsOwn 85 2 rgV w [] v w' := by
 obtain ⟨i0, hi0, hz0, hz1, hz2⟩ := info_parts rangeInfo
 by_cases h0 : n = 0
 ·subst h0
  refine (Any8.slices_Grow_room Tryz.growRg none 0 0 0 w (Nat.le_refl _) (by omega) (by omega) (by omega)).mono ?_
  rintro e w' ⟨rfl, rfl⟩
  exact ⟨_, rfl, RowsOwn.start _ _ _ _⟩
 ·refine (Any8.slices_Grow_grow Tryz.growRg i0 (.agg #[.int .i64 0, .int .i64 0]) hi0 hz0 (by omega) none 0 0 n [] w (Nat.le_refl _) (by omega) (by rw [hz2]; omega) (by omega) (by simp) (fun _ => rfl) (fun a h => by cases h)).mono ?_
  rintro e w' ⟨rfl, rfl⟩
  refine ⟨_, rfl, ?_, ((Below.refl _ w).drew).alloc (Nat.le_refl _) _⟩
  have hG := grownCap_ge w (0 + n) 0 (Tryz.growRg_ren.t 25)
  have hM := grownCap_le_maxLen w (0 + n) 0 (Tryz.growRg_ren.t 25) (by unfold maxLen; omega)
  refine World.ownsRow_made w.drew _ _ (Nat.le_refl _) hM ?_
  have hzc : (Value.agg #[.int .i64 0, .int .i64 0]).cells.size = 2 := rfl
  simp only [Array.size_append, size_zeroCells, hzc, List.size_toArray, List.length_nil]
  omega
theorem sz_concat {w : World} {F G : Nat → Prop} {u v : Value} {a b : List Sz.Rg} {bk : Nat} (ha : Rgs w F u a) (hb : Rgs w G v b) (la : a.length ≤ 500000) (lb : b.length ≤ 500000) (c0 : w.cell? ⟨bk, 0, none⟩ = some u) (c1 : w.cell? ⟨bk, 1, none⟩ = some v) (hk : bk < w.heap.size) :
  Calls Tryz.prog 144 #[.slice (some ⟨bk, 0, none⟩) 2 2] w fun e w' => ∃ v', e = .returned v' ∧ RowsOwn 85 2 rgV w (a ++ b) v' w' := by
 obtain ⟨i0, hi0, hz0, hz1, hz2⟩ := info_parts rangeInfo
 obtain ⟨A, c, rfl, hc⟩ := ha.parts
 obtain ⟨B, d, rfl, hd⟩ := hb.parts
 have HA := Lib.hid ha
 have HB := Lib.hid hb
 have la0 : (a.length : Int) ≤ 500000 := by omega
 have lb0 : (b.length : Int) ≤ 500000 := by omega
 have la1 : (0 : Int) ≤ (a.length : Int) := by omega
 have lb1 : (0 : Int) ≤ (b.length : Int) := by omega
 have HG : Hid (∀ W, Calls Tryz.prog 167 #[.slice none 0 0, .int .i64 ((a.length : Int) + (b.length : Int))] W fun e w' => ∃ v, e = .returned v ∧ RowsOwn 85 2 rgV W [] v w') := Lib.hid (fun W => by
  have := sz_grow (a.length + b.length) (by omega) W
  rwa [Int.natCast_add] at this)
 clear ha hb
 go_enter Tryz.func144, Tryz.ntmps144
 go_wp2_with fail
 refine wp_loop_rounds 3 ?_
 rw [rounds_succ]
 go_wp2_with fail
 rw [rounds_succ]
 go_wp2_with fail
 rw [rounds_succ]
 go_wp2_with fail
 refine (HG.out w).mono ?_
 rintro e w1 ⟨v1, rfl, h1⟩
 have hg1 := HA.out.below h1.2
 have hz1' : w.heap.size ≤ w1.heap.size := h1.2.size
 have e0 : w1.cell? ⟨bk, 0, none⟩ = some (.slice A a.length c) := (h1.2.cell (p := ⟨bk, 0, none⟩) hk).trans c0
 have e1 : w1.cell? ⟨bk, 1, none⟩ = some (.slice B b.length d) := (h1.2.cell (p := ⟨bk, 1, none⟩) hk).trans c1
 have H1 := Lib.hid h1
 have own1 := h1.1
 clear h1 c0 c1
 go_wp2_with fail
 refine wp_loop_rounds 3 ?_
 rw [rounds_succ]
 go_wp2_with (at_builtin; refine wp_joins (f := rgV) (k := 2) rfl _ _ 82 rfl w.heap.size 85 i0 (.agg #[.int .i64 0, .int .i64 0]) 16 Tryz.underlying82 hi0 hz0 hz1 hz2 rfl (by decide) rfl rfl own1 hg1 (fun _ _ => rfl) (fun x _ => rg_one x) ?c3 ?c4 hz1' ?_)
 case c3 => unfold maxLen; first | omega | (simp <;> omega)
 case c4 => first | omega | (simp <;> omega)
 intro v2 w2 j1 j2 j3
 have h2 : RowsOwn 85 2 rgV w a v2 w2 := ⟨by simpa using j1, H1.out.2.grown j2 H1.out.2.size (fun k hk => (H1.out.1.lt k hk).1)⟩
 have hg2 := HB.out.below h2.2
 have hz2' : w.heap.size ≤ w2.heap.size := h2.2.size
 have f1 : w2.cell? ⟨bk, 1, none⟩ = some (.slice B b.length d) := (j2.cell e1 (fun e => by have := (H1.out.1.lt bk e.symm).1; omega))
 have H2 := Lib.hid h2
 have own2 := h2.1
 clear h2 j1 j2 j3 H1 own1 hg1 e0 e1
 go_wp2_with fail
 rw [rounds_succ]
 go_wp2_with (at_builtin; refine wp_joins (f := rgV) (k := 2) rfl _ _ 82 rfl w.heap.size 85 i0 (.agg #[.int .i64 0, .int .i64 0]) 16 Tryz.underlying82 hi0 hz0 hz1 hz2 rfl (by decide) rfl rfl own2 hg2 (fun _ _ => rfl) (fun x _ => rg_one x) ?c3 ?c4 hz2' ?_)
 case c3 => unfold maxLen; first | omega | (simp <;> omega)
 case c4 => first | omega | (simp <;> omega)
 intro v3 w3 j1 j2 j3
 have h3 : RowsOwn 85 2 rgV w (a ++ b) v3 w3 := ⟨by rw [List.length_append, List.flatMap_append]; exact j1, H2.out.2.grown j2 H2.out.2.size (fun k hk => (H2.out.1.lt k hk).1)⟩
 have H3 := Lib.hid h3
 clear h3 j1 j2 j3 H2 own2 hg2 f1
 go_wp2_with fail
 rw [rounds_succ]
 go_wp2_with fail
 go_ret
 exact ⟨v3, rfl, H3.out⟩
theorem sz_join {w : World} {F G : Nat → Prop} {u v : Value} {a b : List Sz.Rg} (ha : Rgs w F u a) (hb : Rgs w G v b) (la : a.length ≤ 500000) (lb : b.length ≤ 500000) :
  Calls Tryz.prog 121 #[u, v] w fun e w' => ∃ v', e = .returned v' ∧ RowsOwn 85 2 rgV w (Sz.two 0 a b) v' w' := by
 obtain ⟨A, c, rfl, hc⟩ := ha.parts
 obtain ⟨B, d, rfl, hd⟩ := hb.parts
 have hb0 : Below w.heap.size w (w.alloc (.cells #[.slice A a.length c, .slice B b.length d] 82)) := (Below.refl _ _).alloc (Nat.le_refl _) _
 have hrow := Row.made w 82 #[.slice A a.length c, .slice B b.length d]
 have HC := Lib.hid (sz_concat (ha.below hb0) (hb.below hb0) la lb (hrow.at 0) (hrow.at 1) (by simp))
 have Hb0 := Lib.hid hb0
 have hfin : Hid (∀ w1 v1, RowsOwn 85 2 rgV (w.alloc (.cells #[.slice A a.length c, .slice B b.length d] 82)) (a ++ b) v1 w1 → Calls Tryz.prog 128 #[v1] w1 fun e w' => ∃ v', e = .returned v' ∧ RowsOwn 85 2 rgV w (Sz.two 0 a b) v' w') := Lib.hid (by
  intro w1 v1 h1
  refine (sz_norm (h1.rows (fun _ _ => rfl)) (by rw [List.length_append]; omega)).mono ?_
  rintro e w' ⟨v', rfl, h2⟩
  rw [Sz.join_is] at h2
  exact ⟨v', rfl, (h2.since h1.2).since Hb0.out⟩)
 clear ha hb hb0 hrow
 go_enter Tryz.func121, Tryz.ntmps121
 go_wp2_with fail
 refine (HC.out).mono ?_
 rintro e w1 ⟨v1, rfl, h1⟩
 have HN := Lib.hid (hfin.out w1 v1 h1)
 clear h1
 go_wp2_with fail
 refine (HN.out).mono ?_
 rintro e w2 ⟨v2, rfl, h2⟩
 have H2 := Lib.hid h2
 clear h2
 go_wp2_with fail
 go_ret
 exact ⟨v2, rfl, H2.out⟩
open Go.RowKit
theorem new_rows {w w' : World} {v : Value} {l : List Sz.Rg} (h : RowsOwn 85 2 rgV w l v w') : Rgs w' (NewIn w w') v l ∧ Below w.heap.size w w' := ⟨h.rows (fun _ _ => rfl), h.2⟩
theorem sizes_ok : SizesOk where
 norm := fun h hl _ => (sz_norm h (by omega)).mono (fun e w' ⟨v', he, hr⟩ => ⟨v', he, new_rows hr⟩)
 join := fun ha hb la lb _ _ => (sz_join ha hb (by omega) (by omega)).mono (fun e w' ⟨v', he, hr⟩ => ⟨v', he, new_rows hr⟩)
 meet := fun ha hb la lb _ _ => sz_meet ha hb (by omega) (by omega)
 minus := fun ha hb la lb _ _ => sz_minus ha hb (by omega) (by omega)
open Go.RowKit
theorem filter_ok : FilterOk where
 all := flt_all
 norm := fun h hl _ bf => flt_norm sizes_ok h hl bf
theorem cover_ok : CoverOk := cover_of filter_ok sizes_ok
open Go.RowKit Go.Sort
def Finds (w : World) (S : List Ver.V) (fv : Value) : Prop := ∃ B s F, fv = .func (.func 151) #[] #[.pointer (some ⟨B, 0, none⟩)] ∧ B < w.heap.size ∧ w.cell? ⟨B, 0, none⟩ = some s ∧ Vrs w F s S ∧ Ver.Up S ∧ S.length ≤ 1000000
theorem Finds.below {w w' : World} {S : List Ver.V} {fv : Value} (h : Finds w S fv) (hb : Below w.heap.size w w') : Finds w' S fv := by
 obtain ⟨B, s, F, e, hB, hc, hs, hu, hl⟩ := h
 exact ⟨B, s, F, e, Nat.lt_of_lt_of_le hB hb.size, (hb.cell (p := ⟨B, 0, none⟩) hB).trans hc, hs.below hb, hu, hl⟩
theorem finder_is (Z : VersOk) {w : World} {S : List Ver.V} {B : Nat} {s : Value} {F : Nat → Prop} (hc : w.cell? ⟨B, 0, none⟩ = some s) (hs : Vrs w F s S) (hu : Ver.Up S) (hl : S.length ≤ 1000000) (x : Ver.V) :
  Calls Tryz.prog 151 #[verA x, .pointer (some ⟨B, 0, none⟩)] w fun e w' => e = .returned (.bool (decide (x ∈ S))) ∧ Laid w w' := by
 have mixed : Tryz.prog.follows .mixedOrders = true := by kernel_rfl
 obtain ⟨A, cap, rfl, hcap⟩ := hs.parts
 have H := Lib.hid hs
 have HU := Lib.hid hu
 have HLn := Lib.hid hl
 have hBW := World.block_lt_of_cell? w _ hc
 have hc1 : (w.alloc (.cells #[.int .i64 x.by_, .int .i64 x.n] 33)).cell? ⟨B, 0, none⟩ = some (.slice A S.length cap) := ((Laid.new w _).below.cell (p := ⟨B, 0, none⟩) hBW).trans hc
 obtain ⟨x1, x2⟩ := x
 simp only at hc1
 have LB := Lib.hid (Laid.new w (.cells #[.int .i64 x1, .int .i64 x2] 33))
 have XB := Lib.hid (iset_boxed w x1 x2)
 have BE := Lib.hid (fun W (y : Ver.V) => Z.before (w := W) y ⟨x1, x2⟩)
 have BF := Lib.hid (fun W (y : Ver.V) => Z.before (w := W) ⟨x1, x2⟩ y)
 clear hc hs hu hl hBW
 go_enter Tryz.func151, Tryz.ntmps151
 go_wp2_with fail
 go_step3
 go_wp2_with fail
 go_step3
 go_wp2_with fail
 go_loopw [4] (fun v wr => ∃ (m : List Ver.V) (A : Option Addr) (cap : Nat), v = .slice A m.length cap ∧ m.length ≤ 1000000 ∧ Hid (Vrs wr F v m ∧ Ver.Up m ∧ ((⟨x1, x2⟩ : Ver.V) ∈ S ↔ (⟨x1, x2⟩ : Ver.V) ∈ m)) ∧ Laid (w.alloc (.cells #[.int .i64 x1, .int .i64 x2] 33)) wr) (fun v _ => match v with | .slice _ n _ => n | _ => 0)
 case atStart => exact ⟨S, A, cap, rfl, HLn.out, Lib.hid ⟨H.out.below LB.out.below, HU.out, Iff.rfl⟩, Laid.refl _⟩
 case round =>
  obtain ⟨m, A, cap, rfl, hml, hm, hlaid⟩ := hrel
  have HLD := Lib.hid hlaid
  have HL := Lib.hid (LB.out.trans hlaid)
  by_cases h0 : 0 < m.length
  ·obtain ⟨b, o, cap1, e, hcc, -, hb⟩ := hm.out.1.block h0
   injection e with e1 e2 e3
   subst e1 e3
   clear e2
   have hd0 : m.length / 2 < m.length := by omega
   have hdiv : (m.length : Int) / 2 = ((m.length / 2 : Nat) : Int) := by omega
   have htd : (m.length : Int).tdiv 2 = ((m.length / 2 : Nat) : Int) := by rw [Int.tdiv_eq_ediv_of_nonneg (by omega)]; omega
   obtain ⟨y, hy⟩ : ∃ y, m[m.length / 2]? = some y := ⟨_, List.getElem?_eq_getElem hd0⟩
   have Hy := Lib.hid hy
   have Hd := Lib.hid hd0
   have Hcap := Lib.hid hcc
   obtain ⟨c0, c1⟩ := Vrs.at hm.out.1 hy
   generalize hi : m.length / 2 = i at *
   obtain ⟨q0, q1⟩ := XB.out _ hlaid
   have C0 := cells_grown c0
   have C1 := cells_grown c1
   have Q0 := cells_grown q0
   have Q1 := cells_grown q1
   have hi0 : (0 : Int) ≤ (i : Int) := by omega
   have hi1 : (i : Int) < (m.length : Int) := by omega
   have hm0 : (0 : Int) < (m.length : Int) := by omega
   have hmc : (m.length : Int) ≤ (cap : Int) := by omega
   have hml' : (m.length : Int) ≤ 1000000 := by omega
   clear hlaid hy
   by_cases hb1 : Ver.Before y ⟨x1, x2⟩
   ·have BY : Hid (∀ W, Calls Tryz.prog 152 #[.agg #[.int .i64 y.by_, .int .i64 y.n], .agg #[.int .i64 x1, .int .i64 x2]] W fun e w' => e = .returned (.bool true) ∧ ∃ q os, w' = grow (W.drewN q) os) := Lib.hid (fun W => by have := BE.out W y; simp only [hb1, decide_true] at this; exact this)
    have hnext := Lib.hid (Iset.half_up hm.out.2.1 Hy.out hb1)
    have hlen : Hid ((m.drop (i + 1)).length = m.length - (i + 1)) := Lib.hid List.length_drop
    have hdr := Lib.hid (hm.out.1.drop rfl (i + 1) (by omega) (cap - (i + 1)) (by omega))
    clear hb1 c0 c1 q0 q1
    by_cases hc1 : i + 1 = cap
    ·have hc1' : (i : Int) + 1 = (cap : Int) := by omega
     have hz : Hid (m.drop (i + 1) = []) := Lib.hid (List.drop_of_length_le (by have := Hcap.out; omega))
     go_wp2_with fail
     go_quiet_grown (first | (go_at_call 152; with_reducible refine Calls.grown_of (BY.out _)))
     have HG : Hid (Laid wr (grow (wr.drewN nq) osq)) := Lib.hid ⟨nq, osq, rfl⟩
     generalize grow (wr.drewN nq) osq = W at *
     go_wp2_with fail
     exact ⟨⟨[], _, _, rfl, Nat.zero_le _, Lib.hid ⟨Rws.empty _ _ _ _, List.Pairwise.nil, by have := hnext.out.2; rw [hz.out] at this; exact hm.out.2.2.trans this⟩, HLD.out.trans HG.out⟩, h0⟩
    ·have hc1' : ¬ (i : Int) + 1 = (cap : Int) := by omega
     go_wp2_with fail
     go_quiet_grown (first | (go_at_call 152; with_reducible refine Calls.grown_of (BY.out _)))
     have HG : Hid (Laid wr (grow (wr.drewN nq) osq)) := Lib.hid ⟨nq, osq, rfl⟩
     generalize grow (wr.drewN nq) osq = W at *
     go_wp2_with fail
     exact ⟨⟨m.drop (i + 1), _, _, by rw [hlen.out], by rw [hlen.out]; omega, Lib.hid ⟨Rws.below hdr.out HG.out.below, hnext.out.1, hm.out.2.2.trans hnext.out.2⟩, HLD.out.trans HG.out⟩, by show m.length - (i + 1) < m.length; omega⟩
   ·have BN : Hid (∀ W, Calls Tryz.prog 152 #[.agg #[.int .i64 y.by_, .int .i64 y.n], .agg #[.int .i64 x1, .int .i64 x2]] W fun e w' => e = .returned (.bool false) ∧ ∃ q os, w' = grow (W.drewN q) os) := Lib.hid (fun W => by have := BE.out W y; simp only [hb1, decide_false] at this; exact this)
    by_cases hb2 : Ver.Before ⟨x1, x2⟩ y
    ·have BY : Hid (∀ W, Calls Tryz.prog 152 #[.agg #[.int .i64 x1, .int .i64 x2], .agg #[.int .i64 y.by_, .int .i64 y.n]] W fun e w' => e = .returned (.bool true) ∧ ∃ q os, w' = grow (W.drewN q) os) := Lib.hid (fun W => by have := BF.out W y; simp only [hb2, decide_true] at this; exact this)
     have hnext := Lib.hid (Iset.half_low hm.out.2.1 Hy.out hb2)
     have hlen : Hid ((m.take i).length = i) := Lib.hid (by rw [List.length_take]; omega)
     have htk := Lib.hid (hm.out.1.take rfl i (by omega) cap (by have := Hcap.out; omega))
     have hic : (i : Int) ≤ (cap : Int) := by have := Hcap.out; omega
     clear hb1 hb2 c0 c1 q0 q1
     go_wp2_with fail
     go_quiet_grown (first | (go_at_call 152; with_reducible refine Calls.grown_of (BN.out _)))
     have HG : Hid (Laid wr (grow (wr.drewN nq) osq)) := Lib.hid ⟨nq, osq, rfl⟩
     generalize grow (wr.drewN nq) osq = W at *
     obtain ⟨c0, c1⟩ := Vrs.at (Rws.below hm.out.1 HG.out.below) Hy.out
     obtain ⟨q0, q1⟩ := XB.out _ (HLD.out.trans HG.out)
     clear C0 C1 Q0 Q1
     have C0 := cells_grown c0
     have C1 := cells_grown c1
     have Q0 := cells_grown q0
     have Q1 := cells_grown q1
     clear c0 c1 q0 q1
     go_wp2_with fail
     go_quiet_grown (first | (go_at_call 152; with_reducible refine Calls.grown_of (BY.out _)))
     have HG2 : Hid (Laid wr (grow (W.drewN nq) osq)) := Lib.hid (HG.out.trans ⟨nq, osq, rfl⟩)
     generalize grow (W.drewN nq) osq = W2 at *
     go_wp2_with fail
     exact ⟨⟨m.take i, _, _, by rw [hlen.out], by rw [hlen.out]; omega, Lib.hid ⟨Rws.below htk.out HG2.out.below, hnext.out.1, hm.out.2.2.trans hnext.out.2⟩, HLD.out.trans HG2.out⟩, by show i < m.length; exact Hd.out⟩
    ·have BY : Hid (∀ W, Calls Tryz.prog 152 #[.agg #[.int .i64 x1, .int .i64 x2], .agg #[.int .i64 y.by_, .int .i64 y.n]] W fun e w' => e = .returned (.bool false) ∧ ∃ q os, w' = grow (W.drewN q) os) := Lib.hid (fun W => by have := BF.out W y; simp only [hb2, decide_false] at this; exact this)
     have hin : Hid ((⟨x1, x2⟩ : Ver.V) ∈ S) := Lib.hid (hm.out.2.2.2 (Iset.half_here Hy.out hb1 hb2))
     clear hb1 hb2 c0 c1 q0 q1
     go_wp2_with fail
     go_quiet_grown (first | (go_at_call 152; with_reducible refine Calls.grown_of (BN.out _)))
     have HG : Hid (Laid wr (grow (wr.drewN nq) osq)) := Lib.hid ⟨nq, osq, rfl⟩
     generalize grow (wr.drewN nq) osq = W at *
     obtain ⟨c0, c1⟩ := Vrs.at (Rws.below hm.out.1 HG.out.below) Hy.out
     obtain ⟨q0, q1⟩ := XB.out _ (HLD.out.trans HG.out)
     clear C0 C1 Q0 Q1
     have C0 := cells_grown c0
     have C1 := cells_grown c1
     have Q0 := cells_grown q0
     have Q1 := cells_grown q1
     clear c0 c1 q0 q1
     go_wp2_with fail
     go_quiet_grown (first | (go_at_call 152; with_reducible refine Calls.grown_of (BY.out _)))
     have HG2 : Hid (Laid w (grow (W.drewN nq) osq)) := Lib.hid ((HL.out.trans HG.out).trans ⟨nq, osq, rfl⟩)
     generalize grow (W.drewN nq) osq = W2 at *
     go_wp2_with fail
     try go_step3
     go_wp2_with fail
     try rw [Exit.noGoto_ret]
     go_ret
     exact ⟨by rw [decide_eq_true hin.out]; rfl, HG2.out⟩
  ·have hm0 : m.length = 0 := by omega
   have hnil : m = [] := List.eq_nil_of_length_eq_zero hm0
   subst hnil
   have hout : Hid (¬ (⟨x1, x2⟩ : Ver.V) ∈ S) := Lib.hid (fun k => by have := hm.out.2.2.1 k; simp at this)
   clear hm hlaid h0 hm0
   go_wp2_with fail
   try rw [Exit.noGoto_ret]
   go_ret
   exact ⟨by rw [decide_eq_false hout.out]; rfl, HL.out⟩
theorem Finds.calls (Z : VersOk) {w : World} {S : List Ver.V} {B : Nat} (h : Finds w S (.func (.func 151) #[] #[.pointer (some ⟨B, 0, none⟩)])) (x : Ver.V) :
  Calls Tryz.prog 151 #[verA x, .pointer (some ⟨B, 0, none⟩)] w fun e w' => e = .returned (.bool (decide (x ∈ S))) ∧ Laid w w' := by
 obtain ⟨B', s, F, e, -, hc, hs, hu, hl⟩ := h
 have eb : B = B' := by simpa using e
 subst eb
 exact finder_is Z hc hs hu hl x
open Go.RowKit Go.Sort
theorem iset_of (Z : VersOk) {w : World} {F : Nat → Prop} {v : Value} {l : List Ver.V} (h : Vrs w F v l) (hl : l.length ≤ 1000000) :
  Calls Tryz.prog 97 #[v] w fun e w' => ∃ v', e = .returned v' ∧ Vrs w' (NewIn w w') v' (Ver.sort l) ∧ Below w.heap.size w w' := by
 have SO := Lib.hid (Z.sort h hl)
 clear h
 go_enter Tryz.func97, Tryz.ntmps97
 go_wp2_with fail
 refine (SO.out).mono ?_
 rintro e w1 ⟨v1, rfl, h1, h2⟩
 have H1 := Lib.hid h1
 have H2 := Lib.hid h2
 clear h1 h2
 go_wp2_with fail
 go_ret
 exact ⟨_, rfl, H1.out, H2.out⟩
theorem ver_index {w : World} {F : Nat → Prop} {v : Value} {l : List Ver.V} (x : Ver.V) (h : Vrs w F v l) (hl : l.length ≤ 1000000) :
  Calls Tryz.prog 111 #[v, verA x] w fun e w' => (∃ k : Int, e = .returned (.int .i64 k) ∧ decide (0 ≤ k) = decide (x ∈ l)) ∧ Laid w w' := by
 obtain ⟨A, cap, rfl, hcap⟩ := h.parts
 have H := Lib.hid h
 have hl' : (l.length : Int) ≤ 1000000 := by omega
 obtain ⟨x1, x2⟩ := x
 have LB := Lib.hid (Laid.new w (.cells #[.int .i64 x1, .int .i64 x2] 33))
 have XB := Lib.hid (iset_boxed w x1 x2)
 clear h
 go_enter Tryz.func111, Tryz.ntmps111
 go_wp2_with fail
 go_loopw [8] (fun i wr => ∃ n : Nat, n ≤ l.length ∧ i = .int .i64 (n : Int) ∧ Hid ((⟨x1, x2⟩ : Ver.V) ∉ l.take n) ∧ Laid (w.alloc (.cells #[.int .i64 x1, .int .i64 x2] 33)) wr) (fun i _ => l.length - (intOf i).toNat)
 case atStart => exact ⟨0, Nat.zero_le _, rfl, Lib.hid (by simp), Laid.refl _⟩
 case round =>
  obtain ⟨n, hn, rfl, hnot, hlaid⟩ := hrel
  have HL := Lib.hid (LB.out.trans hlaid)
  have HLD := Lib.hid hlaid
  by_cases hlt : n < l.length
  ·obtain ⟨b, o, cap1, e, -, -, hb⟩ := H.out.block (by omega)
   injection e with e1 e2 e3
   subst e1 e3
   clear e2
   obtain ⟨y, hy⟩ : ∃ y, l[n]? = some y := ⟨_, List.getElem?_eq_getElem hlt⟩
   obtain ⟨c0, c1⟩ := Vrs.at (H.out.below HL.out.below) hy
   obtain ⟨q0, q1⟩ := XB.out _ hlaid
   have hn0 : (0 : Int) ≤ (n : Int) := by omega
   have hn1 : (n : Int) < (l.length : Int) := by omega
   clear hlaid
   by_cases hxy : y = ⟨x1, x2⟩
   ·have hin : Hid ((⟨x1, x2⟩ : Ver.V) ∈ l) := Lib.hid (by rw [← hxy]; exact List.mem_of_getElem? hy)
    subst hxy
    simp only at c0 c1
    clear hy hnot
    go_wp2_with fail
    go_quiet (fail)
    go_wp2_with fail
    go_ret
    exact ⟨⟨(n : Int), rfl, by rw [decide_eq_true hin.out]; exact decide_eq_true (Int.natCast_nonneg n)⟩, HL.out.trans ⟨nq, #[], by rw [grow_empty]⟩⟩
   ·have hnext := Lib.hid (Iset.not_take hy hnot.out hxy)
    obtain ⟨y1, y2⟩ := y
    simp only at c0 c1
    have hxy' : x1 = y1 → ¬ x2 = y2 := fun h k => hxy (by rw [h, k])
    clear hy hnot hxy
    by_cases h1 : x1 = y1
    ·have h2 := hxy' h1
     subst h1
     clear hxy'
     go_wp2_with fail
     go_quiet (fail)
     go_wp2_with fail
     exact ⟨⟨n + 1, by omega, by go_num, hnext, HLD.out.trans ⟨nq, #[], by rw [grow_empty]⟩⟩, by show l.length - ((n : Int) + 1).toNat < l.length - (n : Int).toNat; omega⟩
    ·clear hxy'
     go_wp2_with fail
     go_quiet (fail)
     go_wp2_with fail
     exact ⟨⟨n + 1, by omega, by go_num, hnext, HLD.out.trans ⟨nq, #[], by rw [grow_empty]⟩⟩, by show l.length - ((n : Int) + 1).toNat < l.length - (n : Int).toNat; omega⟩
  ·obtain rfl : n = l.length := by omega
   have hout : Hid (¬ (⟨x1, x2⟩ : Ver.V) ∈ l) := Lib.hid (by have := hnot.out; rwa [List.take_length] at this)
   clear hlaid hnot
   go_wp2_with fail
   go_ret
   exact ⟨⟨-1, rfl, by rw [decide_eq_false hout.out]; rfl⟩, HL.out⟩
theorem ver_contains {w : World} {F : Nat → Prop} {v : Value} {l : List Ver.V} (x : Ver.V) (h : Vrs w F v l) (hl : l.length ≤ 1000000) :
  Calls Tryz.prog 91 #[v, verA x] w fun e w' => e = .returned (.bool (decide (x ∈ l))) ∧ Laid w w' := by
 have LB := Lib.hid (Laid.new w (.cells #[.int .i64 x.by_, .int .i64 x.n] 33))
 have IX := Lib.hid (ver_index x (h.below LB.out.below) hl)
 obtain ⟨x1, x2⟩ := x
 simp only at LB IX
 clear h
 generalize decide ((⟨x1, x2⟩ : Ver.V) ∈ l) = r at *
 go_enter Tryz.func91, Tryz.ntmps91
 go_wp2_with fail
 refine (IX.out).mono ?_
 rintro e w1 ⟨⟨k, rfl, hk⟩, h1⟩
 have H1 := Lib.hid (LB.out.trans h1)
 have HK := Lib.hid hk
 clear h1 hk
 go_wp2_with fail
 go_ret
 exact ⟨by rw [← HK.out]; first | rfl | simp, H1.out⟩
theorem iset_has {w : World} {F : Nat → Prop} {v : Value} {l : List Ver.V} (x : Ver.V) (h : Vrs w F v l) (hl : l.length ≤ 1000000) :
  Calls Tryz.prog 65 #[v, verA x] w fun e w' => e = .returned (.bool (decide (x ∈ l))) ∧ Below w.heap.size w w' := by
 have LB := Lib.hid (Laid.new w (.cells #[.int .i64 x.by_, .int .i64 x.n] 33))
 have IX := Lib.hid (ver_contains x (h.below LB.out.below) hl)
 obtain ⟨x1, x2⟩ := x
 simp only at LB IX
 clear h
 generalize decide ((⟨x1, x2⟩ : Ver.V) ∈ l) = r at *
 go_enter Tryz.func65, Tryz.ntmps65
 go_wp2_with fail
 refine (IX.out).mono ?_
 rintro e w1 ⟨rfl, h1⟩
 have H1 := Lib.hid (LB.out.trans h1)
 clear h1
 go_wp2_with fail
 go_ret
 exact ⟨rfl, H1.out.below⟩
theorem finder_made (Z : VersOk) {w : World} {F : Nat → Prop} {v : Value} {l : List Ver.V} (h : Vrs w F v l) (hl : l.length ≤ 1000000) :
  Calls Tryz.prog 131 #[v] w fun e w' => ∃ fv, e = .returned fv ∧ Finds w' (Ver.sort l) fv ∧ Below w.heap.size w w' := by
 have SO := Lib.hid (iset_of Z h hl)
 have HS : Hid ((Ver.sort l).length ≤ 1000000) := Lib.hid (Nat.le_trans (Ver.sort_len l) hl)
 clear h
 go_enter Tryz.func131, Tryz.ntmps131
 go_wp2_with fail
 refine (SO.out).mono ?_
 rintro e w1 ⟨v1, rfl, h1, h2⟩
 obtain ⟨A, cap, rfl, -⟩ := h1.parts
 have hb : Below w1.heap.size w1 (w1.alloc (.cells #[.slice A (Ver.sort l).length cap] 29)) := (Below.refl _ _).alloc (Nat.le_refl _) _
 have HF : Hid (Finds (w1.alloc (.cells #[.slice A (Ver.sort l).length cap] 29)) (Ver.sort l) (.func (.func 151) #[] #[.pointer (some ⟨w1.heap.size, 0, none⟩)])) := Lib.hid ⟨w1.heap.size, _, _, rfl, by simp, (Row.made w1 29 #[.slice A (Ver.sort l).length cap]).at 0, Rws.below h1 hb, Ver.sort_up l, HS.out⟩
 have HB := Lib.hid (h2.trans (hb.mono h2.size))
 clear h1 h2 hb
 go_wp2_with fail
 go_ret
 exact ⟨_, rfl, HF.out, HB.out⟩
def Apart (u v : Value) : Prop := ∀ g, u.ownBlock = some g → v.ownBlock ≠ some g
theorem Apart.none (v : Value) : Apart (.slice none 0 0) v := fun g hg => by cases hg
theorem Apart.symm {u v : Value} (h : Apart u v) : Apart v u := fun g hg k => h g k hg
open Go.RowKit Go.Sort
instance : Inhabited Ver.V := ⟨⟨0, 0⟩⟩
theorem set_vers : ∀ (l : List Ver.V) (i : Nat) (u : Ver.V), ((l.flatMap verV).set (i * 2) (.int .i64 u.by_)).set (i * 2 + 1) (.int .i64 u.n) = (l.set i u).flatMap verV
 | [], i, u => by simp
 | y :: l, 0, u => by simp [verV]
 | y :: l, i + 1, u => by
  have e : (i + 1) * 2 = i * 2 + 2 := by omega
  rw [e]
  have := set_vers l i u
  simp only [List.flatMap_cons, verV, List.cons_append, List.nil_append, List.set_cons_succ] at this ⊢
  rw [this]
theorem RowsOwn.putAt {w W : World} {l : List Ver.V} {g cap : Nat} (h : RowsOwn 33 2 verV w l (.slice (some ⟨g, 0, none⟩) l.length cap) W) (i : Nat) (u : Ver.V) :
  RowsOwn 33 2 verV w (l.set i u) (.slice (some ⟨g, 0, none⟩) l.length cap) ((W.setCell ⟨g, i * 2, none⟩ (.int .i64 u.by_)).setCell ⟨g, i * 2 + 1, none⟩ (.int .i64 u.n)) := by
 obtain ⟨h1, h2⟩ := h.1.stored (i * 2) (.int .i64 u.by_)
 obtain ⟨h3, h4⟩ := h1.stored (i * 2 + 1) (.int .i64 u.n)
 rw [set_vers] at h3
 refine ⟨by rw [List.length_set]; exact h3, h.2.grown (gb_trans h2 h4) h.2.size (fun k hk => ?_)⟩
 injection hk with hk
 rw [← hk]
 exact (h.1.lt g rfl).1
theorem zero_ver (w : World) : (zeroValue 33).run Tryz.prog w = .ok (.agg #[.int .i64 0, .int .i64 0]) w := by
 obtain ⟨i0, hi0, hz0, -, -⟩ := ver_parts verInfo
 simp [zeroValue, typeInfo, hi0, hz0]
theorem RowsOwn.cleared {w W : World} {l : List Ver.V} {g cap m n : Nat} (h : RowsOwn 33 2 verV w l (.slice (some ⟨g, 0, none⟩) n cap) W) (hn : l.length = n) (hm : m < n) (c : Nat) :
  ∃ w', (∀ ty, (Builtin.clear_ #[29] ty #[.slice (some ⟨g, m * 2, none⟩) (n - m) c]).run Tryz.prog W = .ok (.tuple #[]) w') ∧ RowsOwn 33 2 verV w (l.take m) (.slice (some ⟨g, 0, none⟩) m cap) w' := by
 subst hn
 obtain ⟨w', r1, r2, r3⟩ := own_clear (P := Tryz.prog) h.1 hm Tryz.underlying29 zero_ver rfl (by decide) c
 refine ⟨w', r1, ?_, h.2.grown r3 h.2.size (fun k hk => ?_)⟩
 ·have e : (l.flatMap verV).take (m * 2) = (l.take m).flatMap verV := by
   have hs : l.flatMap verV = (l.take m).flatMap verV ++ (l.drop m).flatMap verV := by rw [← List.flatMap_append, List.take_append_drop]
   rw [hs, List.take_left' (by rw [rows_len (k := 2) (f := verV) _ (fun _ _ => rfl), List.length_take]; omega)]
  rw [e] at r2
  have hl : (l.take m).length = m := by rw [List.length_take]; omega
  rw [hl]
  exact r2
 ·injection hk with hk
  rw [← hk]
  exact (h.1.lt g rfl).1
theorem compact_done {l dk : List Ver.V} {m kk : Nat} (hm : m = l.length) (hd : dk.length = l.length) (h : Lib.CompInv l.toArray m kk dk.toArray) : dk.take kk = Lib.compact l := by
 subst hm
 have hk := h.lt
 have hlen : (Lib.compact l).length = kk := h.len
 apply List.ext_getElem?
 intro j
 by_cases hj : j < kk
 ·rw [List.getElem?_take_of_lt hj]
  have := h.low j hj
  show dk[j]? = (Lib.compactUpTo l.toArray l.length)[j]?
  rw [this, ← getI_to dk.toArray (by simp; omega)]
 ·rw [List.getElem?_take_eq_none (by omega), List.getElem?_eq_none (by omega)]
theorem compact_few (l : List Ver.V) (h : l.length < 2) : Lib.compact l = l := Lib.compact_all l (fun j hj => Lib.keeps_lt_one _ j (by omega))
theorem ver_compact {w wr : World} {v : Value} {l : List Ver.V} (h : RowsOwn 33 2 verV w l v wr) (hl : l.length ≤ 1000000) :
  Calls Tryz.prog 140 #[v] wr fun e w' => ∃ v', e = .returned v' ∧ RowsOwn 33 2 verV w (Lib.compact l) v' w' := by
 by_cases h2 : l.length < 2
 ·have hfin := Lib.hid (compact_few l h2)
  obtain ⟨A, cap, rfl, hcap⟩ := (h.rows (fun _ _ => rfl)).parts
  have H := Lib.hid h
  have h2' : (l.length : Int) < 2 := by omega
  clear h
  go_enter Tryz.func140, Tryz.ntmps140
  go_wp2_with fail
  go_ret
  exact ⟨_, rfl, by rw [hfin.out]; exact H.out⟩
 ·obtain ⟨g, cap, rfl, hg0, hgl⟩ := h.1.form (by omega)
  have hcap : l.length ≤ cap := by
   obtain ⟨A, c, e, hc⟩ := (h.rows (fun _ _ => rfl)).parts
   injection e with e1 e2 e3
   omega
  have h2' : ¬ (l.length : Int) < 2 := by omega
  have hl' : (l.length : Int) ≤ 1000000 := by omega
  have hcap' : (l.length : Int) ≤ (cap : Int) := by omega
  have hwhole : Hid (Lib.compact l = Lib.compactUpTo l.toArray l.length) := Lib.hid rfl
  have H := Lib.hid h
  clear h
  go_enter Tryz.func140, Tryz.ntmps140
  go_wp2_with fail
  go_loopw [3] (fun i W => ∃ k : Nat, 1 ≤ k ∧ k ≤ l.length ∧ i = .int .i64 (k : Int) ∧ Hid (∀ j, j < k → Lib.keeps l.toArray j = true) ∧ Hid (RowsOwn 33 2 verV w l (.slice (some ⟨g, 0, none⟩) l.length cap) W)) (fun i _ => l.length - (intOf i).toNat)
  case atStart => exact ⟨1, Nat.le_refl _, by omega, by go_num, Lib.hid (Lib.keeps_lt_one _), H⟩
  case round =>
   obtain ⟨k, hk1, hk, rfl, hall, hown⟩ := hrel
   by_cases hlt : k < l.length
   ·obtain ⟨x, hx⟩ : ∃ x, l[k]? = some x := ⟨_, List.getElem?_eq_getElem hlt⟩
    obtain ⟨y, hy⟩ : ∃ y, l[k - 1]? = some y := ⟨_, List.getElem?_eq_getElem (by omega)⟩
    obtain ⟨c0, c1⟩ := Vrs.at (hown.out.rows (fun _ _ => rfl)) hx
    obtain ⟨d0, d1⟩ := Vrs.at (hown.out.rows (fun _ _ => rfl)) hy
    rw [Nat.zero_add] at c0 c1 d0 d1
    have hn1 : (k : Int) < (l.length : Int) := by omega
    have hk1' : (1 : Int) ≤ (k : Int) := by omega
    have KX : Hid (l.toArray[k]! = x ∧ l.toArray[k - 1]! = y) := Lib.hid ⟨getI_of hx, getI_of hy⟩
    by_cases hxy : x = y
    ·subst hxy
     have hneg : Hid (Lib.keeps l.toArray k = false) := Lib.hid (Lib.keeps_neg (by omega) (by rw [KX.out.1, KX.out.2]))
     have hst := Lib.hid (Lib.CompInv.start hall.out hneg.out)
     obtain ⟨x1, x2⟩ := x
     simp only at c0 c1 d0 d1
     clear hx hy hall hneg
     go_wp2_with fail
     go_quiet (fail)
     have hown2 : Hid (RowsOwn 33 2 verV w l (.slice (some ⟨g, 0, none⟩) l.length cap) (wr.drewN nq)) := Lib.hid (hown.out.below (ver_drews _ _))
     generalize wr.drewN nq = W at *
     clear c0 c1 d0 d1 hown
     go_wp2_with fail
     go_loopw [3, 5] (fun s3 s5 W2 => ∃ (kk k2 : Nat) (dk : List Ver.V), s3 = .int .i64 (kk : Int) ∧ s5 = .int .i64 (k2 : Int) ∧ 1 ≤ k2 ∧ k + k2 ≤ l.length ∧ kk < k + k2 ∧ dk.length = l.length ∧ Hid (Lib.CompInv l.toArray (k + k2) kk dk.toArray) ∧ Hid (RowsOwn 33 2 verV w dk (.slice (some ⟨g, 0, none⟩) dk.length cap) W2)) (fun _ s5 _ => l.length - (intOf s5).toNat)
     case atStart => exact ⟨k, 1, l, rfl, by go_num, Nat.le_refl _, by omega, by omega, rfl, hst, hown2⟩
     case round =>
      obtain ⟨kk, k2, dk, rfl, rfl, h1, hle, hkk, hdl, hI, hrow⟩ := hrel
      have hk2' : (1 : Int) ≤ (k2 : Int) := by omega
      by_cases hlt2 : k + k2 < l.length
      ·obtain ⟨x, hx⟩ : ∃ x, dk[k + k2]? = some x := ⟨_, List.getElem?_eq_getElem (by omega)⟩
       obtain ⟨y, hy⟩ : ∃ y, dk[k + k2 - 1]? = some y := ⟨_, List.getElem?_eq_getElem (by omega)⟩
       obtain ⟨z, hz⟩ : ∃ z, dk[kk]? = some z := ⟨_, List.getElem?_eq_getElem (by omega)⟩
       have CL : Hid (∀ U : World, Hid (RowsOwn 33 2 verV w dk (.slice (some ⟨g, 0, none⟩) dk.length cap) U) → (U.cell? ⟨g, k * 2 + k2 * 2, none⟩ = some (.int .i64 x.by_) ∧ U.cell? ⟨g, k * 2 + k2 * 2 + 1, none⟩ = some (.int .i64 x.n)) ∧ U.cell? ⟨g, k * 2 + (k2 - 1) * 2, none⟩ = some (.int .i64 y.by_) ∧ U.cell? ⟨g, k * 2 + (k2 - 1) * 2 + 1, none⟩ = some (.int .i64 y.n)) := Lib.hid (fun U hU => by
        have a := Vrs.at (hU.out.rows (fun _ _ => rfl)) hx
        have b := Vrs.at (hU.out.rows (fun _ _ => rfl)) hy
        rw [Nat.zero_add] at a b
        rw [show (k + k2) * 2 = k * 2 + k2 * 2 by omega] at a
        rw [show (k + k2 - 1) * 2 = k * 2 + (k2 - 1) * 2 by omega] at b
        exact ⟨a, b⟩)
       have CZ : Hid (∀ U : World, Hid (RowsOwn 33 2 verV w dk (.slice (some ⟨g, 0, none⟩) dk.length cap) U) → (U.cell? ⟨g, kk * 2, none⟩ = some (.int .i64 z.by_) ∧ U.cell? ⟨g, kk * 2 + 1, none⟩ = some (.int .i64 z.n)) ∧ U.frozen? ⟨g, kk * 2, none⟩ = false ∧ U.frozen? ⟨g, kk * 2 + 1, none⟩ = false) := Lib.hid (fun U hU => by
        have a := Vrs.at (hU.out.rows (fun _ _ => rfl)) hz
        rw [Nat.zero_add] at a
        exact ⟨a, hU.out.1.frozenAt _, hU.out.1.frozenAt _⟩)
       have KX : Hid (l.toArray[k + k2]! = x ∧ l.toArray[k + k2 - 1]! = y) := Lib.hid ⟨(hI.out.high _ (by omega)).symm.trans (getI_of hx), (hI.out.high _ (by omega)).symm.trans (getI_of hy)⟩
       obtain ⟨⟨c0, c1⟩, d0, d1⟩ := CL.out _ hrow
       have hn1 : (k2 : Int) < (l.length : Int) - (k : Int) := by omega
       have hn2 : (k2 : Int) - 1 < (l.length : Int) - (k : Int) := by omega
       have hkl : (kk : Int) < (l.length : Int) := by omega
       have hkk0 : (0 : Int) ≤ (kk : Int) := by omega
       clear hx hy hz
       by_cases hxy : x = y
       ·subst hxy
        have hneg : Hid (Lib.keeps l.toArray (k + k2) = false) := Lib.hid (Lib.keeps_neg (by omega) (by rw [KX.out.1, KX.out.2]))
        have hnext : Hid (Lib.CompInv l.toArray (k + (k2 + 1)) kk dk.toArray) := Lib.hid (hI.out.skip hneg.out)
        obtain ⟨x1, x2⟩ := x
        simp only at c0 c1 d0 d1
        clear hneg
        go_wp2_with fail
        go_quiet (fail)
        have hrow2 : Hid (RowsOwn 33 2 verV w dk (.slice (some ⟨g, 0, none⟩) dk.length cap) (wr.drewN nq)) := Lib.hid (hrow.out.below (ver_drews _ _))
        go_wp2_with fail
        exact ⟨⟨kk, k2 + 1, dk, rfl, by go_num, by omega, by omega, by omega, hdl, hnext, hrow2⟩, by show l.length - ((k2 : Int) + 1).toNat < l.length - (k2 : Int).toNat; omega⟩
       ·have hpos : Hid (Lib.keeps l.toArray (k + k2) = true) := Lib.hid (Lib.keeps_pos (by rw [KX.out.1, KX.out.2]; exact hxy))
        have hnext : Hid (Lib.CompInv l.toArray (k + (k2 + 1)) (kk + 1) (dk.set kk x).toArray) := Lib.hid (by
         have := hI.out.keep (by simpa using hlt2) hpos.out
         rw [KX.out.1, List.setIfInBounds_toArray] at this
         exact this)
        have hset : Hid (∀ U, RowsOwn 33 2 verV w dk (.slice (some ⟨g, 0, none⟩) dk.length cap) U → Hid (RowsOwn 33 2 verV w (dk.set kk x) (.slice (some ⟨g, 0, none⟩) (dk.set kk x).length cap) ((U.setCell ⟨g, kk * 2, none⟩ (.int .i64 x.by_)).setCell ⟨g, kk * 2 + 1, none⟩ (.int .i64 x.n)))) := Lib.hid (fun U hU => Lib.hid (by rw [List.length_set]; exact hU.putAt kk x))
        obtain ⟨x1, x2⟩ := x
        obtain ⟨y1, y2⟩ := y
        obtain ⟨z1, z2⟩ := z
        simp only at c0 c1 d0 d1
        have hxy' : x1 = y1 → ¬ x2 = y2 := fun h k => hxy (by rw [h, k])
        clear hpos hxy KX
        by_cases h1' : x1 = y1
        ·have h2' := hxy' h1'
         subst h1'
         clear hxy'
         go_wp2_with fail
         go_quiet (fail)
         have hrow2 : Hid (RowsOwn 33 2 verV w dk (.slice (some ⟨g, 0, none⟩) dk.length cap) (wr.drewN nq)) := Lib.hid (hrow.out.below (ver_drews _ _))
         generalize wr.drewN nq = W at *
         clear c0 c1 d0 d1
         obtain ⟨⟨c0, c1⟩, -, -⟩ := CL.out _ hrow2
         obtain ⟨⟨e0, e1⟩, f0, f1⟩ := CZ.out _ hrow2
         have HS := hset.out _ hrow2.out
         have e1' : ∀ u, (W.setCell ⟨g, kk * 2, none⟩ u).cell? ⟨g, kk * 2 + 1, none⟩ = some (.int .i64 z2) := fun u => (World.cell?_setCell_other _ _ _ _ (by simp)).trans e1
         have f1' : ∀ u, (W.setCell ⟨g, kk * 2, none⟩ u).frozen? ⟨g, kk * 2 + 1, none⟩ = false := fun u => (World.frozen?_setCell _ _ _ _).trans f1
         go_wp2_with fail
         exact ⟨⟨kk + 1, k2 + 1, _, by go_num, by go_num, by omega, by omega, by omega, by rw [List.length_set]; exact hdl, hnext, HS⟩, by show l.length - ((k2 : Int) + 1).toNat < l.length - (k2 : Int).toNat; omega⟩
        ·clear hxy'
         go_wp2_with fail
         go_quiet (fail)
         have hrow2 : Hid (RowsOwn 33 2 verV w dk (.slice (some ⟨g, 0, none⟩) dk.length cap) (wr.drewN nq)) := Lib.hid (hrow.out.below (ver_drews _ _))
         generalize wr.drewN nq = W at *
         clear c0 c1 d0 d1
         obtain ⟨⟨c0, c1⟩, -, -⟩ := CL.out _ hrow2
         obtain ⟨⟨e0, e1⟩, f0, f1⟩ := CZ.out _ hrow2
         have HS := hset.out _ hrow2.out
         have e1' : ∀ u, (W.setCell ⟨g, kk * 2, none⟩ u).cell? ⟨g, kk * 2 + 1, none⟩ = some (.int .i64 z2) := fun u => (World.cell?_setCell_other _ _ _ _ (by simp)).trans e1
         have f1' : ∀ u, (W.setCell ⟨g, kk * 2, none⟩ u).frozen? ⟨g, kk * 2 + 1, none⟩ = false := fun u => (World.frozen?_setCell _ _ _ _).trans f1
         go_wp2_with fail
         exact ⟨⟨kk + 1, k2 + 1, _, by go_num, by go_num, by omega, by omega, by omega, by rw [List.length_set]; exact hdl, hnext, HS⟩, by show l.length - ((k2 : Int) + 1).toNat < l.length - (k2 : Int).toNat; omega⟩
      ·have hend : k + k2 = l.length := by omega
       have hm : kk < l.length := by omega
       obtain ⟨W', hcl, hout⟩ := RowsOwn.cleared (n := l.length) (m := kk) (by have := hrow.out; rwa [hdl] at this) hdl hm (cap - kk)
       have hfin : Hid (dk.take kk = Lib.compact l) := Lib.hid (compact_done hend hdl hI.out)
       have HO := Lib.hid hout
       have hkl : (kk : Int) < (l.length : Int) := by omega
       have hkk0 : (0 : Int) ≤ (kk : Int) := by omega
       have hkc : (kk : Int) ≤ (cap : Int) := by omega
       clear hout
       go_wp2_with fail
       go_ret
       exact ⟨_, rfl, by rw [← hfin.out]; exact HO.out⟩
    ·have hpos : Hid (∀ j, j < k + 1 → Lib.keeps l.toArray j = true) := Lib.hid (fun j hj => by
      by_cases e : j = k
      ·subst e
       exact Lib.keeps_pos (by rw [KX.out.1, KX.out.2]; exact hxy)
      ·exact hall.out j (by omega))
     obtain ⟨x1, x2⟩ := x
     obtain ⟨y1, y2⟩ := y
     simp only at c0 c1 d0 d1
     have hxy' : x1 = y1 → ¬ x2 = y2 := fun h k => hxy (by rw [h, k])
     clear hx hy hall hxy KX
     by_cases h1 : x1 = y1
     ·have h2 := hxy' h1
      subst h1
      clear hxy'
      go_wp2_with fail
      go_quiet (fail)
      go_wp2_with fail
      exact ⟨⟨k + 1, by omega, by omega, by go_num, hpos, Lib.hid (hown.out.below (ver_drews _ _))⟩, by show l.length - ((k : Int) + 1).toNat < l.length - (k : Int).toNat; omega⟩
     ·clear hxy'
      go_wp2_with fail
      go_quiet (fail)
      go_wp2_with fail
      exact ⟨⟨k + 1, by omega, by omega, by go_num, hpos, Lib.hid (hown.out.below (ver_drews _ _))⟩, by show l.length - ((k : Int) + 1).toNat < l.length - (k : Int).toNat; omega⟩
   ·obtain rfl : k = l.length := by omega
    have hfin : Hid (Lib.compact l = l) := Lib.hid (Lib.compact_all l hall.out)
    clear hall
    go_wp2_with fail
    go_ret
    exact ⟨_, rfl, by rw [hfin.out]; exact hown.out⟩
end Go.Proofs.YtkcgmnhjofoeiaaGreat
