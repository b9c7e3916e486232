import Derived.Test.YtpafpegcodempaaGreatCom7
import Derived.Test.YtpafpegcodempaaGreatCom6
import Derived.Test.YtpafpegcodempaaGreatCom4
import Derived.Shelf.SlSortCmp.QuietGrown
import Derived.Deep.QuietTactic
import Derived.Deep.RegionLaw
set_option maxRecDepth 100000
set_option linter.all false
set_option maxHeartbeats 12800000
namespace Go.Proofs.YtpafpegcodempaaGreat
open Go.RowKit Go.Sort
theorem verInfo : (Tryz.prog.info? 51).map (fun i => (i.zero, i.size, i.bytes)) = some (some (.agg #[.int .i64 0, .int .i64 0]), 2, 16) := by kernel_rfl
theorem ver_parts {P : Program} {t : TypeId} {z : Value} {s b : Nat} (h : (P.info? t).map (fun i => (i.zero, i.size, i.bytes)) = some (some z, s, b)) : ∃ i, P.info? t = some i ∧ i.zero = some z ∧ i.size = s ∧ i.bytes = b := by
 cases hi : P.info? t with
 | none => rw [hi] at h; cases h
 | some i =>
  rw [hi] at h
  injection h with h
  injection h with h1 h2
  injection h2 with h2 h3
  exact ⟨i, rfl, h1, h2, h3⟩
theorem ver_made (W : World) (t : TypeId) (x : Ver.V) : Vrs (W.alloc (.cells #[.int .i64 x.by_, .int .i64 x.n] t)) (fun i => i = W.heap.size) (.slice (some ⟨W.heap.size, 0, none⟩) 1 1) [x] :=
 ⟨some ⟨W.heap.size, 0, none⟩, 1, rfl, Nat.le_refl _, fun _ => ⟨W.heap.size, 0, rfl, rfl, by simp, fun i y hy j u hu => by
  rw [(Row.made W _ _).at]
  match i, hy with
  | 0, hy => (simp at hy; subst hy; match j, hu with
   | 0, hu => simp [verV] at hu; subst hu; rfl
   | 1, hu => simp [verV] at hu; subst hu; rfl)⟩⟩
theorem cells_grown {w : World} {b o : Nat} {u : Value} (h : w.cell? ⟨b, o, none⟩ = some u) (n : Nat) (os : Array Obj) : (grow (w.drewN n) os).cell? ⟨b, o, none⟩ = some u :=
 cell_grown (World.block_lt_of_cell? w _ h) h n os
theorem ref_put_both {w w0 : World} {v : Value} {l : List Ver.V} (h : RowsOwn 51 2 verV w l v w0) (hl : l.length ≤ 1000000) (x : Ver.V) :
  Calls Tryz.prog 237 #[v, verA x] w0 fun e w' => ∃ v', e = .returned v' ∧ RowsOwn 51 2 verV w (Ver.put l x) v' w' ∧ Below w0.heap.size w0 w' := by
 obtain ⟨i0, hi0, hz0, hz1, hz2⟩ := ver_parts verInfo
 have mixed : Tryz.prog.follows .mixedOrders = true := by kernel_rfl
 have BE := Lib.hid (fun W (y : Ver.V) => ref_vbefore W y x)
 have H0 := Lib.hid h
 have Hl := Lib.hid hl
 have hl' : (l.length : Int) ≤ 1000000 := by omega
 have Hmd := Lib.hid (fun W => ver_made W 51 x)
 have H0n := Lib.hid (fun W => (World.ownsRow_made W #[] 0 (Nat.le_refl _) (by decide) rfl : (W.alloc (.cells #[] 51)).ownsRow W.heap.size 51 2 (.slice (some ⟨W.heap.size, 0, none⟩) 0 0) 0 []))
 have LB := Lib.hid (Laid.new w0 (.cells #[.int .i64 x.by_, .int .i64 x.n] 51))
 have XB := Lib.hid (fun W (hW : Laid (w0.alloc (.cells #[.int .i64 x.by_, .int .i64 x.n] 51)) W) => show W.cell? ⟨w0.heap.size, 0, none⟩ = some (.int .i64 x.by_) ∧ W.cell? ⟨w0.heap.size, 1, none⟩ = some (.int .i64 x.n) from
  ⟨(hW.below.cell (p := ⟨w0.heap.size, 0, none⟩) (by simp)).trans ((Row.made w0 51 #[.int .i64 x.by_, .int .i64 x.n]).at 0), (hW.below.cell (p := ⟨w0.heap.size, 1, none⟩) (by simp)).trans ((Row.made w0 51 #[.int .i64 x.by_, .int .i64 x.n]).at 1)⟩)
 rcases h.1.2 with ⟨rfl, h0⟩ | ⟨g, cap, cur, rfl, hg0, hgb, hgc, -, -, -⟩
 ·have hl0 : l = [] := List.eq_nil_of_length_eq_zero h0
  subst hl0
  have hfin : Hid (Ver.put [] x = [] ++ [x] ++ []) := Lib.hid rfl
  obtain ⟨x1, x2⟩ := x
  simp only at LB XB Hmd
  have HLW := Lib.hid (Laid.refl (w0.alloc (.cells #[.int .i64 x1, .int .i64 x2] 51)))
  obtain ⟨q0, q1⟩ := XB.out _ HLW.out
  clear h h0
  go_enter Tryz.func237, Tryz.ntmps237
  go_wp2_with fail
  refine wp_loop_rounds 1 ?_
  rw [rounds_succ]
  have HLW := Lib.hid (Laid.refl (w0.alloc (.cells #[.int .i64 x1, .int .i64 x2] 51)))
  have LBS := LB.out.below.size
  generalize w0.alloc (.cells #[.int .i64 x1, .int .i64 x2] 51) = W at *
  go_wp2_with fail
  go_quiet (fail)
  have HLW : Hid (Laid W (W.drewN nq)) := Lib.hid ⟨nq, #[], by rw [grow_empty]⟩
  generalize W.drewN nq = W2 at *
  go_wp2_with fail
  go_quiet (fail)
  have HLW : Hid (Laid W (W2.drewN nq)) := Lib.hid (HLW.out.trans ⟨nq, #[], by rw [grow_empty]⟩)
  generalize W2.drewN nq = W3 at *
  have HBW := Lib.hid (H0.out.2.trans ((LB.out.trans HLW.out).below.mono H0.out.2.size))
  have XC := Lib.hid (fun U (hU : Below W3.heap.size W3 U) => show U.cell? ⟨w0.heap.size, 0, none⟩ = some (.int .i64 x1) ∧ U.cell? ⟨w0.heap.size, 1, none⟩ = some (.int .i64 x2) from
   ⟨(hU.cell (p := ⟨w0.heap.size, 0, none⟩) (by have := World.block_lt_of_cell? W _ q0; have := HLW.out.below.size; show w0.heap.size < W3.heap.size; simp at *; omega)).trans (XB.out _ HLW.out).1, (hU.cell (p := ⟨w0.heap.size, 1, none⟩) (by have := World.block_lt_of_cell? W _ q0; have := HLW.out.below.size; show w0.heap.size < W3.heap.size; simp at *; omega)).trans (XB.out _ HLW.out).2⟩)
  have Hfront : Vrs (W3.alloc (.cells #[] 51)) (fun _ => False) (.slice none 0 0) [] := Rws.none _ _ _
  have Htl : Hid (([] : List Ver.V).length = 0) := Lib.hid rfl
  have Hbl : Hid (([] : List Ver.V).length = 0) := Lib.hid rfl
  have Hnl : Hid (([] : List Ver.V).length = 0) := Lib.hid rfl
  go_wp2_with (first
   | (at_builtin; refine wp_joins (f := verV) (k := 2) rfl _ _ 33 rfl W3.heap.size 51 i0 (.agg #[.int .i64 0, .int .i64 0]) 16 Tryz.underlying33 hi0 hz0 hz1 hz2 rfl (by decide) rfl rfl F3o (Rws.none (k := 2) (f := verV) _ (fun _ => False) 0) (fun _ _ => rfl) (fun x _ => ver_one x) ?b1 ?b2 ?b3 ?_; (case b1 => (have e1 := Htl.out; have e2 := Hbl.out; have e3 := Hnl.out; unfold maxLen; rw [List.length_append, show ([(⟨x1, x2⟩ : Ver.V)]).length = 1 from rfl]; omega)); (case b2 => (have e1 := Htl.out; have e2 := Hbl.out; have e3 := Hnl.out; rw [List.length_append, show ([(⟨x1, x2⟩ : Ver.V)]).length = 1 from rfl]; omega)); (case b3 => (first | omega | (simp; omega) | simp)); intro v4 w4 own4 hg4 _)
   | (at_builtin; refine wp_joins (f := verV) (k := 2) rfl _ _ 33 rfl W3.heap.size 51 i0 (.agg #[.int .i64 0, .int .i64 0]) 16 Tryz.underlying33 hi0 hz0 hz1 hz2 rfl (by decide) rfl rfl (F2o.alloc _) (Hmd.out _) (fun _ _ => rfl) (fun x _ => ver_one x) ?c1 ?c2 ?c3 ?_; (case c1 => (have e1 := Htl.out; have e2 := Hbl.out; have e3 := Hnl.out; unfold maxLen; rw [show ([(⟨x1, x2⟩ : Ver.V)]).length = 1 from rfl]; omega)); (case c2 => (have e1 := Htl.out; have e2 := Hbl.out; have e3 := Hnl.out; rw [show ([(⟨x1, x2⟩ : Ver.V)]).length = 1 from rfl]; omega)); (case c3 => (first | omega | (simp; omega) | simp)); intro v3 w3 own3 hg3 _; have F3 := F2.more (x := (⟨x1, x2⟩ : Ver.V)) (v' := v3) (by simpa [verV] using own3) hg3; have hs3 := F3.2.size; have F3o := F3.1)
   | (at_builtin; refine wp_joins (f := verV) (k := 2) rfl _ _ 33 rfl W3.heap.size 51 i0 (.agg #[.int .i64 0, .int .i64 0]) 16 Tryz.underlying33 hi0 hz0 hz1 hz2 rfl (by decide) rfl rfl (H0n.out _) Hfront (fun _ _ => rfl) (fun x _ => ver_one x) ?a1 ?a2 ?a3 ?_; (case a1 => (have e1 := Htl.out; have e2 := Hbl.out; have e3 := Hnl.out; unfold maxLen; omega)); (case a2 => (have e1 := Htl.out; have e2 := Hbl.out; have e3 := Hnl.out; omega)); (case a3 => (first | omega | (simp; omega) | simp)); intro v2 w2 own2 hg2 _; have F2 := RowsOwn.front hg2 own2; have hs2 := F2.2.size; have F2o := F2.1; obtain ⟨k0, k1⟩ := XC.out _ F2.2))
  all_goals
   have F4 := Lib.hid (And.intro ((F3.rest hg4 own4).since HBW.out) ((LB.out.trans HLW.out).below.trans ((F3.rest hg4 own4).2.mono (LB.out.trans HLW.out).below.size)))
   clear own4 hg4 F3 F2 own3 hg3 own2 hg2 F3o F2o k0 k1
   go_ret
   exact ⟨_, rfl, by rw [hfin.out]; exact F4.out⟩
 ·have Hg := Lib.hid (lt_of_block hgb)
  clear h hgb
  obtain ⟨x1, x2⟩ := x
  simp only at LB XB Hmd
  go_enter Tryz.func237, Tryz.ntmps237
  go_wp2_with fail
  go_loopw [5] (fun i wr => ∃ n : Nat, n ≤ l.length ∧ i = .int .i64 (n : Int) ∧ Hid (∀ y ∈ l.take n, Ver.Before y ⟨x1, x2⟩) ∧ Laid (w0.alloc (.cells #[.int .i64 x1, .int .i64 x2] 51)) wr) (fun i _ => l.length - (intOf i).toNat)
  case atStart => exact ⟨0, Nat.zero_le _, rfl, Lib.hid (fun y hy => by simp at hy), Laid.refl _⟩
  case round =>
   obtain ⟨n, hn, rfl, hlow, hlaid⟩ := hrel
   have hn0 : (0 : Int) ≤ (n : Int) := by omega
   have hnc : (n : Int) ≤ (cap : Int) := by omega
   have hnl : (n : Int) ≤ (l.length : Int) := by omega
   obtain ⟨q0, q1⟩ := XB.out _ hlaid
   have HLD := Lib.hid hlaid
   have HB := Lib.hid (LB.out.trans hlaid).below
   clear hlaid
   by_cases hlt : n < l.length
   ·obtain ⟨y, hy⟩ : ∃ y, l[n]? = some y := ⟨_, List.getElem?_eq_getElem hlt⟩
    obtain ⟨c0, c1⟩ := Vrs.at ((H0.out.rows (fun _ _ => rfl)).below HB.out) hy
    rw [Nat.zero_add] at c0 c1
    have hn1 : (n : Int) < (l.length : Int) := by omega
    have C0 := cells_grown c0
    have C1 := cells_grown c1
    have Q0 := cells_grown q0
    have Q1 := cells_grown q1
    have Hy := Lib.hid hy
    by_cases hb : Ver.Before y ⟨x1, x2⟩
    ·have BY : Hid (∀ W, Calls Tryz.prog 54 #[.agg #[.int .i64 y.by_, .int .i64 y.n], .agg #[.int .i64 x1, .int .i64 x2]] W fun e w' => e = .returned (.bool true) ∧ ∃ q os, w' = grow (W.drewN q) os) := Lib.hid (fun W => by have := BE.out W y; rwa [decide_eq_true hb] at this)
     have hnext : Hid (∀ z ∈ l.take (n + 1), Ver.Before z ⟨x1, x2⟩) := Lib.hid (fun z hz => by
      obtain ⟨h1, e1⟩ := List.getElem?_eq_some_iff.1 Hy.out
      rw [List.take_succ_eq_append_getElem h1, e1] at hz
      rcases List.mem_append.1 hz with hz | hz
      ·exact hlow.out z hz
      ·rw [List.mem_singleton.1 hz]; exact hb)
     clear hb hy hlow c0 c1 q0 q1
     go_wp2_with fail
     go_quiet_grown (first | (go_at_call 54; refine Calls.grown_of (BY.out _)))
     go_wp2_with fail
     exact ⟨⟨n + 1, by omega, by go_num, hnext, HLD.out.trans ⟨_, _, rfl⟩⟩, by show l.length - ((n : Int) + 1).toNat < l.length - (n : Int).toNat; omega⟩
    ·have BY : Hid (∀ W, Calls Tryz.prog 54 #[.agg #[.int .i64 y.by_, .int .i64 y.n], .agg #[.int .i64 x1, .int .i64 x2]] W fun e w' => e = .returned (.bool false) ∧ ∃ q os, w' = grow (W.drewN q) os) := Lib.hid (fun W => by have := BE.out W y; rwa [decide_eq_false hb] at this)
     have hput := Lib.hid (Ver.put_at (n := n) hlow.out (fun z hz => by rw [Hy.out] at hz; injection hz with hz; rw [← hz]; exact hb) hn)
     clear hb hlow c0 c1 q0 q1
     go_wp2_with fail
     go_quiet_grown (first | (go_at_call 54; refine Calls.grown_of (BY.out _)))
     have HLW := Lib.hid (HLD.out.trans ⟨nq, osq, rfl⟩)
     generalize grow (wr.drewN nq) osq = W at *
     obtain ⟨q0, q1⟩ := XB.out _ HLW.out
     obtain ⟨c0, c1⟩ := Vrs.at ((H0.out.rows (fun _ _ => rfl)).below (LB.out.trans HLW.out).below) hy
     rw [Nat.zero_add] at c0 c1
     clear C0 C1 Q0 Q1
     by_cases hsame : y = ⟨x1, x2⟩
     ·subst hsame
      have hfin : Hid (Ver.put l ⟨x1, x2⟩ = l) := Lib.hid (by rw [hput.out, if_pos hy])
      simp only at c0 c1
      clear hput hy
      go_wp2_with fail
      go_quiet (fail)
      have HLW : Hid (Laid (w0.alloc (.cells #[.int .i64 x1, .int .i64 x2] 51)) (W.drewN nq)) := Lib.hid (HLW.out.trans ⟨nq, #[], by rw [grow_empty]⟩)
      generalize W.drewN nq = W2 at *
      go_wp2_with fail
      go_ret
      exact ⟨_, rfl, by rw [hfin.out]; exact ⟨H0.out.below (LB.out.trans HLW.out).below, (LB.out.trans HLW.out).below⟩⟩
     ·have hfin : Hid (Ver.put l ⟨x1, x2⟩ = l.take n ++ [⟨x1, x2⟩] ++ l.drop n) := Lib.hid (by rw [hput.out, if_neg (fun e => hsame (by rw [hy] at e; injection e))])
      obtain ⟨y1, y2⟩ := y
      simp only at c0 c1
      have hxy' : y1 = x1 → ¬ y2 = x2 := fun h k => hsame (by rw [h, k])
      clear hput hy hsame
      have hany : ∃ r, r = (decide (y1 = x1) && decide (y2 = x2)) ∧ r = false := ⟨_, rfl, by by_cases h : y1 = x1 <;> simp [h, hxy']⟩
      by_cases h1 : y1 = x1
      ·have h2 := hxy' h1
       subst h1
       clear hxy' hany
       go_wp2_with fail
       go_quiet (fail)
       have HLW : Hid (Laid (w0.alloc (.cells #[.int .i64 y1, .int .i64 x2] 51)) (W.drewN nq)) := Lib.hid (HLW.out.trans ⟨nq, #[], by rw [grow_empty]⟩)
       generalize W.drewN nq = W2 at *
       have HBW := Lib.hid (H0.out.2.trans ((LB.out.trans HLW.out).below.mono H0.out.2.size))
       have XC := Lib.hid (fun W (hW : Below W2.heap.size W2 W) => show W.cell? ⟨w0.heap.size, 0, none⟩ = some (.int .i64 y1) ∧ W.cell? ⟨w0.heap.size, 1, none⟩ = some (.int .i64 x2) from
        ⟨(hW.cell (p := ⟨w0.heap.size, 0, none⟩) (by have := HLW.out.below.size; simp at this; show w0.heap.size < W2.heap.size; omega)).trans (XB.out _ HLW.out).1, (hW.cell (p := ⟨w0.heap.size, 1, none⟩) (by have := HLW.out.below.size; simp at this; show w0.heap.size < W2.heap.size; omega)).trans (XB.out _ HLW.out).2⟩)
       have Hrow := (H0.out.rows (fun _ _ => rfl)).below (LB.out.trans HLW.out).below
       have Hfront : Vrs (W2.alloc (.cells #[] 51)) (NewIn w W2) (.slice (some ⟨g, 0, none⟩) n cap) (l.take n) := by
        have hb' : Below W2.heap.size W2 (W2.alloc (.cells #[] 51)) := (Below.refl _ _).alloc (Nat.le_refl _) _
        have := (Hrow.below hb').take rfl n hn cap (by omega)
        exact this.mono (fun i hi => ⟨hi.1, Nat.lt_of_lt_of_le hi.2 (LB.out.trans HLW.out).below.size⟩)
       have Htl : Hid ((l.take n).length = n) := Lib.hid (by rw [List.length_take]; omega)
       have Hbl : Hid ((l.drop n).length = l.length - n) := Lib.hid List.length_drop
       have Hnl : Hid (n ≤ l.length ∧ l.length ≤ 1000000) := Lib.hid ⟨hn, Hl.out⟩
       have Hback : Hid (∀ w', Below W2.heap.size W2 w' → Vrs w' (NewIn w W2) (.slice (some ⟨g, n * 2, none⟩) (l.length - n) (cap - n)) (l.drop n)) := Lib.hid (fun w' hw' => by
        have := (Hrow.below hw').drop rfl n hn (cap - n) (by omega)
        rw [Nat.zero_add] at this
        exact this.mono (fun i hi => ⟨hi.1, Nat.lt_of_lt_of_le hi.2 (LB.out.trans HLW.out).below.size⟩))
       go_wp2_with (first
        | (at_builtin; refine wp_joins (f := verV) (k := 2) rfl _ _ 33 rfl W2.heap.size 51 i0 (.agg #[.int .i64 0, .int .i64 0]) 16 Tryz.underlying33 hi0 hz0 hz1 hz2 rfl (by decide) rfl rfl F3o (Hback.out _ F3.2) (fun _ _ => rfl) (fun x _ => ver_one x) ?b1 ?b2 ?b3 ?_; (case b1 => (have e1 := Htl.out; have e2 := Hbl.out; have e3 := Hnl.out; unfold maxLen; rw [List.length_append, show ([(⟨y1, x2⟩ : Ver.V)]).length = 1 from rfl]; omega)); (case b2 => (have e1 := Htl.out; have e2 := Hbl.out; have e3 := Hnl.out; rw [List.length_append, show ([(⟨y1, x2⟩ : Ver.V)]).length = 1 from rfl]; omega)); (case b3 => (first | omega | (simp; omega) | simp)); intro v4 w4 own4 hg4 _)
        | (at_builtin; refine wp_joins (f := verV) (k := 2) rfl _ _ 33 rfl W2.heap.size 51 i0 (.agg #[.int .i64 0, .int .i64 0]) 16 Tryz.underlying33 hi0 hz0 hz1 hz2 rfl (by decide) rfl rfl (F2o.alloc _) (Hmd.out _) (fun _ _ => rfl) (fun x _ => ver_one x) ?c1 ?c2 ?c3 ?_; (case c1 => (have e1 := Htl.out; have e2 := Hbl.out; have e3 := Hnl.out; unfold maxLen; rw [show ([(⟨y1, x2⟩ : Ver.V)]).length = 1 from rfl]; omega)); (case c2 => (have e1 := Htl.out; have e2 := Hbl.out; have e3 := Hnl.out; rw [show ([(⟨y1, x2⟩ : Ver.V)]).length = 1 from rfl]; omega)); (case c3 => (first | omega | (simp; omega) | simp)); intro v3 w3 own3 hg3 _; have F3 := F2.more (x := (⟨y1, x2⟩ : Ver.V)) (v' := v3) (by simpa [verV] using own3) hg3; have hs3 := F3.2.size; have F3o := F3.1)
        | (at_builtin; refine wp_joins (f := verV) (k := 2) rfl _ _ 33 rfl W2.heap.size 51 i0 (.agg #[.int .i64 0, .int .i64 0]) 16 Tryz.underlying33 hi0 hz0 hz1 hz2 rfl (by decide) rfl rfl (H0n.out _) Hfront (fun _ _ => rfl) (fun x _ => ver_one x) ?a1 ?a2 ?a3 ?_; (case a1 => (have e1 := Htl.out; have e2 := Hbl.out; have e3 := Hnl.out; unfold maxLen; omega)); (case a2 => (have e1 := Htl.out; have e2 := Hbl.out; have e3 := Hnl.out; omega)); (case a3 => (first | omega | (simp; omega) | simp)); intro v2 w2 own2 hg2 _; have F2 := RowsOwn.front hg2 own2; have hs2 := F2.2.size; have F2o := F2.1; obtain ⟨k0, k1⟩ := XC.out _ F2.2))
       all_goals
        have F4 := Lib.hid (And.intro ((F3.rest hg4 own4).since HBW.out) ((LB.out.trans HLW.out).below.trans ((F3.rest hg4 own4).2.mono (LB.out.trans HLW.out).below.size)))
        clear own4 hg4 F3 F2 own3 hg3 own2 hg2 F3o F2o k0 k1
        go_ret
        exact ⟨_, rfl, by rw [hfin.out]; exact F4.out⟩
      ·clear hxy' hany
       go_wp2_with fail
       go_quiet (fail)
       have HLW : Hid (Laid (w0.alloc (.cells #[.int .i64 x1, .int .i64 x2] 51)) (W.drewN nq)) := Lib.hid (HLW.out.trans ⟨nq, #[], by rw [grow_empty]⟩)
       generalize W.drewN nq = W2 at *
       have HBW := Lib.hid (H0.out.2.trans ((LB.out.trans HLW.out).below.mono H0.out.2.size))
       have XC := Lib.hid (fun W (hW : Below W2.heap.size W2 W) => show W.cell? ⟨w0.heap.size, 0, none⟩ = some (.int .i64 x1) ∧ W.cell? ⟨w0.heap.size, 1, none⟩ = some (.int .i64 x2) from
        ⟨(hW.cell (p := ⟨w0.heap.size, 0, none⟩) (by have := HLW.out.below.size; simp at this; show w0.heap.size < W2.heap.size; omega)).trans (XB.out _ HLW.out).1, (hW.cell (p := ⟨w0.heap.size, 1, none⟩) (by have := HLW.out.below.size; simp at this; show w0.heap.size < W2.heap.size; omega)).trans (XB.out _ HLW.out).2⟩)
       have Hrow := (H0.out.rows (fun _ _ => rfl)).below (LB.out.trans HLW.out).below
       have Hfront : Vrs (W2.alloc (.cells #[] 51)) (NewIn w W2) (.slice (some ⟨g, 0, none⟩) n cap) (l.take n) := by
        have hb' : Below W2.heap.size W2 (W2.alloc (.cells #[] 51)) := (Below.refl _ _).alloc (Nat.le_refl _) _
        have := (Hrow.below hb').take rfl n hn cap (by omega)
        exact this.mono (fun i hi => ⟨hi.1, Nat.lt_of_lt_of_le hi.2 (LB.out.trans HLW.out).below.size⟩)
       have Htl : Hid ((l.take n).length = n) := Lib.hid (by rw [List.length_take]; omega)
       have Hbl : Hid ((l.drop n).length = l.length - n) := Lib.hid List.length_drop
       have Hnl : Hid (n ≤ l.length ∧ l.length ≤ 1000000) := Lib.hid ⟨hn, Hl.out⟩
       have Hback : Hid (∀ w', Below W2.heap.size W2 w' → Vrs w' (NewIn w W2) (.slice (some ⟨g, n * 2, none⟩) (l.length - n) (cap - n)) (l.drop n)) := Lib.hid (fun w' hw' => by
        have := (Hrow.below hw').drop rfl n hn (cap - n) (by omega)
        rw [Nat.zero_add] at this
        exact this.mono (fun i hi => ⟨hi.1, Nat.lt_of_lt_of_le hi.2 (LB.out.trans HLW.out).below.size⟩))
       go_wp2_with (first
        | (at_builtin; refine wp_joins (f := verV) (k := 2) rfl _ _ 33 rfl W2.heap.size 51 i0 (.agg #[.int .i64 0, .int .i64 0]) 16 Tryz.underlying33 hi0 hz0 hz1 hz2 rfl (by decide) rfl rfl F3o (Hback.out _ F3.2) (fun _ _ => rfl) (fun x _ => ver_one x) ?b1 ?b2 ?b3 ?_; (case b1 => (have e1 := Htl.out; have e2 := Hbl.out; have e3 := Hnl.out; unfold maxLen; rw [List.length_append, show ([(⟨x1, x2⟩ : Ver.V)]).length = 1 from rfl]; omega)); (case b2 => (have e1 := Htl.out; have e2 := Hbl.out; have e3 := Hnl.out; rw [List.length_append, show ([(⟨x1, x2⟩ : Ver.V)]).length = 1 from rfl]; omega)); (case b3 => (first | omega | (simp; omega) | simp)); intro v4 w4 own4 hg4 _)
        | (at_builtin; refine wp_joins (f := verV) (k := 2) rfl _ _ 33 rfl W2.heap.size 51 i0 (.agg #[.int .i64 0, .int .i64 0]) 16 Tryz.underlying33 hi0 hz0 hz1 hz2 rfl (by decide) rfl rfl (F2o.alloc _) (Hmd.out _) (fun _ _ => rfl) (fun x _ => ver_one x) ?c1 ?c2 ?c3 ?_; (case c1 => (have e1 := Htl.out; have e2 := Hbl.out; have e3 := Hnl.out; unfold maxLen; rw [show ([(⟨x1, x2⟩ : Ver.V)]).length = 1 from rfl]; omega)); (case c2 => (have e1 := Htl.out; have e2 := Hbl.out; have e3 := Hnl.out; rw [show ([(⟨x1, x2⟩ : Ver.V)]).length = 1 from rfl]; omega)); (case c3 => (first | omega | (simp; omega) | simp)); intro v3 w3 own3 hg3 _; have F3 := F2.more (x := (⟨x1, x2⟩ : Ver.V)) (v' := v3) (by simpa [verV] using own3) hg3; have hs3 := F3.2.size; have F3o := F3.1)
        | (at_builtin; refine wp_joins (f := verV) (k := 2) rfl _ _ 33 rfl W2.heap.size 51 i0 (.agg #[.int .i64 0, .int .i64 0]) 16 Tryz.underlying33 hi0 hz0 hz1 hz2 rfl (by decide) rfl rfl (H0n.out _) Hfront (fun _ _ => rfl) (fun x _ => ver_one x) ?a1 ?a2 ?a3 ?_; (case a1 => (have e1 := Htl.out; have e2 := Hbl.out; have e3 := Hnl.out; unfold maxLen; omega)); (case a2 => (have e1 := Htl.out; have e2 := Hbl.out; have e3 := Hnl.out; omega)); (case a3 => (first | omega | (simp; omega) | simp)); intro v2 w2 own2 hg2 _; have F2 := RowsOwn.front hg2 own2; have hs2 := F2.2.size; have F2o := F2.1; obtain ⟨k0, k1⟩ := XC.out _ F2.2))
       all_goals
        have F4 := Lib.hid (And.intro ((F3.rest hg4 own4).since HBW.out) ((LB.out.trans HLW.out).below.trans ((F3.rest hg4 own4).2.mono (LB.out.trans HLW.out).below.size)))
        clear own4 hg4 F3 F2 own3 hg3 own2 hg2 F3o F2o k0 k1
        go_ret
        exact ⟨_, rfl, by rw [hfin.out]; exact F4.out⟩
   ·obtain rfl : n = l.length := by omega
    have hput := Lib.hid (Ver.put_at (n := l.length) hlow.out (fun z hz => by simp at hz) hn)
    have hfin : Hid (Ver.put l ⟨x1, x2⟩ = l.take l.length ++ [⟨x1, x2⟩] ++ l.drop l.length) := Lib.hid (by rw [hput.out, if_neg (by simp)])
    clear hput hlow
    go_wp2_with fail
    go_quiet (fail)
    have HLW : Hid (Laid (w0.alloc (.cells #[.int .i64 x1, .int .i64 x2] 51)) (wr.drewN nq)) := Lib.hid (HLD.out.trans ⟨nq, #[], by rw [grow_empty]⟩)
    generalize wr.drewN nq = W at *
    go_wp2_with fail
    go_quiet (fail)
    have HLW : Hid (Laid (w0.alloc (.cells #[.int .i64 x1, .int .i64 x2] 51)) (W.drewN nq)) := Lib.hid (HLW.out.trans ⟨nq, #[], by rw [grow_empty]⟩)
    generalize W.drewN nq = W2 at *
    have HBW := Lib.hid (H0.out.2.trans ((LB.out.trans HLW.out).below.mono H0.out.2.size))
    have XC := Lib.hid (fun W (hW : Below W2.heap.size W2 W) => show W.cell? ⟨w0.heap.size, 0, none⟩ = some (.int .i64 x1) ∧ W.cell? ⟨w0.heap.size, 1, none⟩ = some (.int .i64 x2) from
     ⟨(hW.cell (p := ⟨w0.heap.size, 0, none⟩) (by have := HLW.out.below.size; simp at this; show w0.heap.size < W2.heap.size; omega)).trans (XB.out _ HLW.out).1, (hW.cell (p := ⟨w0.heap.size, 1, none⟩) (by have := HLW.out.below.size; simp at this; show w0.heap.size < W2.heap.size; omega)).trans (XB.out _ HLW.out).2⟩)
    have Hrow := (H0.out.rows (fun _ _ => rfl)).below (LB.out.trans HLW.out).below
    have Hfront : Vrs (W2.alloc (.cells #[] 51)) (NewIn w W2) (.slice (some ⟨g, 0, none⟩) l.length cap) (l.take l.length) := by
     have hb' : Below W2.heap.size W2 (W2.alloc (.cells #[] 51)) := (Below.refl _ _).alloc (Nat.le_refl _) _
     have := (Hrow.below hb').take rfl l.length hn cap (by omega)
     exact this.mono (fun i hi => ⟨hi.1, Nat.lt_of_lt_of_le hi.2 (LB.out.trans HLW.out).below.size⟩)
    have Htl : Hid ((l.take l.length).length = l.length) := Lib.hid (by rw [List.length_take]; omega)
    have Hbl : Hid ((l.drop l.length).length = l.length - l.length) := Lib.hid List.length_drop
    have Hnl : Hid (l.length ≤ l.length ∧ l.length ≤ 1000000) := Lib.hid ⟨hn, Hl.out⟩
    have Hzero : Hid (∀ A c w', Vrs w' (fun _ => False) (.slice A 0 c) (l.drop l.length)) := Lib.hid (fun A c w' => by
     rw [List.drop_of_length_le (Nat.le_refl _)]
     exact Rws.empty _ _ _ _)
    go_wp2_with (first
     | (at_builtin; refine wp_joins (f := verV) (k := 2) rfl _ _ 33 rfl W2.heap.size 51 i0 (.agg #[.int .i64 0, .int .i64 0]) 16 Tryz.underlying33 hi0 hz0 hz1 hz2 rfl (by decide) rfl rfl F3o (Hzero.out _ _ _) (fun _ _ => rfl) (fun x _ => ver_one x) ?b1 ?b2 ?b3 ?_; (case b1 => (have e1 := Htl.out; have e2 := Hbl.out; have e3 := Hnl.out; unfold maxLen; rw [List.length_append, show ([(⟨x1, x2⟩ : Ver.V)]).length = 1 from rfl]; omega)); (case b2 => (have e1 := Htl.out; have e2 := Hbl.out; have e3 := Hnl.out; rw [List.length_append, show ([(⟨x1, x2⟩ : Ver.V)]).length = 1 from rfl]; omega)); (case b3 => (first | omega | (simp; omega) | simp)); intro v4 w4 own4 hg4 _)
     | (at_builtin; refine wp_joins (f := verV) (k := 2) rfl _ _ 33 rfl W2.heap.size 51 i0 (.agg #[.int .i64 0, .int .i64 0]) 16 Tryz.underlying33 hi0 hz0 hz1 hz2 rfl (by decide) rfl rfl (F2o.alloc _) (Hmd.out _) (fun _ _ => rfl) (fun x _ => ver_one x) ?c1 ?c2 ?c3 ?_; (case c1 => (have e1 := Htl.out; have e2 := Hbl.out; have e3 := Hnl.out; unfold maxLen; rw [show ([(⟨x1, x2⟩ : Ver.V)]).length = 1 from rfl]; omega)); (case c2 => (have e1 := Htl.out; have e2 := Hbl.out; have e3 := Hnl.out; rw [show ([(⟨x1, x2⟩ : Ver.V)]).length = 1 from rfl]; omega)); (case c3 => (first | omega | (simp; omega) | simp)); intro v3 w3 own3 hg3 _; have F3 := F2.more (x := (⟨x1, x2⟩ : Ver.V)) (v' := v3) (by simpa [verV] using own3) hg3; have hs3 := F3.2.size; have F3o := F3.1)
     | (at_builtin; refine wp_joins (f := verV) (k := 2) rfl _ _ 33 rfl W2.heap.size 51 i0 (.agg #[.int .i64 0, .int .i64 0]) 16 Tryz.underlying33 hi0 hz0 hz1 hz2 rfl (by decide) rfl rfl (H0n.out _) Hfront (fun _ _ => rfl) (fun x _ => ver_one x) ?a1 ?a2 ?a3 ?_; (case a1 => (have e1 := Htl.out; have e2 := Hbl.out; have e3 := Hnl.out; unfold maxLen; omega)); (case a2 => (have e1 := Htl.out; have e2 := Hbl.out; have e3 := Hnl.out; omega)); (case a3 => (first | omega | (simp; omega) | simp)); intro v2 w2 own2 hg2 _; have F2 := RowsOwn.front hg2 own2; have hs2 := F2.2.size; have F2o := F2.1; obtain ⟨k0, k1⟩ := XC.out _ F2.2))
    all_goals
     have F4 := Lib.hid (And.intro ((F3.rest hg4 own4).since HBW.out) ((LB.out.trans HLW.out).below.trans ((F3.rest hg4 own4).2.mono (LB.out.trans HLW.out).below.size)))
     clear own4 hg4 F3 F2 own3 hg3 own2 hg2 F3o F2o k0 k1
     go_ret
     exact ⟨_, rfl, by rw [hfin.out]; exact F4.out⟩
theorem ref_put {w w0 : World} {v : Value} {l : List Ver.V} (h : RowsOwn 51 2 verV w l v w0) (hl : l.length ≤ 1000000) (x : Ver.V) :
  Calls Tryz.prog 237 #[v, verA x] w0 fun e w' => ∃ v', e = .returned v' ∧ RowsOwn 51 2 verV w (Ver.put l x) v' w' :=
 (ref_put_both h hl x).mono (fun e w' ⟨v', he, hr, _⟩ => ⟨v', he, hr⟩)
open Go.RowKit
def boolV (b : Bool) : List Value := [.bool b]
abbrev Bools (w : World) (F : Nat → Prop) (v : Value) (l : List Bool) : Prop := Rws 1 boolV w F v l
theorem rangeInfo : (Tryz.prog.info? 114).map (fun i => (i.zero, i.size, i.bytes)) = some (some (.agg #[.int .i64 0, .int .i64 0]), 2, 16) := by kernel_rfl
theorem Bools.at {w : World} {F : Nat → Prop} {b o : Nat} {n cap : Nat} {l : List Bool} (h : Bools w F (.slice (some ⟨b, o, none⟩) n cap) l) {i : Nat} {x : Bool} (hx : l[i]? = some x) : w.cell? ⟨b, o + i, none⟩ = some (.bool x) := by
 obtain ⟨A, c, e, -, hat⟩ := h
 injection e with e1 e2 e3
 obtain ⟨b', o', e, -, -, hc⟩ := hat (by obtain ⟨hl, _⟩ := List.getElem?_eq_some_iff.1 hx; omega)
 rw [e] at e1
 injection e1 with e1
 injection e1 with e1 e2
 subst e1 e2
 have := hc i x hx 0 _ rfl
 rwa [Nat.mul_one, Nat.add_zero] at this
open Go.RowKit
namespace Pth
def Cut (s : Tx) (D : List Tx) (p i : Nat) : Prop := p ≤ i ∧ i ≤ s.length ∧ split s = D ++ splitA ((s.take i).drop p) (s.drop i) ∧ D.length ≤ i
theorem cut_start (s : Tx) : Cut s [] 0 0 := ⟨Nat.le_refl _, Nat.zero_le _, by simp [split], Nat.le_refl _⟩
theorem cut_end {s : Tx} {D : List Tx} {p : Nat} (h : Cut s D p s.length) : split s = D ++ [s.drop p] := by
 have := h.2.2.1
 rw [List.take_length, List.drop_length] at this
 exact this
theorem cut_next {s : Tx} {D : List Tx} {p i : Nat} {c : UInt8} (h : Cut s D p i) (hc : s[i]? = some c) : if c.toNat = 47 then Cut s (D ++ [(s.take i).drop p]) (i + 1) (i + 1) else Cut s D p (i + 1) := by
 obtain ⟨h1, h2, h3, h4⟩ := h
 obtain ⟨hl, he⟩ := List.getElem?_eq_some_iff.1 hc
 have hd : s.drop i = c :: s.drop (i + 1) := by rw [List.drop_eq_getElem_cons hl, he]
 rw [hd] at h3
 unfold splitA at h3
 split
 ·rename_i h7
  rw [if_pos h7] at h3
  refine ⟨Nat.le_refl _, hl, ?_, by rw [List.length_append]; simp; omega⟩
  rw [h3, List.append_assoc]
  congr 2
  have : (s.take (i + 1)).drop (i + 1) = [] := List.drop_of_length_le (by rw [List.length_take]; omega)
  rw [this]
  rfl
 ·rename_i h7
  rw [if_neg h7] at h3
  refine ⟨by omega, hl, ?_, by omega⟩
  rw [h3]
  congr 2
  rw [List.take_succ_eq_append_getElem hl, he, List.drop_append_of_le_length (by rw [List.length_take]; omega)]
end Pth
theorem ref_split (s : List UInt8) (w : World) (hs : s.length ≤ 100000) :
  Calls Tryz.prog 255 #[.string (mk s), .int .u8 47] w fun e w' => ∃ v, e = .returned v ∧ Cells w' (NewIn w w') v (texts (Pth.split s)) ∧ Below w.heap.size w w' := by
 obtain ⟨i0, hi, hz0, hz1, hz2⟩ := info_parts strInfo
 have ls : (mk s).size = s.length := mk_len s
 have hS : ((mk s).size : Int) ≤ 100000 := by rw [ls]; omega
 have Ls := Lib.hid ls
 clear ls
 generalize hxs : mk s = xs at *
 have Hxs := Lib.hid hxs
 go_enter Tryz.func255, Tryz.ntmps255
 go_wp2_with fail
 go_loopw [5, 6, 7] (fun o p i wr => ∃ (D : List (List UInt8)) (at_ k : Nat), p = .int .i64 (at_ : Int) ∧ i = .int .i64 (k : Int) ∧ Pth.Cut s D at_ k ∧ TextsOwn w D o wr) (fun _ _ i _ => s.length - (intOf i).toNat)
 case atStart => exact ⟨[], 0, 0, rfl, rfl, Pth.cut_start s, texts_start w⟩
 case round =>
  obtain ⟨D, p, k, rfl, rfl, hcut, hown⟩ := hrel
  have hk0 : (0 : Int) ≤ (k : Int) := by omega
  have hp0 : (0 : Int) ≤ (p : Int) := by omega
  have hpk : (p : Int) ≤ (k : Int) := by have := hcut.1; omega
  have hks : (k : Int) ≤ (xs.size : Int) := by have := hcut.2.1; have := Ls.out; omega
  have hDl : Hid (D.length ≤ 100000) := Lib.hid (by have := hcut.2.2.2; have := hcut.2.1; omega)
  by_cases hlt : k < s.length
  ·have hk1 : (k : Int) < (xs.size : Int) := by have := Ls.out; omega
   obtain ⟨c, hc, ic⟩ := idx xs k (by have := Ls.out; omega)
   have hsc : s[k]? = some c := by rw [← hc, ← Hxs.out, mk_data]
   have hnext := Pth.cut_next hcut hsc
   by_cases h7 : c.toNat = 47
   ·rw [if_pos h7] at hnext
    have hb1 : ((c.toNat : Int) == 47) = true := by rw [h7]; rfl
    have hext : xs.extract p k = mk ((s.take k).drop p) := by
     rw [← Hxs.out]
     exact bytes_ext (by rw [Lib.extract_data, mk_data, mk_data, List.take_drop, Nat.add_sub_cancel' (by omega)])
    have Hnext := Lib.hid hnext
    have Hown := Lib.hid hown
    have hz := hown.2.size
    have hown1 := hown.1
    clear hc hsc hnext hcut hown h7
    generalize c.toNat = cn at *
    generalize hx1 : mk ((s.take k).drop p) = x1 at *
    have hc1 : ∀ {w1 : World} j u, [Value.string x1][j]? = some u → (w1.alloc (.cells #[.string x1] 9)).cell? ((⟨w1.heap.size, 0, none⟩ : Addr).add j) = some u := by
     intro w1 j u hj
     match j, hj with
     | 0, hj => simp at hj; subst hj; simp [Addr.add]
    go_wp2_with (at_builtin; refine wpList_append_own _ rfl _ _ 152 rfl w.heap.size 9 i0 (.string ⟨#[]⟩) 1 16 Tryz.underlying152 hi hz0 hz1 hz2 rfl (by decide) _ _ _ rfl (hown1.alloc _) ⟨wr.heap.size, 0, none⟩ 1 1 [.string x1] rfl rfl hc1 ?c2 ?c3 ?c4 ?c5 ?_)
    case c2 => first | rfl | (intro u hu; simp at hu; subst hu; rfl)
    case c3 => have := hDl.out; unfold maxLen; omega
    case c4 => have := hDl.out; omega
    case c5 => first | omega | (simp; omega)
    intro v' w2 hown' hgrow' _
    have hnew := texts_more Hown.out (x := (s.take k).drop p) (v' := v') (by rw [hx1]; simpa using hown') hgrow'
    clear hown' hgrow' hown1
    go_wp2
    go_roundw
    case rel => exact ⟨_, k + 1, k + 1, by go_num, by go_num, Hnext.out, hnew⟩
    case measure => simp [intOf]; omega
   ·rw [if_neg h7] at hnext
    have hb1 : ((c.toNat : Int) == 47) = false := by rw [beq_eq_false_iff_ne]; omega
    have Hnext := Lib.hid hnext
    have Hown := Lib.hid hown
    clear hc hsc hnext hcut hown h7
    generalize c.toNat = cn at *
    go_wp2_with fail
    refine ⟨⟨D, p, k + 1, rfl, rfl, Hnext.out, Hown.out⟩, ?_⟩
    show s.length - ((k : Int) + 1).toNat < s.length - (k : Int).toNat
    omega
  ·obtain rfl : k = s.length := by have := hcut.2.1; omega
   have hfin := Lib.hid (Pth.cut_end hcut)
   have hk1 : ¬ (s.length : Int) < (xs.size : Int) := by have := Ls.out; omega
   have hext : xs.extract p xs.size = mk (s.drop p) := by
    rw [← Hxs.out]
    exact bytes_ext (by rw [Lib.extract_data, mk_data, mk_len, mk_data, ← List.length_drop, List.take_length])
   have hps : (p : Int) ≤ (xs.size : Int) := by omega
   have Hown := Lib.hid hown
   have hz := hown.2.size
   have hown1 := hown.1
   clear hcut hown
   generalize hx1 : mk (s.drop p) = x1 at *
   have hc1 : ∀ {w1 : World} j u, [Value.string x1][j]? = some u → (w1.alloc (.cells #[.string x1] 9)).cell? ((⟨w1.heap.size, 0, none⟩ : Addr).add j) = some u := by
    intro w1 j u hj
    match j, hj with
    | 0, hj => simp at hj; subst hj; simp [Addr.add]
   go_wp2_with (at_builtin; refine wpList_append_own _ rfl _ _ 152 rfl w.heap.size 9 i0 (.string ⟨#[]⟩) 1 16 Tryz.underlying152 hi hz0 hz1 hz2 rfl (by decide) _ _ _ rfl (hown1.alloc _) ⟨wr.heap.size, 0, none⟩ 1 1 [.string x1] rfl rfl hc1 ?c2 ?c3 ?c4 ?c5 ?_)
   case c2 => first | rfl | (intro u hu; simp at hu; subst hu; rfl)
   case c3 => have := hDl.out; unfold maxLen; omega
   case c4 => have := hDl.out; omega
   case c5 => first | omega | (simp; omega)
   intro v' w2 hown' hgrow' _
   have hnew := texts_more Hown.out (x := s.drop p) (v' := v') (by rw [hx1]; simpa using hown') hgrow'
   clear hown' hgrow' hown1
   go_wp2
   go_ret
   exact ⟨v', rfl, by rw [hfin.out]; exact hnew.cells, hnew.2⟩
open Go.RowKit
theorem char_cases (n : Nat) (h : n < 256) : n = 46 ∨ (97 ≤ n ∧ n ≤ 122) ∨ (48 ≤ n ∧ n ≤ 57) ∨ n = 45 ∨ n = 95 ∨ n < 45 ∨ n = 47 ∨ (57 < n ∧ n < 95) ∨ n = 96 ∨ 122 < n := by omega
theorem ref_name (s : List UInt8) (w : World) (hs : s.length ≤ 100000) :
    Calls Tryz.prog 256 #[.string (mk s)] w fun e w' => e = .returned (.bool (decide (Pth.Name s))) ∧ Below w.heap.size w w' := by
  have ls : (mk s).size = s.length := mk_len s
  have hS : ((mk s).size : Int) ≤ 100000 := by rw [ls]; omega
  have Ls := Lib.hid ls
  clear ls
  generalize hxs : mk s = xs at *
  have Hxs := Lib.hid hxs
  go_enter Tryz.func256, Tryz.ntmps256
  go_wp2_with fail
  go_loopw [3, 4] (fun d i wr => ∃ k : Nat, k ≤ s.length ∧ i = .int .i64 (k : Int) ∧ d = .int .i64 (Pth.dots (s.take k) : Int) ∧ (∀ c ∈ s.take k, Pth.okChar c = true) ∧ Below w.heap.size w wr) (fun _ i _ => s.length - (intOf i).toNat)
  case atStart => exact ⟨0, Nat.zero_le _, rfl, rfl, by simp, Below.refl _ _⟩
  case round =>
    obtain ⟨k, hk, rfl, rfl, hall, hbel⟩ := hrel
    have hk0 : (0 : Int) ≤ (k : Int) := by omega
    have hdk : Pth.dots (s.take k) ≤ k := by
      have := List.countP_le_length (p := fun c : UInt8 => c.toNat == 46) (l := s.take k)
      rw [List.length_take] at this
      unfold Pth.dots; omega
    have Hall := Lib.hid hall
    have Hbel := Lib.hid hbel
    clear hall hbel
    by_cases hlt : k < s.length
    · have hk1 : (k : Int) < (xs.size : Int) := by have := Ls.out; omega
      obtain ⟨c, hc, ic⟩ := idx xs k (by have := Ls.out; omega)
      have hsc : s[k]? = some c := by rw [← hc, ← Hxs.out, mk_data]
      obtain ⟨hl, he⟩ := List.getElem?_eq_some_iff.1 hsc
      have htk : s.take (k + 1) = s.take k ++ [c] := by rw [List.take_succ_eq_append_getElem hl, he]
      have hdn : Hid (Pth.dots (s.take (k + 1)) = Pth.dots (s.take k) + (if c.toNat = 46 then 1 else 0)) := Lib.hid (by
        rw [htk]
        unfold Pth.dots
        rw [List.countP_append, List.countP_singleton]
        by_cases h : c.toNat = 46
        · rw [if_pos h, h]; rfl
        · rw [if_neg h, if_neg (by simpa using h)])
      have hgood : Hid (Pth.okChar c = true → ∀ x ∈ s.take (k + 1), Pth.okChar x = true) := Lib.hid (fun h x hx => by
        rw [htk, List.mem_append] at hx
        rcases hx with hx | hx
        · exact Hall.out x hx
        · rw [List.mem_singleton.1 hx]; exact h)
      have hbad : Hid (Pth.okChar c = false → decide (Pth.Name s) = false) := Lib.hid (fun h => decide_eq_false (fun m => by
        have := m.1 c (List.mem_of_getElem? hsc)
        rw [h] at this; cases this))
      have hok : Hid (Pth.okChar c = ((decide (97 ≤ c.toNat) && decide (c.toNat ≤ 122)) || (decide (48 ≤ c.toNat) && decide (c.toNat ≤ 57)) || c.toNat == 45 || c.toNat == 95 || c.toNat == 46)) := Lib.hid rfl
      have hc256 := c.toNat_lt
      have hd9 : ((Pth.dots (s.take k) : Nat) : Int) ≤ 100000 := by omega
      clear hc hsc htk he hl hdk
      generalize c.toNat = cn at *
      generalize Pth.dots (s.take k) = dk at *
      rcases char_cases cn hc256 with h | h | h | h | h | h | h | h | h | h
      all_goals
        first | (have e46 : ((cn : Int) == 46) = true := by rw [beq_iff_eq]; omega) | (have e46 : ((cn : Int) == 46) = false := by rw [beq_eq_false_iff_ne]; omega)
        first | (have d97 : decide ((97 : Int) ≤ (cn : Int)) = true := decide_eq_true (by omega)) | (have d97 : decide ((97 : Int) ≤ (cn : Int)) = false := decide_eq_false (by omega))
        first | (have d122 : decide ((cn : Int) ≤ 122) = true := decide_eq_true (by omega)) | (have d122 : decide ((cn : Int) ≤ 122) = false := decide_eq_false (by omega))
        first | (have d48 : decide ((48 : Int) ≤ (cn : Int)) = true := decide_eq_true (by omega)) | (have d48 : decide ((48 : Int) ≤ (cn : Int)) = false := decide_eq_false (by omega))
        first | (have d57 : decide ((cn : Int) ≤ 57) = true := decide_eq_true (by omega)) | (have d57 : decide ((cn : Int) ≤ 57) = false := decide_eq_false (by omega))
        first | (have e45 : ((cn : Int) == 45) = true := by rw [beq_iff_eq]; omega) | (have e45 : ((cn : Int) == 45) = false := by rw [beq_eq_false_iff_ne]; omega)
        first | (have e95 : ((cn : Int) == 95) = true := by rw [beq_iff_eq]; omega) | (have e95 : ((cn : Int) == 95) = false := by rw [beq_eq_false_iff_ne]; omega)
        first
          | (have hT : Hid (Pth.okChar c = true) := Lib.hid (by rw [hok.out]; simp; omega))
          | (have hF : Hid (Pth.okChar c = false) := Lib.hid (by rw [hok.out]; simp; omega))
        have HH := Lib.hid h
        clear h
        go_wp2_with fail
        first
          | (go_ret
             exact ⟨by rw [hbad.out hF.out]; rfl, Hbel.out⟩)
          | (refine ⟨⟨k + 1, by omega, rfl, ?_, hgood.out hT.out, Hbel.out⟩, ?_⟩
             · rw [hdn.out]
               first
                 | (rw [if_pos (by have := HH.out; omega)]; rfl)
                 | (rw [if_neg (by have := HH.out; omega)]; rfl)
             · show s.length - ((k : Int) + 1).toNat < s.length - (k : Int).toNat
               omega)
    · obtain rfl : k = s.length := by omega
      rw [List.take_length] at hdk ⊢
      have Hall2 := Lib.hid (show ∀ c ∈ s, Pth.okChar c = true from by have := Hall.out; rw [List.take_length] at this; exact this)
      have hk1 : ¬ (s.length : Int) < (xs.size : Int) := by have := Ls.out; omega
      have hcase : (decide ((1 : Int) ≤ (xs.size : Int)) = false ∧ Hid (decide (Pth.Name s) = false)) ∨ (decide ((1 : Int) ≤ (xs.size : Int)) = true ∧ decide ((xs.size : Int) ≤ 12) = false ∧ Hid (decide (Pth.Name s) = false)) ∨
          (decide ((1 : Int) ≤ (xs.size : Int)) = true ∧ decide ((xs.size : Int) ≤ 12) = true ∧ decide (Pth.dots s < xs.size) = false ∧ Hid (decide (Pth.Name s) = false)) ∨ (decide ((1 : Int) ≤ (xs.size : Int)) = true ∧ decide ((xs.size : Int) ≤ 12) = true ∧ decide (Pth.dots s < xs.size) = true ∧ Hid (decide (Pth.Name s) = true)) := by
        have e := Ls.out
        by_cases h1 : 1 ≤ s.length
        · by_cases h2 : s.length ≤ 12
          · by_cases h3 : Pth.dots s < s.length
            · exact Or.inr (Or.inr (Or.inr ⟨decide_eq_true (by omega), decide_eq_true (by omega), decide_eq_true (by omega), Lib.hid (decide_eq_true ⟨Hall2.out, h1, h2, h3⟩)⟩))
            · exact Or.inr (Or.inr (Or.inl ⟨decide_eq_true (by omega), decide_eq_true (by omega), decide_eq_false (by omega), Lib.hid (decide_eq_false (fun m => h3 m.2.2.2))⟩))
          · exact Or.inr (Or.inl ⟨decide_eq_true (by omega), decide_eq_false (by omega), Lib.hid (decide_eq_false (fun m => h2 m.2.2.1))⟩)
        · exact Or.inl ⟨decide_eq_false (by omega), Lib.hid (decide_eq_false (fun m => h1 m.2.1))⟩
      have hdl : ((Pth.dots s : Nat) : Int) ≤ 100000 := by omega
      clear hdk
      generalize Pth.dots s = dk at *
      rcases hcase with ⟨g1, hf⟩ | ⟨g1, g2, hf⟩ | ⟨g1, g2, g3, hf⟩ | ⟨g1, g2, g3, hf⟩
      all_goals
        go_wp2_with fail
        go_ret
        exact ⟨by rw [hf.out]; rfl, Hbel.out⟩
end Go.Proofs.YtpafpegcodempaaGreat
