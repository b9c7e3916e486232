import Derived.Test.YtkcgmnhjofoeiaaGreatCom9
import Derived.Test.YtkcgmnhjofoeiaaGreatCom8
import Derived.Shelf.SlSortCmp.QuietGrown
set_option maxRecDepth 100000
set_option linter.all false
set_option maxHeartbeats 12800000
namespace Go.Proofs.YtkcgmnhjofoeiaaGreat
open Go.RowKit Go.Sort
theorem verInfo : (Tryz.prog.info? 33).map (fun i => (i.zero, i.size, i.bytes)) = some (some (.agg #[.int .i64 0, .int .i64 0]), 2, 16) := by kernel_rfl
theorem ver_parts {P : Program} {t : TypeId} {z : Value} {s b : Nat} (h : (P.info? t).map (fun i => (i.zero, i.size, i.bytes)) = some (some z, s, b)) : ∃ i, P.info? t = some i ∧ i.zero = some z ∧ i.size = s ∧ i.bytes = b := by
 cases hi : P.info? t with
 | none => rw [hi] at h; cases h
 | some i =>
  rw [hi] at h
  injection h with h
  injection h with h1 h2
  injection h2 with h2 h3
  exact ⟨i, rfl, h1, h2, h3⟩
theorem ver_made (W : World) (t : TypeId) (x : Ver.V) : Vrs (W.alloc (.cells #[.int .i64 x.by_, .int .i64 x.n] t)) (fun i => i = W.heap.size) (.slice (some ⟨W.heap.size, 0, none⟩) 1 1) [x] :=
 ⟨some ⟨W.heap.size, 0, none⟩, 1, rfl, Nat.le_refl _, fun _ => ⟨W.heap.size, 0, rfl, rfl, by simp, fun i y hy j u hu => by
  rw [(Row.made W _ _).at]
  match i, hy with
  | 0, hy => (simp at hy; subst hy; match j, hu with
   | 0, hu => simp [verV] at hu; subst hu; rfl
   | 1, hu => simp [verV] at hu; subst hu; rfl)⟩⟩
theorem cells_grown {w : World} {b o : Nat} {u : Value} (h : w.cell? ⟨b, o, none⟩ = some u) (n : Nat) (os : Array Obj) : (grow (w.drewN n) os).cell? ⟨b, o, none⟩ = some u :=
 cell_grown (World.block_lt_of_cell? w _ h) h n os
theorem ref_put_both {w w0 : World} {v : Value} {l : List Ver.V} (h : RowsOwn 33 2 verV w l v w0) (hl : l.length ≤ 1000000) (x : Ver.V) :
  Calls Tryz.prog 88 #[v, verA x] w0 fun e w' => ∃ v', e = .returned v' ∧ RowsOwn 33 2 verV w (Ver.put l x) v' w' ∧ Below w0.heap.size w0 w' := by
 obtain ⟨i0, hi0, hz0, hz1, hz2⟩ := ver_parts verInfo
 have mixed : Tryz.prog.follows .mixedOrders = true := by kernel_rfl
 have BE := Lib.hid (fun W (y : Ver.V) => ref_vbefore W y x)
 have H0 := Lib.hid h
 have Hl := Lib.hid hl
 have hl' : (l.length : Int) ≤ 1000000 := by omega
 have Hmd := Lib.hid (fun W => ver_made W 33 x)
 have H0n := Lib.hid (fun W => (World.ownsRow_made W #[] 0 (Nat.le_refl _) (by decide) rfl : (W.alloc (.cells #[] 33)).ownsRow W.heap.size 33 2 (.slice (some ⟨W.heap.size, 0, none⟩) 0 0) 0 []))
 have LB := Lib.hid (Laid.new w0 (.cells #[.int .i64 x.by_, .int .i64 x.n] 33))
 have XB := Lib.hid (fun W (hW : Laid (w0.alloc (.cells #[.int .i64 x.by_, .int .i64 x.n] 33)) W) => show W.cell? ⟨w0.heap.size, 0, none⟩ = some (.int .i64 x.by_) ∧ W.cell? ⟨w0.heap.size, 1, none⟩ = some (.int .i64 x.n) from
  ⟨(hW.below.cell (p := ⟨w0.heap.size, 0, none⟩) (by simp)).trans ((Row.made w0 33 #[.int .i64 x.by_, .int .i64 x.n]).at 0), (hW.below.cell (p := ⟨w0.heap.size, 1, none⟩) (by simp)).trans ((Row.made w0 33 #[.int .i64 x.by_, .int .i64 x.n]).at 1)⟩)
 rcases h.1.2 with ⟨rfl, h0⟩ | ⟨g, cap, cur, rfl, hg0, hgb, hgc, -, -, -⟩
 ·have hl0 : l = [] := List.eq_nil_of_length_eq_zero h0
  subst hl0
  have hfin : Hid (Ver.put [] x = [] ++ [x] ++ []) := Lib.hid rfl
  obtain ⟨x1, x2⟩ := x
  simp only at LB XB Hmd
  have HLW := Lib.hid (Laid.refl (w0.alloc (.cells #[.int .i64 x1, .int .i64 x2] 33)))
  obtain ⟨q0, q1⟩ := XB.out _ HLW.out
  clear h h0
  go_enter Tryz.func88, Tryz.ntmps88
  go_wp2_with fail
  refine wp_loop_rounds 1 ?_
  rw [rounds_succ]
  have HLW := Lib.hid (Laid.refl (w0.alloc (.cells #[.int .i64 x1, .int .i64 x2] 33)))
  have LBS := LB.out.below.size
  generalize w0.alloc (.cells #[.int .i64 x1, .int .i64 x2] 33) = W at *
  go_wp2_with fail
  go_quiet (fail)
  have HLW : Hid (Laid W (W.drewN nq)) := Lib.hid ⟨nq, #[], by rw [grow_empty]⟩
  generalize W.drewN nq = W2 at *
  go_wp2_with fail
  go_quiet (fail)
  have HLW : Hid (Laid W (W2.drewN nq)) := Lib.hid (HLW.out.trans ⟨nq, #[], by rw [grow_empty]⟩)
  generalize W2.drewN nq = W3 at *
  have HBW := Lib.hid (H0.out.2.trans ((LB.out.trans HLW.out).below.mono H0.out.2.size))
  have XC := Lib.hid (fun U (hU : Below W3.heap.size W3 U) => show U.cell? ⟨w0.heap.size, 0, none⟩ = some (.int .i64 x1) ∧ U.cell? ⟨w0.heap.size, 1, none⟩ = some (.int .i64 x2) from
   ⟨(hU.cell (p := ⟨w0.heap.size, 0, none⟩) (by have := World.block_lt_of_cell? W _ q0; have := HLW.out.below.size; show w0.heap.size < W3.heap.size; simp at *; omega)).trans (XB.out _ HLW.out).1, (hU.cell (p := ⟨w0.heap.size, 1, none⟩) (by have := World.block_lt_of_cell? W _ q0; have := HLW.out.below.size; show w0.heap.size < W3.heap.size; simp at *; omega)).trans (XB.out _ HLW.out).2⟩)
  have Hfront : Vrs (W3.alloc (.cells #[] 33)) (fun _ => False) (.slice none 0 0) [] := Rws.none _ _ _
  have Htl : Hid (([] : List Ver.V).length = 0) := Lib.hid rfl
  have Hbl : Hid (([] : List Ver.V).length = 0) := Lib.hid rfl
  have Hnl : Hid (([] : List Ver.V).length = 0) := Lib.hid rfl
  go_wp2_with (first
   | (at_builtin; refine wp_joins (f := verV) (k := 2) rfl _ _ 29 rfl W3.heap.size 33 i0 (.agg #[.int .i64 0, .int .i64 0]) 16 Tryz.underlying29 hi0 hz0 hz1 hz2 rfl (by decide) rfl rfl F3o (Rws.none (k := 2) (f := verV) _ (fun _ => False) 0) (fun _ _ => rfl) (fun x _ => ver_one x) ?b1 ?b2 ?b3 ?_; (case b1 => (have e1 := Htl.out; have e2 := Hbl.out; have e3 := Hnl.out; unfold maxLen; rw [List.length_append, show ([(⟨x1, x2⟩ : Ver.V)]).length = 1 from rfl]; omega)); (case b2 => (have e1 := Htl.out; have e2 := Hbl.out; have e3 := Hnl.out; rw [List.length_append, show ([(⟨x1, x2⟩ : Ver.V)]).length = 1 from rfl]; omega)); (case b3 => (first | omega | (simp; omega) | simp)); intro v4 w4 own4 hg4 _)
   | (at_builtin; refine wp_joins (f := verV) (k := 2) rfl _ _ 29 rfl W3.heap.size 33 i0 (.agg #[.int .i64 0, .int .i64 0]) 16 Tryz.underlying29 hi0 hz0 hz1 hz2 rfl (by decide) rfl rfl (F2o.alloc _) (Hmd.out _) (fun _ _ => rfl) (fun x _ => ver_one x) ?c1 ?c2 ?c3 ?_; (case c1 => (have e1 := Htl.out; have e2 := Hbl.out; have e3 := Hnl.out; unfold maxLen; rw [show ([(⟨x1, x2⟩ : Ver.V)]).length = 1 from rfl]; omega)); (case c2 => (have e1 := Htl.out; have e2 := Hbl.out; have e3 := Hnl.out; rw [show ([(⟨x1, x2⟩ : Ver.V)]).length = 1 from rfl]; omega)); (case c3 => (first | omega | (simp; omega) | simp)); intro v3 w3 own3 hg3 _; have F3 := F2.more (x := (⟨x1, x2⟩ : Ver.V)) (v' := v3) (by simpa [verV] using own3) hg3; have hs3 := F3.2.size; have F3o := F3.1)
   | (at_builtin; refine wp_joins (f := verV) (k := 2) rfl _ _ 29 rfl W3.heap.size 33 i0 (.agg #[.int .i64 0, .int .i64 0]) 16 Tryz.underlying29 hi0 hz0 hz1 hz2 rfl (by decide) rfl rfl (H0n.out _) Hfront (fun _ _ => rfl) (fun x _ => ver_one x) ?a1 ?a2 ?a3 ?_; (case a1 => (have e1 := Htl.out; have e2 := Hbl.out; have e3 := Hnl.out; unfold maxLen; omega)); (case a2 => (have e1 := Htl.out; have e2 := Hbl.out; have e3 := Hnl.out; omega)); (case a3 => (first | omega | (simp; omega) | simp)); intro v2 w2 own2 hg2 _; have F2 := RowsOwn.front hg2 own2; have hs2 := F2.2.size; have F2o := F2.1; obtain ⟨k0, k1⟩ := XC.out _ F2.2))
  all_goals
   have F4 := Lib.hid (And.intro ((F3.rest hg4 own4).since HBW.out) ((LB.out.trans HLW.out).below.trans ((F3.rest hg4 own4).2.mono (LB.out.trans HLW.out).below.size)))
   clear own4 hg4 F3 F2 own3 hg3 own2 hg2 F3o F2o k0 k1
   go_ret
   exact ⟨_, rfl, by rw [hfin.out]; exact F4.out⟩
 ·have Hg := Lib.hid (lt_of_block hgb)
  clear h hgb
  obtain ⟨x1, x2⟩ := x
  simp only at LB XB Hmd
  go_enter Tryz.func88, Tryz.ntmps88
  go_wp2_with fail
  go_loopw [5] (fun i wr => ∃ n : Nat, n ≤ l.length ∧ i = .int .i64 (n : Int) ∧ Hid (∀ y ∈ l.take n, Ver.Before y ⟨x1, x2⟩) ∧ Laid (w0.alloc (.cells #[.int .i64 x1, .int .i64 x2] 33)) wr) (fun i _ => l.length - (intOf i).toNat)
  case atStart => exact ⟨0, Nat.zero_le _, rfl, Lib.hid (fun y hy => by simp at hy), Laid.refl _⟩
  case round =>
   obtain ⟨n, hn, rfl, hlow, hlaid⟩ := hrel
   have hn0 : (0 : Int) ≤ (n : Int) := by omega
   have hnc : (n : Int) ≤ (cap : Int) := by omega
   have hnl : (n : Int) ≤ (l.length : Int) := by omega
   obtain ⟨q0, q1⟩ := XB.out _ hlaid
   have HLD := Lib.hid hlaid
   have HB := Lib.hid (LB.out.trans hlaid).below
   clear hlaid
   by_cases hlt : n < l.length
   ·obtain ⟨y, hy⟩ : ∃ y, l[n]? = some y := ⟨_, List.getElem?_eq_getElem hlt⟩
    obtain ⟨c0, c1⟩ := Vrs.at ((H0.out.rows (fun _ _ => rfl)).below HB.out) hy
    rw [Nat.zero_add] at c0 c1
    have hn1 : (n : Int) < (l.length : Int) := by omega
    have C0 := cells_grown c0
    have C1 := cells_grown c1
    have Q0 := cells_grown q0
    have Q1 := cells_grown q1
    have Hy := Lib.hid hy
    by_cases hb : Ver.Before y ⟨x1, x2⟩
    ·have BY : Hid (∀ W, Calls Tryz.prog 30 #[.agg #[.int .i64 y.by_, .int .i64 y.n], .agg #[.int .i64 x1, .int .i64 x2]] W fun e w' => e = .returned (.bool true) ∧ ∃ q os, w' = grow (W.drewN q) os) := Lib.hid (fun W => by have := BE.out W y; rwa [decide_eq_true hb] at this)
     have hnext : Hid (∀ z ∈ l.take (n + 1), Ver.Before z ⟨x1, x2⟩) := Lib.hid (fun z hz => by
      obtain ⟨h1, e1⟩ := List.getElem?_eq_some_iff.1 Hy.out
      rw [List.take_succ_eq_append_getElem h1, e1] at hz
      rcases List.mem_append.1 hz with hz | hz
      ·exact hlow.out z hz
      ·rw [List.mem_singleton.1 hz]; exact hb)
     clear hb hy hlow c0 c1 q0 q1
     go_wp2_with fail
     go_quiet_grown (first | (go_at_call 30; refine Calls.grown_of (BY.out _)))
     go_wp2_with fail
     exact ⟨⟨n + 1, by omega, by go_num, hnext, HLD.out.trans ⟨_, _, rfl⟩⟩, by show l.length - ((n : Int) + 1).toNat < l.length - (n : Int).toNat; omega⟩
    ·have BY : Hid (∀ W, Calls Tryz.prog 30 #[.agg #[.int .i64 y.by_, .int .i64 y.n], .agg #[.int .i64 x1, .int .i64 x2]] W fun e w' => e = .returned (.bool false) ∧ ∃ q os, w' = grow (W.drewN q) os) := Lib.hid (fun W => by have := BE.out W y; rwa [decide_eq_false hb] at this)
     have hput := Lib.hid (Ver.put_at (n := n) hlow.out (fun z hz => by rw [Hy.out] at hz; injection hz with hz; rw [← hz]; exact hb) hn)
     clear hb hlow c0 c1 q0 q1
     go_wp2_with fail
     go_quiet_grown (first | (go_at_call 30; refine Calls.grown_of (BY.out _)))
     have HLW := Lib.hid (HLD.out.trans ⟨nq, osq, rfl⟩)
     generalize grow (wr.drewN nq) osq = W at *
     obtain ⟨q0, q1⟩ := XB.out _ HLW.out
     obtain ⟨c0, c1⟩ := Vrs.at ((H0.out.rows (fun _ _ => rfl)).below (LB.out.trans HLW.out).below) hy
     rw [Nat.zero_add] at c0 c1
     clear C0 C1 Q0 Q1
     by_cases hsame : y = ⟨x1, x2⟩
     ·subst hsame
      have hfin : Hid (Ver.put l ⟨x1, x2⟩ = l) := Lib.hid (by rw [hput.out, if_pos hy])
      simp only at c0 c1
      clear hput hy
      go_wp2_with fail
      go_quiet (fail)
      have HLW : Hid (Laid (w0.alloc (.cells #[.int .i64 x1, .int .i64 x2] 33)) (W.drewN nq)) := Lib.hid (HLW.out.trans ⟨nq, #[], by rw [grow_empty]⟩)
      generalize W.drewN nq = W2 at *
      go_wp2_with fail
      go_ret
      exact ⟨_, rfl, by rw [hfin.out]; exact ⟨H0.out.below (LB.out.trans HLW.out).below, (LB.out.trans HLW.out).below⟩⟩
     ·have hfin : Hid (Ver.put l ⟨x1, x2⟩ = l.take n ++ [⟨x1, x2⟩] ++ l.drop n) := Lib.hid (by rw [hput.out, if_neg (fun e => hsame (by rw [hy] at e; injection e))])
      obtain ⟨y1, y2⟩ := y
      simp only at c0 c1
      have hxy' : y1 = x1 → ¬ y2 = x2 := fun h k => hsame (by rw [h, k])
      clear hput hy hsame
      have hany : ∃ r, r = (decide (y1 = x1) && decide (y2 = x2)) ∧ r = false := ⟨_, rfl, by by_cases h : y1 = x1 <;> simp [h, hxy']⟩
      by_cases h1 : y1 = x1
      ·have h2 := hxy' h1
       subst h1
       clear hxy' hany
       go_wp2_with fail
       go_quiet (fail)
       have HLW : Hid (Laid (w0.alloc (.cells #[.int .i64 y1, .int .i64 x2] 33)) (W.drewN nq)) := Lib.hid (HLW.out.trans ⟨nq, #[], by rw [grow_empty]⟩)
       generalize W.drewN nq = W2 at *
       have HBW := Lib.hid (H0.out.2.trans ((LB.out.trans HLW.out).below.mono H0.out.2.size))
       have XC := Lib.hid (fun W (hW : Below W2.heap.size W2 W) => show W.cell? ⟨w0.heap.size, 0, none⟩ = some (.int .i64 y1) ∧ W.cell? ⟨w0.heap.size, 1, none⟩ = some (.int .i64 x2) from
        ⟨(hW.cell (p := ⟨w0.heap.size, 0, none⟩) (by have := HLW.out.below.size; simp at this; show w0.heap.size < W2.heap.size; omega)).trans (XB.out _ HLW.out).1, (hW.cell (p := ⟨w0.heap.size, 1, none⟩) (by have := HLW.out.below.size; simp at this; show w0.heap.size < W2.heap.size; omega)).trans (XB.out _ HLW.out).2⟩)
       have Hrow := (H0.out.rows (fun _ _ => rfl)).below (LB.out.trans HLW.out).below
       have Hfront : Vrs (W2.alloc (.cells #[] 33)) (NewIn w W2) (.slice (some ⟨g, 0, none⟩) n cap) (l.take n) := by
        have hb' : Below W2.heap.size W2 (W2.alloc (.cells #[] 33)) := (Below.refl _ _).alloc (Nat.le_refl _) _
        have := (Hrow.below hb').take rfl n hn cap (by omega)
        exact this.mono (fun i hi => ⟨hi.1, Nat.lt_of_lt_of_le hi.2 (LB.out.trans HLW.out).below.size⟩)
       have Htl : Hid ((l.take n).length = n) := Lib.hid (by rw [List.length_take]; omega)
       have Hbl : Hid ((l.drop n).length = l.length - n) := Lib.hid List.length_drop
       have Hnl : Hid (n ≤ l.length ∧ l.length ≤ 1000000) := Lib.hid ⟨hn, Hl.out⟩
       have Hback : Hid (∀ w', Below W2.heap.size W2 w' → Vrs w' (NewIn w W2) (.slice (some ⟨g, n * 2, none⟩) (l.length - n) (cap - n)) (l.drop n)) := Lib.hid (fun w' hw' => by
        have := (Hrow.below hw').drop rfl n hn (cap - n) (by omega)
        rw [Nat.zero_add] at this
        exact this.mono (fun i hi => ⟨hi.1, Nat.lt_of_lt_of_le hi.2 (LB.out.trans HLW.out).below.size⟩))
       go_wp2_with (first
        | (at_builtin; refine wp_joins (f := verV) (k := 2) rfl _ _ 29 rfl W2.heap.size 33 i0 (.agg #[.int .i64 0, .int .i64 0]) 16 Tryz.underlying29 hi0 hz0 hz1 hz2 rfl (by decide) rfl rfl F3o (Hback.out _ F3.2) (fun _ _ => rfl) (fun x _ => ver_one x) ?b1 ?b2 ?b3 ?_; (case b1 => (have e1 := Htl.out; have e2 := Hbl.out; have e3 := Hnl.out; unfold maxLen; rw [List.length_append, show ([(⟨y1, x2⟩ : Ver.V)]).length = 1 from rfl]; omega)); (case b2 => (have e1 := Htl.out; have e2 := Hbl.out; have e3 := Hnl.out; rw [List.length_append, show ([(⟨y1, x2⟩ : Ver.V)]).length = 1 from rfl]; omega)); (case b3 => (first | omega | (simp; omega) | simp)); intro v4 w4 own4 hg4 _)
        | (at_builtin; refine wp_joins (f := verV) (k := 2) rfl _ _ 29 rfl W2.heap.size 33 i0 (.agg #[.int .i64 0, .int .i64 0]) 16 Tryz.underlying29 hi0 hz0 hz1 hz2 rfl (by decide) rfl rfl (F2o.alloc _) (Hmd.out _) (fun _ _ => rfl) (fun x _ => ver_one x) ?c1 ?c2 ?c3 ?_; (case c1 => (have e1 := Htl.out; have e2 := Hbl.out; have e3 := Hnl.out; unfold maxLen; rw [show ([(⟨y1, x2⟩ : Ver.V)]).length = 1 from rfl]; omega)); (case c2 => (have e1 := Htl.out; have e2 := Hbl.out; have e3 := Hnl.out; rw [show ([(⟨y1, x2⟩ : Ver.V)]).length = 1 from rfl]; omega)); (case c3 => (first | omega | (simp; omega) | simp)); intro v3 w3 own3 hg3 _; have F3 := F2.more (x := (⟨y1, x2⟩ : Ver.V)) (v' := v3) (by simpa [verV] using own3) hg3; have hs3 := F3.2.size; have F3o := F3.1)
        | (at_builtin; refine wp_joins (f := verV) (k := 2) rfl _ _ 29 rfl W2.heap.size 33 i0 (.agg #[.int .i64 0, .int .i64 0]) 16 Tryz.underlying29 hi0 hz0 hz1 hz2 rfl (by decide) rfl rfl (H0n.out _) Hfront (fun _ _ => rfl) (fun x _ => ver_one x) ?a1 ?a2 ?a3 ?_; (case a1 => (have e1 := Htl.out; have e2 := Hbl.out; have e3 := Hnl.out; unfold maxLen; omega)); (case a2 => (have e1 := Htl.out; have e2 := Hbl.out; have e3 := Hnl.out; omega)); (case a3 => (first | omega | (simp; omega) | simp)); intro v2 w2 own2 hg2 _; have F2 := RowsOwn.front hg2 own2; have hs2 := F2.2.size; have F2o := F2.1; obtain ⟨k0, k1⟩ := XC.out _ F2.2))
       all_goals
        have F4 := Lib.hid (And.intro ((F3.rest hg4 own4).since HBW.out) ((LB.out.trans HLW.out).below.trans ((F3.rest hg4 own4).2.mono (LB.out.trans HLW.out).below.size)))
        clear own4 hg4 F3 F2 own3 hg3 own2 hg2 F3o F2o k0 k1
        go_ret
        exact ⟨_, rfl, by rw [hfin.out]; exact F4.out⟩
      ·clear hxy' hany
       go_wp2_with fail
       go_quiet (fail)
       have HLW : Hid (Laid (w0.alloc (.cells #[.int .i64 x1, .int .i64 x2] 33)) (W.drewN nq)) := Lib.hid (HLW.out.trans ⟨nq, #[], by rw [grow_empty]⟩)
       generalize W.drewN nq = W2 at *
       have HBW := Lib.hid (H0.out.2.trans ((LB.out.trans HLW.out).below.mono H0.out.2.size))
       have XC := Lib.hid (fun W (hW : Below W2.heap.size W2 W) => show W.cell? ⟨w0.heap.size, 0, none⟩ = some (.int .i64 x1) ∧ W.cell? ⟨w0.heap.size, 1, none⟩ = some (.int .i64 x2) from
        ⟨(hW.cell (p := ⟨w0.heap.size, 0, none⟩) (by have := HLW.out.below.size; simp at this; show w0.heap.size < W2.heap.size; omega)).trans (XB.out _ HLW.out).1, (hW.cell (p := ⟨w0.heap.size, 1, none⟩) (by have := HLW.out.below.size; simp at this; show w0.heap.size < W2.heap.size; omega)).trans (XB.out _ HLW.out).2⟩)
       have Hrow := (H0.out.rows (fun _ _ => rfl)).below (LB.out.trans HLW.out).below
       have Hfront : Vrs (W2.alloc (.cells #[] 33)) (NewIn w W2) (.slice (some ⟨g, 0, none⟩) n cap) (l.take n) := by
        have hb' : Below W2.heap.size W2 (W2.alloc (.cells #[] 33)) := (Below.refl _ _).alloc (Nat.le_refl _) _
        have := (Hrow.below hb').take rfl n hn cap (by omega)
        exact this.mono (fun i hi => ⟨hi.1, Nat.lt_of_lt_of_le hi.2 (LB.out.trans HLW.out).below.size⟩)
       have Htl : Hid ((l.take n).length = n) := Lib.hid (by rw [List.length_take]; omega)
       have Hbl : Hid ((l.drop n).length = l.length - n) := Lib.hid List.length_drop
       have Hnl : Hid (n ≤ l.length ∧ l.length ≤ 1000000) := Lib.hid ⟨hn, Hl.out⟩
       have Hback : Hid (∀ w', Below W2.heap.size W2 w' → Vrs w' (NewIn w W2) (.slice (some ⟨g, n * 2, none⟩) (l.length - n) (cap - n)) (l.drop n)) := Lib.hid (fun w' hw' => by
        have := (Hrow.below hw').drop rfl n hn (cap - n) (by omega)
        rw [Nat.zero_add] at this
        exact this.mono (fun i hi => ⟨hi.1, Nat.lt_of_lt_of_le hi.2 (LB.out.trans HLW.out).below.size⟩))
       go_wp2_with (first
        | (at_builtin; refine wp_joins (f := verV) (k := 2) rfl _ _ 29 rfl W2.heap.size 33 i0 (.agg #[.int .i64 0, .int .i64 0]) 16 Tryz.underlying29 hi0 hz0 hz1 hz2 rfl (by decide) rfl rfl F3o (Hback.out _ F3.2) (fun _ _ => rfl) (fun x _ => ver_one x) ?b1 ?b2 ?b3 ?_; (case b1 => (have e1 := Htl.out; have e2 := Hbl.out; have e3 := Hnl.out; unfold maxLen; rw [List.length_append, show ([(⟨x1, x2⟩ : Ver.V)]).length = 1 from rfl]; omega)); (case b2 => (have e1 := Htl.out; have e2 := Hbl.out; have e3 := Hnl.out; rw [List.length_append, show ([(⟨x1, x2⟩ : Ver.V)]).length = 1 from rfl]; omega)); (case b3 => (first | omega | (simp; omega) | simp)); intro v4 w4 own4 hg4 _)
        | (at_builtin; refine wp_joins (f := verV) (k := 2) rfl _ _ 29 rfl W2.heap.size 33 i0 (.agg #[.int .i64 0, .int .i64 0]) 16 Tryz.underlying29 hi0 hz0 hz1 hz2 rfl (by decide) rfl rfl (F2o.alloc _) (Hmd.out _) (fun _ _ => rfl) (fun x _ => ver_one x) ?c1 ?c2 ?c3 ?_; (case c1 => (have e1 := Htl.out; have e2 := Hbl.out; have e3 := Hnl.out; unfold maxLen; rw [show ([(⟨x1, x2⟩ : Ver.V)]).length = 1 from rfl]; omega)); (case c2 => (have e1 := Htl.out; have e2 := Hbl.out; have e3 := Hnl.out; rw [show ([(⟨x1, x2⟩ : Ver.V)]).length = 1 from rfl]; omega)); (case c3 => (first | omega | (simp; omega) | simp)); intro v3 w3 own3 hg3 _; have F3 := F2.more (x := (⟨x1, x2⟩ : Ver.V)) (v' := v3) (by simpa [verV] using own3) hg3; have hs3 := F3.2.size; have F3o := F3.1)
        | (at_builtin; refine wp_joins (f := verV) (k := 2) rfl _ _ 29 rfl W2.heap.size 33 i0 (.agg #[.int .i64 0, .int .i64 0]) 16 Tryz.underlying29 hi0 hz0 hz1 hz2 rfl (by decide) rfl rfl (H0n.out _) Hfront (fun _ _ => rfl) (fun x _ => ver_one x) ?a1 ?a2 ?a3 ?_; (case a1 => (have e1 := Htl.out; have e2 := Hbl.out; have e3 := Hnl.out; unfold maxLen; omega)); (case a2 => (have e1 := Htl.out; have e2 := Hbl.out; have e3 := Hnl.out; omega)); (case a3 => (first | omega | (simp; omega) | simp)); intro v2 w2 own2 hg2 _; have F2 := RowsOwn.front hg2 own2; have hs2 := F2.2.size; have F2o := F2.1; obtain ⟨k0, k1⟩ := XC.out _ F2.2))
       all_goals
        have F4 := Lib.hid (And.intro ((F3.rest hg4 own4).since HBW.out) ((LB.out.trans HLW.out).below.trans ((F3.rest hg4 own4).2.mono (LB.out.trans HLW.out).below.size)))
        clear own4 hg4 F3 F2 own3 hg3 own2 hg2 F3o F2o k0 k1
        go_ret
        exact ⟨_, rfl, by rw [hfin.out]; exact F4.out⟩
   ·obtain rfl : n = l.length := by omega
    have hput := Lib.hid (Ver.put_at (n := l.length) hlow.out (fun z hz => by simp at hz) hn)
    have hfin : Hid (Ver.put l ⟨x1, x2⟩ = l.take l.length ++ [⟨x1, x2⟩] ++ l.drop l.length) := Lib.hid (by rw [hput.out, if_neg (by simp)])
    clear hput hlow
    go_wp2_with fail
    go_quiet (fail)
    have HLW : Hid (Laid (w0.alloc (.cells #[.int .i64 x1, .int .i64 x2] 33)) (wr.drewN nq)) := Lib.hid (HLD.out.trans ⟨nq, #[], by rw [grow_empty]⟩)
    generalize wr.drewN nq = W at *
    go_wp2_with fail
    go_quiet (fail)
    have HLW : Hid (Laid (w0.alloc (.cells #[.int .i64 x1, .int .i64 x2] 33)) (W.drewN nq)) := Lib.hid (HLW.out.trans ⟨nq, #[], by rw [grow_empty]⟩)
    generalize W.drewN nq = W2 at *
    have HBW := Lib.hid (H0.out.2.trans ((LB.out.trans HLW.out).below.mono H0.out.2.size))
    have XC := Lib.hid (fun W (hW : Below W2.heap.size W2 W) => show W.cell? ⟨w0.heap.size, 0, none⟩ = some (.int .i64 x1) ∧ W.cell? ⟨w0.heap.size, 1, none⟩ = some (.int .i64 x2) from
     ⟨(hW.cell (p := ⟨w0.heap.size, 0, none⟩) (by have := HLW.out.below.size; simp at this; show w0.heap.size < W2.heap.size; omega)).trans (XB.out _ HLW.out).1, (hW.cell (p := ⟨w0.heap.size, 1, none⟩) (by have := HLW.out.below.size; simp at this; show w0.heap.size < W2.heap.size; omega)).trans (XB.out _ HLW.out).2⟩)
    have Hrow := (H0.out.rows (fun _ _ => rfl)).below (LB.out.trans HLW.out).below
    have Hfront : Vrs (W2.alloc (.cells #[] 33)) (NewIn w W2) (.slice (some ⟨g, 0, none⟩) l.length cap) (l.take l.length) := by
     have hb' : Below W2.heap.size W2 (W2.alloc (.cells #[] 33)) := (Below.refl _ _).alloc (Nat.le_refl _) _
     have := (Hrow.below hb').take rfl l.length hn cap (by omega)
     exact this.mono (fun i hi => ⟨hi.1, Nat.lt_of_lt_of_le hi.2 (LB.out.trans HLW.out).below.size⟩)
    have Htl : Hid ((l.take l.length).length = l.length) := Lib.hid (by rw [List.length_take]; omega)
    have Hbl : Hid ((l.drop l.length).length = l.length - l.length) := Lib.hid List.length_drop
    have Hnl : Hid (l.length ≤ l.length ∧ l.length ≤ 1000000) := Lib.hid ⟨hn, Hl.out⟩
    have Hzero : Hid (∀ A c w', Vrs w' (fun _ => False) (.slice A 0 c) (l.drop l.length)) := Lib.hid (fun A c w' => by
     rw [List.drop_of_length_le (Nat.le_refl _)]
     exact Rws.empty _ _ _ _)
    go_wp2_with (first
     | (at_builtin; refine wp_joins (f := verV) (k := 2) rfl _ _ 29 rfl W2.heap.size 33 i0 (.agg #[.int .i64 0, .int .i64 0]) 16 Tryz.underlying29 hi0 hz0 hz1 hz2 rfl (by decide) rfl rfl F3o (Hzero.out _ _ _) (fun _ _ => rfl) (fun x _ => ver_one x) ?b1 ?b2 ?b3 ?_; (case b1 => (have e1 := Htl.out; have e2 := Hbl.out; have e3 := Hnl.out; unfold maxLen; rw [List.length_append, show ([(⟨x1, x2⟩ : Ver.V)]).length = 1 from rfl]; omega)); (case b2 => (have e1 := Htl.out; have e2 := Hbl.out; have e3 := Hnl.out; rw [List.length_append, show ([(⟨x1, x2⟩ : Ver.V)]).length = 1 from rfl]; omega)); (case b3 => (first | omega | (simp; omega) | simp)); intro v4 w4 own4 hg4 _)
     | (at_builtin; refine wp_joins (f := verV) (k := 2) rfl _ _ 29 rfl W2.heap.size 33 i0 (.agg #[.int .i64 0, .int .i64 0]) 16 Tryz.underlying29 hi0 hz0 hz1 hz2 rfl (by decide) rfl rfl (F2o.alloc _) (Hmd.out _) (fun _ _ => rfl) (fun x _ => ver_one x) ?c1 ?c2 ?c3 ?_; (case c1 => (have e1 := Htl.out; have e2 := Hbl.out; have e3 := Hnl.out; unfold maxLen; rw [show ([(⟨x1, x2⟩ : Ver.V)]).length = 1 from rfl]; omega)); (case c2 => (have e1 := Htl.out; have e2 := Hbl.out; have e3 := Hnl.out; rw [show ([(⟨x1, x2⟩ : Ver.V)]).length = 1 from rfl]; omega)); (case c3 => (first | omega | (simp; omega) | simp)); intro v3 w3 own3 hg3 _; have F3 := F2.more (x := (⟨x1, x2⟩ : Ver.V)) (v' := v3) (by simpa [verV] using own3) hg3; have hs3 := F3.2.size; have F3o := F3.1)
     | (at_builtin; refine wp_joins (f := verV) (k := 2) rfl _ _ 29 rfl W2.heap.size 33 i0 (.agg #[.int .i64 0, .int .i64 0]) 16 Tryz.underlying29 hi0 hz0 hz1 hz2 rfl (by decide) rfl rfl (H0n.out _) Hfront (fun _ _ => rfl) (fun x _ => ver_one x) ?a1 ?a2 ?a3 ?_; (case a1 => (have e1 := Htl.out; have e2 := Hbl.out; have e3 := Hnl.out; unfold maxLen; omega)); (case a2 => (have e1 := Htl.out; have e2 := Hbl.out; have e3 := Hnl.out; omega)); (case a3 => (first | omega | (simp; omega) | simp)); intro v2 w2 own2 hg2 _; have F2 := RowsOwn.front hg2 own2; have hs2 := F2.2.size; have F2o := F2.1; obtain ⟨k0, k1⟩ := XC.out _ F2.2))
    all_goals
     have F4 := Lib.hid (And.intro ((F3.rest hg4 own4).since HBW.out) ((LB.out.trans HLW.out).below.trans ((F3.rest hg4 own4).2.mono (LB.out.trans HLW.out).below.size)))
     clear own4 hg4 F3 F2 own3 hg3 own2 hg2 F3o F2o k0 k1
     go_ret
     exact ⟨_, rfl, by rw [hfin.out]; exact F4.out⟩
theorem ref_put {w w0 : World} {v : Value} {l : List Ver.V} (h : RowsOwn 33 2 verV w l v w0) (hl : l.length ≤ 1000000) (x : Ver.V) :
  Calls Tryz.prog 88 #[v, verA x] w0 fun e w' => ∃ v', e = .returned v' ∧ RowsOwn 33 2 verV w (Ver.put l x) v' w' :=
 (ref_put_both h hl x).mono (fun e w' ⟨v', he, hr, _⟩ => ⟨v', he, hr⟩)
open Go.RowKit
def frZ : RFr := ⟨.slice none 0 0, .slice none 0 0, ⟨[], Vec.zeros, []⟩⟩
def itZ : Know.It := ⟨⟨0, 0⟩, Vec.zeros⟩
theorem frInfo : (Tryz.prog.info? 31).map (fun i => (i.zero, i.size, i.bytes)) = some (some (frA frZ), 67, 568) := by kernel_rfl
theorem itInfo : (Tryz.prog.info? 45).map (fun i => (i.zero, i.size, i.bytes)) = some (some (itA itZ), 67, 536) := by kernel_rfl
theorem frZero (w : World) : (zeroValue 31).run Tryz.prog w = .ok (frA frZ) w := by
 obtain ⟨i0, hi0, hz0, -, -⟩ := ver_parts frInfo
 simp [zeroValue, typeInfo, hi0, hz0]
theorem itZero (w : World) : (zeroValue 45).run Tryz.prog w = .ok (itA itZ) w := by
 obtain ⟨i0, hi0, hz0, -, -⟩ := ver_parts itInfo
 simp [zeroValue, typeInfo, hi0, hz0]
theorem frSize {r : RFr} (h : r.x.v.length = 65) : (Tryz.prog.info? 31).map (·.size) = some (rfV r).length := by
 obtain ⟨i0, hi0, -, hz1, -⟩ := ver_parts frInfo
 rw [rf_len h, hi0, Option.map_some, hz1]
theorem itSize {i : Know.It} (h : i.v.length = 65) : (Tryz.prog.info? 45).map (·.size) = some (itV i).length := by
 obtain ⟨i0, hi0, -, hz1, -⟩ := ver_parts itInfo
 rw [it_len h, hi0, Option.map_some, hz1]
theorem vecSizeL {v : List Int} (h : v.length = 65) : (Tryz.prog.info? 28).map (·.size) = some (vecL v).length := by
 have := vecSize h
 rwa [vecR_size h, ← h, ← vecL_len] at this
theorem frZ_size : (rfV frZ).toArray.size = 67 := by rw [List.size_toArray, rf_len Vec.zeros_len]
theorem itZ_size : (itV itZ).toArray.size = 67 := by rw [List.size_toArray, it_len Vec.zeros_len]
section
variable {w w' : World} {b o : Nat} {r : RFr} {i : Know.It} {F G : Nat → Prop} {v : Value}
theorem lies_vec {n : Nat} {l : List Value} {x : List Int} (hx : x.length = 65) (h : w.rangeAt b o l) (hl : ∀ j u, (vecL x)[j]? = some u → l[n + j]? = some u) : Lies 28 w b (o + n) (vecL x) :=
 ⟨fun j u hu => by rw [Nat.add_assoc]; exact h _ _ (hl j u hu), ⟨_, Tryz.underlying28, rfl⟩, vecSizeL hx⟩
theorem rf_vec (r : RFr) (j : Nat) (u : Value) (h : (vecL r.x.v)[j]? = some u) : (rfV r)[1 + j]? = some u := by
 unfold rfV
 rw [Nat.add_comm, List.getElem?_cons_succ, List.getElem?_append_left (by obtain ⟨h, _⟩ := List.getElem?_eq_some_iff.1 h; exact h)]
 exact h
theorem it_vec (i : Know.It) (j : Nat) (u : Value) (h : (vecL i.v)[j]? = some u) : (itV i)[2 + j]? = some u := by
 unfold itV
 rw [List.getElem?_append_right (by show 2 ≤ 2 + j; omega), show 2 + j - (verV i.item).length = j by show 2 + j - 2 = j; omega]
 exact h
theorem rf_no {r : RFr} (h : r.x.v.length = 65) : (rfV r)[66]? = some r.nv := by
 unfold rfV
 rw [List.getElem?_cons_succ, List.getElem?_append_right (by rw [vecL_len, h]; exact Nat.le_refl _), vecL_len, h]
 rfl
structure FrAt (w : World) (b o : Nat) (r : RFr) : Prop where
 all : Lies 31 w b o (rfV r)
 f : w.cell? ⟨b, o, none⟩ = some r.fv
 no : w.cell? ⟨b, o + 66, none⟩ = some r.nv
 v : Lies 28 w b (o + 1) (vecL r.x.v)
structure ItAt (w : World) (b o : Nat) (i : Know.It) : Prop where
 all : Lies 45 w b o (itV i)
 by_ : w.cell? ⟨b, o, none⟩ = some (.int .i64 i.item.by_)
 n : w.cell? ⟨b, o + 1, none⟩ = some (.int .i64 i.item.n)
 v : Lies 28 w b (o + 2) (vecL i.v)
theorem FrAt.of (hr : r.x.v.length = 65) (h : w.rangeAt b o (rfV r)) : FrAt w b o r :=
 ⟨⟨h, ⟨_, Tryz.underlying31, rfl⟩, frSize hr⟩, h 0 _ rfl, h 66 _ (rf_no hr), lies_vec hr h (rf_vec r)⟩
theorem ItAt.of (hi : i.v.length = 65) (h : w.rangeAt b o (itV i)) : ItAt w b o i :=
 ⟨⟨h, ⟨_, Tryz.underlying45, rfl⟩, itSize hi⟩, h 0 _ rfl, h 1 _ rfl, lies_vec hi h (it_vec i)⟩
theorem FrAt.row (hr : r.x.v.length = 65) {t : TypeId} (h : Row w b t (rfV r).toArray) : FrAt w b 0 r := FrAt.of hr (range_row h)
theorem ItAt.row (hi : i.v.length = 65) {t : TypeId} (h : Row w b t (itV i).toArray) : ItAt w b 0 i := ItAt.of hi (range_row h)
theorem FrAt.below {B : Nat} (h : FrAt w b o r) (hb : Below B w w') (hB : b < B) : FrAt w' b o r :=
 ⟨h.all.below hb hB, (hb.cell (p := ⟨b, o, none⟩) hB).trans h.f, (hb.cell (p := ⟨b, o + 66, none⟩) hB).trans h.no, h.v.below hb hB⟩
theorem ItAt.below {B : Nat} (h : ItAt w b o i) (hb : Below B w w') (hB : b < B) : ItAt w' b o i :=
 ⟨h.all.below hb hB, (hb.cell (p := ⟨b, o, none⟩) hB).trans h.by_, (hb.cell (p := ⟨b, o + 1, none⟩) hB).trans h.n, h.v.below hb hB⟩
theorem FrAt.v0 (h : FrAt w b 0 r) : Lies 28 w b 1 (vecL r.x.v) := by have := h.v; rwa [Nat.zero_add] at this
theorem FrAt.no0 (h : FrAt w b 0 r) : w.cell? ⟨b, 66, none⟩ = some r.nv := by have := h.no; rwa [Nat.zero_add] at this
theorem ItAt.v0 (h : ItAt w b 0 i) : Lies 28 w b 2 (vecL i.v) := by have := h.v; rwa [Nat.zero_add] at this
theorem ItAt.n0 (h : ItAt w b 0 i) : w.cell? ⟨b, 1, none⟩ = some (.int .i64 i.item.n) := by have := h.n; rwa [Nat.zero_add] at this
theorem FrAt.made (w : World) (hr : r.x.v.length = 65) (t : TypeId) : FrAt (w.alloc (.cells (rfV r).toArray t)) w.heap.size 0 r := FrAt.row hr (Row.made w t _)
theorem ItAt.made (w : World) (hi : i.v.length = 65) (t : TypeId) : ItAt (w.alloc (.cells (itV i).toArray t)) w.heap.size 0 i := ItAt.row hi (Row.made w t _)
theorem FrAt.elem {n c : Nat} {rs : List RFr} (h : Rws 67 rfV w F (.slice (some ⟨b, o, none⟩) n c) rs) {j : Nat} (hx : rs[j]? = some r) (hr : r.x.v.length = 65) : FrAt w b (o + j * 67) r := FrAt.of hr (range_rws h hx)
theorem ItAt.elem {n c : Nat} {l : List Know.It} (h : Rws 67 itV w F (.slice (some ⟨b, o, none⟩) n c) l) {j : Nat} (hx : l[j]? = some i) (hr : i.v.length = 65) : ItAt w b (o + j * 67) i := ItAt.of hr (range_rws h hx)
end
def Off (v : Value) (b : Nat) : Prop := v.ownBlock ≠ some b
structure FOwn (w : World) (rs : List RFr) (v : Value) (W : World) : Prop where
 own : RowsOwn 31 67 rfV w rs v W
 ins : ∀ r ∈ rs, r.In W (Off v)
section
variable {w W W' : World} {rs : List RFr} {v v' : Value}
theorem FOwn.of {F : Nat → Prop} (h : RowsOwn 31 67 rfV w rs v W) (hi : ∀ r ∈ rs, r.In w F) : FOwn w rs v W :=
 ⟨h, fun r hr => ((hi r hr).lt.below h.2).mono (fun i hi e => by have := (h.1.lt i e).1; omega)⟩
theorem FOwn.lens (h : FOwn w rs v W) : ∀ r ∈ rs, (rfV r).length = 67 := fun r hr => rf_len (h.ins r hr).len
theorem FOwn.rws (h : FOwn w rs v W) : Rws 67 rfV W (NewIn w W) v rs := h.own.rows h.lens
theorem FOwn.frs (h : FOwn w rs v W) : Frs W AnyB v (rs.map (·.x)) := ⟨rs, rfl, h.rws.mono (fun _ _ => trivial), fun r hr => (h.ins r hr).any⟩
theorem FOwn.start (w : World) : FOwn w [] (.slice none 0 0) w := ⟨RowsOwn.start _ _ _ _, fun _ h => (by cases h)⟩
theorem FOwn.first {w W : World} (h : Below w.heap.size w W) : FOwn w [] (.slice none 0 0) W := ⟨RowsOwn.first h, fun _ h => (by cases h)⟩
theorem FOwn.below (h : FOwn w rs v W) (hb : Below W.heap.size W W') : FOwn w rs v W' := ⟨h.own.below hb, fun r hr => (h.ins r hr).below hb⟩
theorem FOwn.since {w0 : World} (h : FOwn w rs v W) (hb : Below w0.heap.size w0 w) : FOwn w0 rs v W := ⟨h.own.since hb, h.ins⟩
theorem FOwn.size (h : FOwn w rs v W) : Below w.heap.size w W := h.own.2
theorem RFr.In.grown {r : RFr} (h : r.In W (Off v)) (hg : W.grownBy W' v.ownBlock) (hn : Near W v v') : r.In W' (Off v') := by
 have h1 : r.In W' (fun i => Off v i ∧ i < W.heap.size) := h.lt.kept (G := fun i => v.ownBlock = some i) ⟨hg.os, hg.tape, hg.output, hg.size, fun k hk hne => hg.block k hk (fun e => hne e.symm)⟩ (fun i hi => hi.1)
 refine h1.mono (fun i hi e => ?_)
 rcases hn with hn | hn
 ·rw [hn] at e; exact hi.1 e
 ·have := hn i e; omega
theorem FOwn.more {r : RFr} {o : Obj} (h : FOwn w rs v W) (hr : r.In W (Off v)) (hown : W'.ownsRow w.heap.size 31 67 v' (rs.length + 1) (rs.flatMap rfV ++ rfV r)) (hg : (W.alloc o).grownBy W' v.ownBlock) (hn : Near (W.alloc o) v v') : FOwn w (rs ++ [r]) v' W' := by
 have hb : Below W.heap.size W (W.alloc o) := (Below.refl _ _).alloc (Nat.le_refl _) o
 refine ⟨h.own.more hown hg, fun x hx => ?_⟩
 rcases List.mem_append.1 hx with hx | hx
 ·exact ((h.ins x hx).below hb).grown hg hn
 ·rw [List.mem_singleton.1 hx]; exact (hr.below hb).grown hg hn
theorem FOwn.put {g n cap i j : Nat} {r r' : RFr} {us : List Value} (h : FOwn w rs (.slice (some ⟨g, 0, none⟩) n cap) W) (hn : rs.length = n) (hx : rs[i]? = some r) (hj : j + us.length ≤ 67) (hy : setAt (rfV r) j us = rfV r') (hr : r'.In W (Off (.slice (some ⟨g, 0, none⟩) n cap))) : FOwn w (rs.set i r') (.slice (some ⟨g, 0, none⟩) n cap) (W.setCells g (i * 67 + j) us) := by
 obtain ⟨h1, h2⟩ := h.own.putCells hn h.lens hx j us hj hy
 refine ⟨h1, fun x hx => ?_⟩
 rcases List.mem_or_eq_of_mem_set hx with hx | rfl
 ·exact (h.ins x hx).grown h2 (Near.refl _ _)
 ·exact hr.grown h2 (Near.refl _ _)
theorem rf_setF (r : RFr) (fv : Value) (f : List Flt.Cl) : setAt (rfV r) 0 [fv] = rfV ⟨fv, r.nv, ⟨f, r.x.v, r.x.no⟩⟩ := rfl
theorem rf_setNo {r : RFr} (hr : r.x.v.length = 65) (nv : Value) (no : List Ver.V) : setAt (rfV r) 66 [nv] = rfV ⟨r.fv, nv, ⟨r.x.f, r.x.v, no⟩⟩ := by
 have := setAt_mid (r.fv :: vecL r.x.v) [] [nv] [r.nv] 0 (by simp)
 rw [List.length_cons, vecL_len, hr] at this
 simp only [List.append_nil] at this
 exact this
theorem rf_setV {r : RFr} (hr : r.x.v.length = 65) {x : List Int} (hx : x.length = 65) : setAt (rfV r) 1 (vecL x) = rfV ⟨r.fv, r.nv, ⟨r.x.f, x, r.x.no⟩⟩ := by
 have := setAt_mid [r.fv] [r.nv] (vecL x) (vecL r.x.v) 0 (by rw [vecL_len, vecL_len, hr, hx]; exact Nat.le_refl _)
 rw [setAt_all (vecL x) (vecL r.x.v) (by rw [vecL_len, vecL_len, hr, hx])] at this
 exact this
theorem FOwn.there {g n cap i : Nat} {r : RFr} (h : FOwn w rs (.slice (some ⟨g, 0, none⟩) n cap) W) (hn : rs.length = n) (hx : rs[i]? = some r) (j m : Nat) (hj : j + m ≤ 67) : W.there g (i * 67 + j) m := by
 subst hn
 intro k hk
 have hr := h.ins r (List.mem_of_getElem? hx)
 have hlt : j + k < (rfV r).length := by rw [rf_len hr.len]; omega
 have := range_rws h.rws hx (j + k) _ (List.getElem?_eq_getElem hlt)
 rw [Nat.zero_add, ← Nat.add_assoc] at this
 exact ⟨by rw [this]; rfl, h.own.1.frozenAt _⟩
theorem FOwn.at {g n cap i : Nat} {r : RFr} (h : FOwn w rs (.slice (some ⟨g, 0, none⟩) n cap) W) (hx : rs[i]? = some r) : FrAt W g (i * 67) r := by
 have := FrAt.elem h.rws hx (h.ins r (List.mem_of_getElem? hx)).len
 rwa [Nat.zero_add] at this
end
end Go.Proofs.YtkcgmnhjofoeiaaGreat
