import Derived.Test.YtgpeobmaneponaaCom4
import Derived.Test.YtgpeobmaneponaaCom2
import Derived.Shelf.SlSortCmp.QuietGrown
set_option maxRecDepth 100000
set_option linter.unusedVariables false
set_option linter.unusedSimpArgs false
set_option maxHeartbeats 12800000
namespace Go.Proofs.Ytgpeobmaneponaa
open Go.RowKit Go.Sort
theorem verInfo : (Try.prog.info? 23).map (fun i => (i.zero, i.size, i.bytes)) = some (some (.agg #[.int .i64 0, .int .i64 0]), 2, 16) := by kernel_rfl
theorem ver_parts {P : Program} {t : TypeId} {z : Value} {s b : Nat} (h : (P.info? t).map (fun i => (i.zero, i.size, i.bytes)) = some (some z, s, b)) : ∃ i, P.info? t = some i ∧ i.zero = some z ∧ i.size = s ∧ i.bytes = b := by
 cases hi : P.info? t with
 | none => rw [hi] at h; cases h
 | some i =>
  rw [hi] at h
  injection h with h
  injection h with h1 h2
  injection h2 with h2 h3
  exact ⟨i, rfl, h1, h2, h3⟩
theorem ver_made (W : World) (t : TypeId) (x : Ver.V) : Vrs (W.alloc (.cells #[.int .i64 x.by_, .int .i64 x.n] t)) (fun i => i = W.heap.size) (.slice (some ⟨W.heap.size, 0, none⟩) 1 1) [x] :=
 ⟨some ⟨W.heap.size, 0, none⟩, 1, rfl, Nat.le_refl _, fun _ => ⟨W.heap.size, 0, rfl, rfl, by simp, fun i y hy j u hu => by
  rw [(Row.made W _ _).at]
  match i, hy with
  | 0, hy => (simp at hy; subst hy; match j, hu with
   | 0, hu => simp [verV] at hu; subst hu; rfl
   | 1, hu => simp [verV] at hu; subst hu; rfl)⟩⟩
theorem cells_grown {w : World} {b o : Nat} {u : Value} (h : w.cell? ⟨b, o, none⟩ = some u) (n : Nat) (os : Array Obj) : (grow (w.drewN n) os).cell? ⟨b, o, none⟩ = some u :=
 cell_grown (World.block_lt_of_cell? w _ h) h n os
theorem ref_put_both {w w0 : World} {v : Value} {l : List Ver.V} (h : RowsOwn 23 2 verV w l v w0) (hl : l.length ≤ 1000000) (x : Ver.V) :
  Calls Try.prog 41 #[v, verA x] w0 fun e w' => ∃ v', e = .returned v' ∧ RowsOwn 23 2 verV w (Ver.put l x) v' w' ∧ Below w0.heap.size w0 w' := by
 obtain ⟨i0, hi0, hz0, hz1, hz2⟩ := ver_parts verInfo
 have mixed : Try.prog.follows .mixedOrders = true := by kernel_rfl
 have BE := Lib.hid (fun W (y : Ver.V) => ref_vbefore W y x)
 have H0 := Lib.hid h
 have Hl := Lib.hid hl
 have hl' : (l.length : Int) ≤ 1000000 := by omega
 have Hmd := Lib.hid (fun W => ver_made W 23 x)
 have H0n := Lib.hid (fun W => (World.ownsRow_made W #[] 0 (Nat.le_refl _) (by decide) rfl : (W.alloc (.cells #[] 23)).ownsRow W.heap.size 23 2 (.slice (some ⟨W.heap.size, 0, none⟩) 0 0) 0 []))
 have LB := Lib.hid (Laid.new w0 (.cells #[.int .i64 x.by_, .int .i64 x.n] 23))
 have XB := Lib.hid (fun W (hW : Laid (w0.alloc (.cells #[.int .i64 x.by_, .int .i64 x.n] 23)) W) => show W.cell? ⟨w0.heap.size, 0, none⟩ = some (.int .i64 x.by_) ∧ W.cell? ⟨w0.heap.size, 1, none⟩ = some (.int .i64 x.n) from
  ⟨(hW.below.cell (p := ⟨w0.heap.size, 0, none⟩) (by simp)).trans ((Row.made w0 23 #[.int .i64 x.by_, .int .i64 x.n]).at 0), (hW.below.cell (p := ⟨w0.heap.size, 1, none⟩) (by simp)).trans ((Row.made w0 23 #[.int .i64 x.by_, .int .i64 x.n]).at 1)⟩)
 rcases h.1.2 with ⟨rfl, h0⟩ | ⟨g, cap, cur, rfl, hg0, hgb, hgc, -, -, -⟩
 ·have hl0 : l = [] := List.eq_nil_of_length_eq_zero h0
  subst hl0
  have hfin : Hid (Ver.put [] x = [] ++ [x] ++ []) := Lib.hid rfl
  obtain ⟨x1, x2⟩ := x
  simp only at LB XB Hmd
  have HLW := Lib.hid (Laid.refl (w0.alloc (.cells #[.int .i64 x1, .int .i64 x2] 23)))
  obtain ⟨q0, q1⟩ := XB.out _ HLW.out
  clear h h0
  go_enter Try.func41, Try.ntmps41
  go_wp2_with fail
  refine wp_loop_rounds 1 ?_
  rw [rounds_succ]
  have HLW := Lib.hid (Laid.refl (w0.alloc (.cells #[.int .i64 x1, .int .i64 x2] 23)))
  have LBS := LB.out.below.size
  generalize w0.alloc (.cells #[.int .i64 x1, .int .i64 x2] 23) = W at *
  go_wp2_with fail
  go_quiet (fail)
  have HLW : Hid (Laid W (W.drewN nq)) := Lib.hid ⟨nq, #[], by rw [grow_empty]⟩
  generalize W.drewN nq = W2 at *
  go_wp2_with fail
  go_quiet (fail)
  have HLW : Hid (Laid W (W2.drewN nq)) := Lib.hid (HLW.out.trans ⟨nq, #[], by rw [grow_empty]⟩)
  generalize W2.drewN nq = W3 at *
  have HBW := Lib.hid (H0.out.2.trans ((LB.out.trans HLW.out).below.mono H0.out.2.size))
  have XC := Lib.hid (fun U (hU : Below W3.heap.size W3 U) => show U.cell? ⟨w0.heap.size, 0, none⟩ = some (.int .i64 x1) ∧ U.cell? ⟨w0.heap.size, 1, none⟩ = some (.int .i64 x2) from
   ⟨(hU.cell (p := ⟨w0.heap.size, 0, none⟩) (by have := World.block_lt_of_cell? W _ q0; have := HLW.out.below.size; show w0.heap.size < W3.heap.size; simp at *; omega)).trans (XB.out _ HLW.out).1, (hU.cell (p := ⟨w0.heap.size, 1, none⟩) (by have := World.block_lt_of_cell? W _ q0; have := HLW.out.below.size; show w0.heap.size < W3.heap.size; simp at *; omega)).trans (XB.out _ HLW.out).2⟩)
  have Hfront : Vrs (W3.alloc (.cells #[] 23)) (fun _ => False) (.slice none 0 0) [] := Rws.none _ _ _
  have Htl : Hid (([] : List Ver.V).length = 0) := Lib.hid rfl
  have Hbl : Hid (([] : List Ver.V).length = 0) := Lib.hid rfl
  have Hnl : Hid (([] : List Ver.V).length = 0) := Lib.hid rfl
  go_wp2_with (first
   | (at_builtin; refine wp_joins (f := verV) (k := 2) rfl _ _ 71 rfl W3.heap.size 23 i0 (.agg #[.int .i64 0, .int .i64 0]) 16 Try.underlying71 hi0 hz0 hz1 hz2 rfl (by decide) rfl rfl F3o (Rws.none (k := 2) (f := verV) _ (fun _ => False) 0) (fun _ _ => rfl) (fun x _ => ver_one x) ?b1 ?b2 ?b3 ?_; (case b1 => (have e1 := Htl.out; have e2 := Hbl.out; have e3 := Hnl.out; unfold maxLen; rw [List.length_append, show ([(⟨x1, x2⟩ : Ver.V)]).length = 1 from rfl]; omega)); (case b2 => (have e1 := Htl.out; have e2 := Hbl.out; have e3 := Hnl.out; rw [List.length_append, show ([(⟨x1, x2⟩ : Ver.V)]).length = 1 from rfl]; omega)); (case b3 => (first | omega | (simp; omega) | simp)); intro v4 w4 own4 hg4 _)
   | (at_builtin; refine wp_joins (f := verV) (k := 2) rfl _ _ 71 rfl W3.heap.size 23 i0 (.agg #[.int .i64 0, .int .i64 0]) 16 Try.underlying71 hi0 hz0 hz1 hz2 rfl (by decide) rfl rfl (F2o.alloc _) (Hmd.out _) (fun _ _ => rfl) (fun x _ => ver_one x) ?c1 ?c2 ?c3 ?_; (case c1 => (have e1 := Htl.out; have e2 := Hbl.out; have e3 := Hnl.out; unfold maxLen; rw [show ([(⟨x1, x2⟩ : Ver.V)]).length = 1 from rfl]; omega)); (case c2 => (have e1 := Htl.out; have e2 := Hbl.out; have e3 := Hnl.out; rw [show ([(⟨x1, x2⟩ : Ver.V)]).length = 1 from rfl]; omega)); (case c3 => (first | omega | (simp; omega) | simp)); intro v3 w3 own3 hg3 _; have F3 := F2.more (x := (⟨x1, x2⟩ : Ver.V)) (v' := v3) (by simpa [verV] using own3) hg3; have hs3 := F3.2.size; have F3o := F3.1)
   | (at_builtin; refine wp_joins (f := verV) (k := 2) rfl _ _ 71 rfl W3.heap.size 23 i0 (.agg #[.int .i64 0, .int .i64 0]) 16 Try.underlying71 hi0 hz0 hz1 hz2 rfl (by decide) rfl rfl (H0n.out _) Hfront (fun _ _ => rfl) (fun x _ => ver_one x) ?a1 ?a2 ?a3 ?_; (case a1 => (have e1 := Htl.out; have e2 := Hbl.out; have e3 := Hnl.out; unfold maxLen; omega)); (case a2 => (have e1 := Htl.out; have e2 := Hbl.out; have e3 := Hnl.out; omega)); (case a3 => (first | omega | (simp; omega) | simp)); intro v2 w2 own2 hg2 _; have F2 := RowsOwn.front hg2 own2; have hs2 := F2.2.size; have F2o := F2.1; obtain ⟨k0, k1⟩ := XC.out _ F2.2))
  all_goals
   have F4 := Lib.hid (And.intro ((F3.rest hg4 own4).since HBW.out) ((LB.out.trans HLW.out).below.trans ((F3.rest hg4 own4).2.mono (LB.out.trans HLW.out).below.size)))
   clear own4 hg4 F3 F2 own3 hg3 own2 hg2 F3o F2o k0 k1
   go_ret
   exact ⟨_, rfl, by rw [hfin.out]; exact F4.out⟩
 ·have Hg := Lib.hid (lt_of_block hgb)
  clear h hgb
  obtain ⟨x1, x2⟩ := x
  simp only at LB XB Hmd
  go_enter Try.func41, Try.ntmps41
  go_wp2_with fail
  go_loopw [5] (fun i wr => ∃ n : Nat, n ≤ l.length ∧ i = .int .i64 (n : Int) ∧ Hid (∀ y ∈ l.take n, Ver.Before y ⟨x1, x2⟩) ∧ Laid (w0.alloc (.cells #[.int .i64 x1, .int .i64 x2] 23)) wr) (fun i _ => l.length - (intOf i).toNat)
  case atStart => exact ⟨0, Nat.zero_le _, rfl, Lib.hid (fun y hy => by simp at hy), Laid.refl _⟩
  case round =>
   obtain ⟨n, hn, rfl, hlow, hlaid⟩ := hrel
   have hn0 : (0 : Int) ≤ (n : Int) := by omega
   have hnc : (n : Int) ≤ (cap : Int) := by omega
   have hnl : (n : Int) ≤ (l.length : Int) := by omega
   obtain ⟨q0, q1⟩ := XB.out _ hlaid
   have HLD := Lib.hid hlaid
   have HB := Lib.hid (LB.out.trans hlaid).below
   clear hlaid
   by_cases hlt : n < l.length
   ·obtain ⟨y, hy⟩ : ∃ y, l[n]? = some y := ⟨_, List.getElem?_eq_getElem hlt⟩
    obtain ⟨c0, c1⟩ := Vrs.at ((H0.out.rows (fun _ _ => rfl)).below HB.out) hy
    rw [Nat.zero_add] at c0 c1
    have hn1 : (n : Int) < (l.length : Int) := by omega
    have C0 := cells_grown c0
    have C1 := cells_grown c1
    have Q0 := cells_grown q0
    have Q1 := cells_grown q1
    have Hy := Lib.hid hy
    by_cases hb : Ver.Before y ⟨x1, x2⟩
    ·have BY : Hid (∀ W, Calls Try.prog 43 #[.agg #[.int .i64 y.by_, .int .i64 y.n], .agg #[.int .i64 x1, .int .i64 x2]] W fun e w' => e = .returned (.bool true) ∧ ∃ q os, w' = grow (W.drewN q) os) := Lib.hid (fun W => by have := BE.out W y; rwa [decide_eq_true hb] at this)
     have hnext : Hid (∀ z ∈ l.take (n + 1), Ver.Before z ⟨x1, x2⟩) := Lib.hid (fun z hz => by
      obtain ⟨h1, e1⟩ := List.getElem?_eq_some_iff.1 Hy.out
      rw [List.take_succ_eq_append_getElem h1, e1] at hz
      rcases List.mem_append.1 hz with hz | hz
      ·exact hlow.out z hz
      ·rw [List.mem_singleton.1 hz]; exact hb)
     clear hb hy hlow c0 c1 q0 q1
     go_wp2_with fail
     go_quiet_grown (first | (go_at_call 43; refine Calls.grown_of (BY.out _)))
     go_wp2_with fail
     exact ⟨⟨n + 1, by omega, by go_num, hnext, HLD.out.trans ⟨_, _, rfl⟩⟩, by show l.length - ((n : Int) + 1).toNat < l.length - (n : Int).toNat; omega⟩
    ·have BY : Hid (∀ W, Calls Try.prog 43 #[.agg #[.int .i64 y.by_, .int .i64 y.n], .agg #[.int .i64 x1, .int .i64 x2]] W fun e w' => e = .returned (.bool false) ∧ ∃ q os, w' = grow (W.drewN q) os) := Lib.hid (fun W => by have := BE.out W y; rwa [decide_eq_false hb] at this)
     have hput := Lib.hid (Ver.put_at (n := n) hlow.out (fun z hz => by rw [Hy.out] at hz; injection hz with hz; rw [← hz]; exact hb) hn)
     clear hb hlow c0 c1 q0 q1
     go_wp2_with fail
     go_quiet_grown (first | (go_at_call 43; refine Calls.grown_of (BY.out _)))
     have HLW := Lib.hid (HLD.out.trans ⟨nq, osq, rfl⟩)
     generalize grow (wr.drewN nq) osq = W at *
     obtain ⟨q0, q1⟩ := XB.out _ HLW.out
     obtain ⟨c0, c1⟩ := Vrs.at ((H0.out.rows (fun _ _ => rfl)).below (LB.out.trans HLW.out).below) hy
     rw [Nat.zero_add] at c0 c1
     clear C0 C1 Q0 Q1
     by_cases hsame : y = ⟨x1, x2⟩
     ·subst hsame
      have hfin : Hid (Ver.put l ⟨x1, x2⟩ = l) := Lib.hid (by rw [hput.out, if_pos hy])
      simp only at c0 c1
      clear hput hy
      go_wp2_with fail
      go_quiet (fail)
      have HLW : Hid (Laid (w0.alloc (.cells #[.int .i64 x1, .int .i64 x2] 23)) (W.drewN nq)) := Lib.hid (HLW.out.trans ⟨nq, #[], by rw [grow_empty]⟩)
      generalize W.drewN nq = W2 at *
      go_wp2_with fail
      go_ret
      exact ⟨_, rfl, by rw [hfin.out]; exact ⟨H0.out.below (LB.out.trans HLW.out).below, (LB.out.trans HLW.out).below⟩⟩
     ·have hfin : Hid (Ver.put l ⟨x1, x2⟩ = l.take n ++ [⟨x1, x2⟩] ++ l.drop n) := Lib.hid (by rw [hput.out, if_neg (fun e => hsame (by rw [hy] at e; injection e))])
      obtain ⟨y1, y2⟩ := y
      simp only at c0 c1
      have hxy' : y1 = x1 → ¬ y2 = x2 := fun h k => hsame (by rw [h, k])
      clear hput hy hsame
      have hany : ∃ r, r = (decide (y1 = x1) && decide (y2 = x2)) ∧ r = false := ⟨_, rfl, by by_cases h : y1 = x1 <;> simp [h, hxy']⟩
      by_cases h1 : y1 = x1
      ·have h2 := hxy' h1
       subst h1
       clear hxy' hany
       go_wp2_with fail
       go_quiet (fail)
       have HLW : Hid (Laid (w0.alloc (.cells #[.int .i64 y1, .int .i64 x2] 23)) (W.drewN nq)) := Lib.hid (HLW.out.trans ⟨nq, #[], by rw [grow_empty]⟩)
       generalize W.drewN nq = W2 at *
       have HBW := Lib.hid (H0.out.2.trans ((LB.out.trans HLW.out).below.mono H0.out.2.size))
       have XC := Lib.hid (fun W (hW : Below W2.heap.size W2 W) => show W.cell? ⟨w0.heap.size, 0, none⟩ = some (.int .i64 y1) ∧ W.cell? ⟨w0.heap.size, 1, none⟩ = some (.int .i64 x2) from
        ⟨(hW.cell (p := ⟨w0.heap.size, 0, none⟩) (by have := HLW.out.below.size; simp at this; show w0.heap.size < W2.heap.size; omega)).trans (XB.out _ HLW.out).1, (hW.cell (p := ⟨w0.heap.size, 1, none⟩) (by have := HLW.out.below.size; simp at this; show w0.heap.size < W2.heap.size; omega)).trans (XB.out _ HLW.out).2⟩)
       have Hrow := (H0.out.rows (fun _ _ => rfl)).below (LB.out.trans HLW.out).below
       have Hfront : Vrs (W2.alloc (.cells #[] 23)) (NewIn w W2) (.slice (some ⟨g, 0, none⟩) n cap) (l.take n) := by
        have hb' : Below W2.heap.size W2 (W2.alloc (.cells #[] 23)) := (Below.refl _ _).alloc (Nat.le_refl _) _
        have := (Hrow.below hb').take rfl n hn cap (by omega)
        exact this.mono (fun i hi => ⟨hi.1, Nat.lt_of_lt_of_le hi.2 (LB.out.trans HLW.out).below.size⟩)
       have Htl : Hid ((l.take n).length = n) := Lib.hid (by rw [List.length_take]; omega)
       have Hbl : Hid ((l.drop n).length = l.length - n) := Lib.hid List.length_drop
       have Hnl : Hid (n ≤ l.length ∧ l.length ≤ 1000000) := Lib.hid ⟨hn, Hl.out⟩
       have Hback : Hid (∀ w', Below W2.heap.size W2 w' → Vrs w' (NewIn w W2) (.slice (some ⟨g, n * 2, none⟩) (l.length - n) (cap - n)) (l.drop n)) := Lib.hid (fun w' hw' => by
        have := (Hrow.below hw').drop rfl n hn (cap - n) (by omega)
        rw [Nat.zero_add] at this
        exact this.mono (fun i hi => ⟨hi.1, Nat.lt_of_lt_of_le hi.2 (LB.out.trans HLW.out).below.size⟩))
       go_wp2_with (first
        | (at_builtin; refine wp_joins (f := verV) (k := 2) rfl _ _ 71 rfl W2.heap.size 23 i0 (.agg #[.int .i64 0, .int .i64 0]) 16 Try.underlying71 hi0 hz0 hz1 hz2 rfl (by decide) rfl rfl F3o (Hback.out _ F3.2) (fun _ _ => rfl) (fun x _ => ver_one x) ?b1 ?b2 ?b3 ?_; (case b1 => (have e1 := Htl.out; have e2 := Hbl.out; have e3 := Hnl.out; unfold maxLen; rw [List.length_append, show ([(⟨y1, x2⟩ : Ver.V)]).length = 1 from rfl]; omega)); (case b2 => (have e1 := Htl.out; have e2 := Hbl.out; have e3 := Hnl.out; rw [List.length_append, show ([(⟨y1, x2⟩ : Ver.V)]).length = 1 from rfl]; omega)); (case b3 => (first | omega | (simp; omega) | simp)); intro v4 w4 own4 hg4 _)
        | (at_builtin; refine wp_joins (f := verV) (k := 2) rfl _ _ 71 rfl W2.heap.size 23 i0 (.agg #[.int .i64 0, .int .i64 0]) 16 Try.underlying71 hi0 hz0 hz1 hz2 rfl (by decide) rfl rfl (F2o.alloc _) (Hmd.out _) (fun _ _ => rfl) (fun x _ => ver_one x) ?c1 ?c2 ?c3 ?_; (case c1 => (have e1 := Htl.out; have e2 := Hbl.out; have e3 := Hnl.out; unfold maxLen; rw [show ([(⟨y1, x2⟩ : Ver.V)]).length = 1 from rfl]; omega)); (case c2 => (have e1 := Htl.out; have e2 := Hbl.out; have e3 := Hnl.out; rw [show ([(⟨y1, x2⟩ : Ver.V)]).length = 1 from rfl]; omega)); (case c3 => (first | omega | (simp; omega) | simp)); intro v3 w3 own3 hg3 _; have F3 := F2.more (x := (⟨y1, x2⟩ : Ver.V)) (v' := v3) (by simpa [verV] using own3) hg3; have hs3 := F3.2.size; have F3o := F3.1)
        | (at_builtin; refine wp_joins (f := verV) (k := 2) rfl _ _ 71 rfl W2.heap.size 23 i0 (.agg #[.int .i64 0, .int .i64 0]) 16 Try.underlying71 hi0 hz0 hz1 hz2 rfl (by decide) rfl rfl (H0n.out _) Hfront (fun _ _ => rfl) (fun x _ => ver_one x) ?a1 ?a2 ?a3 ?_; (case a1 => (have e1 := Htl.out; have e2 := Hbl.out; have e3 := Hnl.out; unfold maxLen; omega)); (case a2 => (have e1 := Htl.out; have e2 := Hbl.out; have e3 := Hnl.out; omega)); (case a3 => (first | omega | (simp; omega) | simp)); intro v2 w2 own2 hg2 _; have F2 := RowsOwn.front hg2 own2; have hs2 := F2.2.size; have F2o := F2.1; obtain ⟨k0, k1⟩ := XC.out _ F2.2))
       all_goals
        have F4 := Lib.hid (And.intro ((F3.rest hg4 own4).since HBW.out) ((LB.out.trans HLW.out).below.trans ((F3.rest hg4 own4).2.mono (LB.out.trans HLW.out).below.size)))
        clear own4 hg4 F3 F2 own3 hg3 own2 hg2 F3o F2o k0 k1
        go_ret
        exact ⟨_, rfl, by rw [hfin.out]; exact F4.out⟩
      ·clear hxy' hany
       go_wp2_with fail
       go_quiet (fail)
       have HLW : Hid (Laid (w0.alloc (.cells #[.int .i64 x1, .int .i64 x2] 23)) (W.drewN nq)) := Lib.hid (HLW.out.trans ⟨nq, #[], by rw [grow_empty]⟩)
       generalize W.drewN nq = W2 at *
       have HBW := Lib.hid (H0.out.2.trans ((LB.out.trans HLW.out).below.mono H0.out.2.size))
       have XC := Lib.hid (fun W (hW : Below W2.heap.size W2 W) => show W.cell? ⟨w0.heap.size, 0, none⟩ = some (.int .i64 x1) ∧ W.cell? ⟨w0.heap.size, 1, none⟩ = some (.int .i64 x2) from
        ⟨(hW.cell (p := ⟨w0.heap.size, 0, none⟩) (by have := HLW.out.below.size; simp at this; show w0.heap.size < W2.heap.size; omega)).trans (XB.out _ HLW.out).1, (hW.cell (p := ⟨w0.heap.size, 1, none⟩) (by have := HLW.out.below.size; simp at this; show w0.heap.size < W2.heap.size; omega)).trans (XB.out _ HLW.out).2⟩)
       have Hrow := (H0.out.rows (fun _ _ => rfl)).below (LB.out.trans HLW.out).below
       have Hfront : Vrs (W2.alloc (.cells #[] 23)) (NewIn w W2) (.slice (some ⟨g, 0, none⟩) n cap) (l.take n) := by
        have hb' : Below W2.heap.size W2 (W2.alloc (.cells #[] 23)) := (Below.refl _ _).alloc (Nat.le_refl _) _
        have := (Hrow.below hb').take rfl n hn cap (by omega)
        exact this.mono (fun i hi => ⟨hi.1, Nat.lt_of_lt_of_le hi.2 (LB.out.trans HLW.out).below.size⟩)
       have Htl : Hid ((l.take n).length = n) := Lib.hid (by rw [List.length_take]; omega)
       have Hbl : Hid ((l.drop n).length = l.length - n) := Lib.hid List.length_drop
       have Hnl : Hid (n ≤ l.length ∧ l.length ≤ 1000000) := Lib.hid ⟨hn, Hl.out⟩
       have Hback : Hid (∀ w', Below W2.heap.size W2 w' → Vrs w' (NewIn w W2) (.slice (some ⟨g, n * 2, none⟩) (l.length - n) (cap - n)) (l.drop n)) := Lib.hid (fun w' hw' => by
        have := (Hrow.below hw').drop rfl n hn (cap - n) (by omega)
        rw [Nat.zero_add] at this
        exact this.mono (fun i hi => ⟨hi.1, Nat.lt_of_lt_of_le hi.2 (LB.out.trans HLW.out).below.size⟩))
       go_wp2_with (first
        | (at_builtin; refine wp_joins (f := verV) (k := 2) rfl _ _ 71 rfl W2.heap.size 23 i0 (.agg #[.int .i64 0, .int .i64 0]) 16 Try.underlying71 hi0 hz0 hz1 hz2 rfl (by decide) rfl rfl F3o (Hback.out _ F3.2) (fun _ _ => rfl) (fun x _ => ver_one x) ?b1 ?b2 ?b3 ?_; (case b1 => (have e1 := Htl.out; have e2 := Hbl.out; have e3 := Hnl.out; unfold maxLen; rw [List.length_append, show ([(⟨x1, x2⟩ : Ver.V)]).length = 1 from rfl]; omega)); (case b2 => (have e1 := Htl.out; have e2 := Hbl.out; have e3 := Hnl.out; rw [List.length_append, show ([(⟨x1, x2⟩ : Ver.V)]).length = 1 from rfl]; omega)); (case b3 => (first | omega | (simp; omega) | simp)); intro v4 w4 own4 hg4 _)
        | (at_builtin; refine wp_joins (f := verV) (k := 2) rfl _ _ 71 rfl W2.heap.size 23 i0 (.agg #[.int .i64 0, .int .i64 0]) 16 Try.underlying71 hi0 hz0 hz1 hz2 rfl (by decide) rfl rfl (F2o.alloc _) (Hmd.out _) (fun _ _ => rfl) (fun x _ => ver_one x) ?c1 ?c2 ?c3 ?_; (case c1 => (have e1 := Htl.out; have e2 := Hbl.out; have e3 := Hnl.out; unfold maxLen; rw [show ([(⟨x1, x2⟩ : Ver.V)]).length = 1 from rfl]; omega)); (case c2 => (have e1 := Htl.out; have e2 := Hbl.out; have e3 := Hnl.out; rw [show ([(⟨x1, x2⟩ : Ver.V)]).length = 1 from rfl]; omega)); (case c3 => (first | omega | (simp; omega) | simp)); intro v3 w3 own3 hg3 _; have F3 := F2.more (x := (⟨x1, x2⟩ : Ver.V)) (v' := v3) (by simpa [verV] using own3) hg3; have hs3 := F3.2.size; have F3o := F3.1)
        | (at_builtin; refine wp_joins (f := verV) (k := 2) rfl _ _ 71 rfl W2.heap.size 23 i0 (.agg #[.int .i64 0, .int .i64 0]) 16 Try.underlying71 hi0 hz0 hz1 hz2 rfl (by decide) rfl rfl (H0n.out _) Hfront (fun _ _ => rfl) (fun x _ => ver_one x) ?a1 ?a2 ?a3 ?_; (case a1 => (have e1 := Htl.out; have e2 := Hbl.out; have e3 := Hnl.out; unfold maxLen; omega)); (case a2 => (have e1 := Htl.out; have e2 := Hbl.out; have e3 := Hnl.out; omega)); (case a3 => (first | omega | (simp; omega) | simp)); intro v2 w2 own2 hg2 _; have F2 := RowsOwn.front hg2 own2; have hs2 := F2.2.size; have F2o := F2.1; obtain ⟨k0, k1⟩ := XC.out _ F2.2))
       all_goals
        have F4 := Lib.hid (And.intro ((F3.rest hg4 own4).since HBW.out) ((LB.out.trans HLW.out).below.trans ((F3.rest hg4 own4).2.mono (LB.out.trans HLW.out).below.size)))
        clear own4 hg4 F3 F2 own3 hg3 own2 hg2 F3o F2o k0 k1
        go_ret
        exact ⟨_, rfl, by rw [hfin.out]; exact F4.out⟩
   ·obtain rfl : n = l.length := by omega
    have hput := Lib.hid (Ver.put_at (n := l.length) hlow.out (fun z hz => by simp at hz) hn)
    have hfin : Hid (Ver.put l ⟨x1, x2⟩ = l.take l.length ++ [⟨x1, x2⟩] ++ l.drop l.length) := Lib.hid (by rw [hput.out, if_neg (by simp)])
    clear hput hlow
    go_wp2_with fail
    go_quiet (fail)
    have HLW : Hid (Laid (w0.alloc (.cells #[.int .i64 x1, .int .i64 x2] 23)) (wr.drewN nq)) := Lib.hid (HLD.out.trans ⟨nq, #[], by rw [grow_empty]⟩)
    generalize wr.drewN nq = W at *
    go_wp2_with fail
    go_quiet (fail)
    have HLW : Hid (Laid (w0.alloc (.cells #[.int .i64 x1, .int .i64 x2] 23)) (W.drewN nq)) := Lib.hid (HLW.out.trans ⟨nq, #[], by rw [grow_empty]⟩)
    generalize W.drewN nq = W2 at *
    have HBW := Lib.hid (H0.out.2.trans ((LB.out.trans HLW.out).below.mono H0.out.2.size))
    have XC := Lib.hid (fun W (hW : Below W2.heap.size W2 W) => show W.cell? ⟨w0.heap.size, 0, none⟩ = some (.int .i64 x1) ∧ W.cell? ⟨w0.heap.size, 1, none⟩ = some (.int .i64 x2) from
     ⟨(hW.cell (p := ⟨w0.heap.size, 0, none⟩) (by have := HLW.out.below.size; simp at this; show w0.heap.size < W2.heap.size; omega)).trans (XB.out _ HLW.out).1, (hW.cell (p := ⟨w0.heap.size, 1, none⟩) (by have := HLW.out.below.size; simp at this; show w0.heap.size < W2.heap.size; omega)).trans (XB.out _ HLW.out).2⟩)
    have Hrow := (H0.out.rows (fun _ _ => rfl)).below (LB.out.trans HLW.out).below
    have Hfront : Vrs (W2.alloc (.cells #[] 23)) (NewIn w W2) (.slice (some ⟨g, 0, none⟩) l.length cap) (l.take l.length) := by
     have hb' : Below W2.heap.size W2 (W2.alloc (.cells #[] 23)) := (Below.refl _ _).alloc (Nat.le_refl _) _
     have := (Hrow.below hb').take rfl l.length hn cap (by omega)
     exact this.mono (fun i hi => ⟨hi.1, Nat.lt_of_lt_of_le hi.2 (LB.out.trans HLW.out).below.size⟩)
    have Htl : Hid ((l.take l.length).length = l.length) := Lib.hid (by rw [List.length_take]; omega)
    have Hbl : Hid ((l.drop l.length).length = l.length - l.length) := Lib.hid List.length_drop
    have Hnl : Hid (l.length ≤ l.length ∧ l.length ≤ 1000000) := Lib.hid ⟨hn, Hl.out⟩
    have Hzero : Hid (∀ A c w', Vrs w' (fun _ => False) (.slice A 0 c) (l.drop l.length)) := Lib.hid (fun A c w' => by
     rw [List.drop_of_length_le (Nat.le_refl _)]
     exact Rws.empty _ _ _ _)
    go_wp2_with (first
     | (at_builtin; refine wp_joins (f := verV) (k := 2) rfl _ _ 71 rfl W2.heap.size 23 i0 (.agg #[.int .i64 0, .int .i64 0]) 16 Try.underlying71 hi0 hz0 hz1 hz2 rfl (by decide) rfl rfl F3o (Hzero.out _ _ _) (fun _ _ => rfl) (fun x _ => ver_one x) ?b1 ?b2 ?b3 ?_; (case b1 => (have e1 := Htl.out; have e2 := Hbl.out; have e3 := Hnl.out; unfold maxLen; rw [List.length_append, show ([(⟨x1, x2⟩ : Ver.V)]).length = 1 from rfl]; omega)); (case b2 => (have e1 := Htl.out; have e2 := Hbl.out; have e3 := Hnl.out; rw [List.length_append, show ([(⟨x1, x2⟩ : Ver.V)]).length = 1 from rfl]; omega)); (case b3 => (first | omega | (simp; omega) | simp)); intro v4 w4 own4 hg4 _)
     | (at_builtin; refine wp_joins (f := verV) (k := 2) rfl _ _ 71 rfl W2.heap.size 23 i0 (.agg #[.int .i64 0, .int .i64 0]) 16 Try.underlying71 hi0 hz0 hz1 hz2 rfl (by decide) rfl rfl (F2o.alloc _) (Hmd.out _) (fun _ _ => rfl) (fun x _ => ver_one x) ?c1 ?c2 ?c3 ?_; (case c1 => (have e1 := Htl.out; have e2 := Hbl.out; have e3 := Hnl.out; unfold maxLen; rw [show ([(⟨x1, x2⟩ : Ver.V)]).length = 1 from rfl]; omega)); (case c2 => (have e1 := Htl.out; have e2 := Hbl.out; have e3 := Hnl.out; rw [show ([(⟨x1, x2⟩ : Ver.V)]).length = 1 from rfl]; omega)); (case c3 => (first | omega | (simp; omega) | simp)); intro v3 w3 own3 hg3 _; have F3 := F2.more (x := (⟨x1, x2⟩ : Ver.V)) (v' := v3) (by simpa [verV] using own3) hg3; have hs3 := F3.2.size; have F3o := F3.1)
     | (at_builtin; refine wp_joins (f := verV) (k := 2) rfl _ _ 71 rfl W2.heap.size 23 i0 (.agg #[.int .i64 0, .int .i64 0]) 16 Try.underlying71 hi0 hz0 hz1 hz2 rfl (by decide) rfl rfl (H0n.out _) Hfront (fun _ _ => rfl) (fun x _ => ver_one x) ?a1 ?a2 ?a3 ?_; (case a1 => (have e1 := Htl.out; have e2 := Hbl.out; have e3 := Hnl.out; unfold maxLen; omega)); (case a2 => (have e1 := Htl.out; have e2 := Hbl.out; have e3 := Hnl.out; omega)); (case a3 => (first | omega | (simp; omega) | simp)); intro v2 w2 own2 hg2 _; have F2 := RowsOwn.front hg2 own2; have hs2 := F2.2.size; have F2o := F2.1; obtain ⟨k0, k1⟩ := XC.out _ F2.2))
    all_goals
     have F4 := Lib.hid (And.intro ((F3.rest hg4 own4).since HBW.out) ((LB.out.trans HLW.out).below.trans ((F3.rest hg4 own4).2.mono (LB.out.trans HLW.out).below.size)))
     clear own4 hg4 F3 F2 own3 hg3 own2 hg2 F3o F2o k0 k1
     go_ret
     exact ⟨_, rfl, by rw [hfin.out]; exact F4.out⟩
end Go.Proofs.Ytgpeobmaneponaa
