/- Of two updates of unlike stamps one wins, and to win is an order: UpdateWins's statement holds. -/
import Derived.Test.YtgpeobmaneponaaCom12
import Derived.Test.YtgpeobmaneponaaCom16
set_option maxRecDepth 100000
set_option linter.unusedVariables false
set_option linter.unusedSimpArgs false
set_option maxHeartbeats 12800000
namespace Go.Proofs.Ytgpeobmaneponaa
open List renaming getElem_toArray → z1, getElem_cons_zero → z2, getElem_cons_succ → z3, setIfInBounds_toArray → z4, set_cons_zero → z5, set_cons_succ → z6
open Go.RowKit Go.Sort
theorem uwins_walk (O : UpdateOk) (Z : FilterOk) {w : World} {a b c : Upd.U} (ha : Upd.In a) (hb : Upd.In b) (hc : Upd.In c) :
  Calls Try.prog 6 #[upA a, upA b, upA c] w fun e w' => e = .returned (.bool true) ∧ Below w.heap.size w w' := by
 have mixed : Try.prog.follows .mixedOrders = true := by kernel_rfl
 have AW := Lib.hid (fun W => upd_awake O Z W)
 obtain ⟨W0, hW0⟩ : ∃ W0, W0 = ((w.alloc (.cells #[.int .i64 a.item.by_, .int .i64 a.item.n, .int .i64 a.stamp.v.by_, .int .i64 a.stamp.v.n, .int .i64 a.stamp.time, .string (mk a.path), .string (mk a.data), .bool a.dead] 27)).alloc (.cells #[.int .i64 b.item.by_, .int .i64 b.item.n, .int .i64 b.stamp.v.by_, .int .i64 b.stamp.v.n, .int .i64 b.stamp.time, .string (mk b.path), .string (mk b.data), .bool b.dead] 27)).alloc (.cells #[.int .i64 c.item.by_, .int .i64 c.item.n, .int .i64 c.stamp.v.by_, .int .i64 c.stamp.v.n, .int .i64 c.stamp.time, .string (mk c.path), .string (mk c.data), .bool c.dead] 27) := ⟨_, rfl⟩
 have hb0 : Below w.heap.size w W0 := by rw [hW0]; exact (((Below.refl _ _).alloc (by simp) _).alloc (by simp; try omega) _).alloc (by simp; try omega) _
 have r0 : Row W0 (w.heap.size) 27 #[.int .i64 a.item.by_, .int .i64 a.item.n, .int .i64 a.stamp.v.by_, .int .i64 a.stamp.v.n, .int .i64 a.stamp.time, .string (mk a.path), .string (mk a.data), .bool a.dead] := by
  rw [hW0]
  have h := (((Row.made w 27 #[.int .i64 a.item.by_, .int .i64 a.item.n, .int .i64 a.stamp.v.by_, .int .i64 a.stamp.v.n, .int .i64 a.stamp.time, .string (mk a.path), .string (mk a.data), .bool a.dead]).behindNew (.cells #[.int .i64 b.item.by_, .int .i64 b.item.n, .int .i64 b.stamp.v.by_, .int .i64 b.stamp.v.n, .int .i64 b.stamp.time, .string (mk b.path), .string (mk b.data), .bool b.dead] 27)).behindNew (.cells #[.int .i64 c.item.by_, .int .i64 c.item.n, .int .i64 c.stamp.v.by_, .int .i64 c.stamp.v.n, .int .i64 c.stamp.time, .string (mk c.path), .string (mk c.data), .bool c.dead] 27))
  simpa only [World.size_alloc] using h
 have r1 : Row W0 (w.heap.size + 1) 27 #[.int .i64 b.item.by_, .int .i64 b.item.n, .int .i64 b.stamp.v.by_, .int .i64 b.stamp.v.n, .int .i64 b.stamp.time, .string (mk b.path), .string (mk b.data), .bool b.dead] := by
  rw [hW0]
  have h := ((Row.made (w.alloc (.cells #[.int .i64 a.item.by_, .int .i64 a.item.n, .int .i64 a.stamp.v.by_, .int .i64 a.stamp.v.n, .int .i64 a.stamp.time, .string (mk a.path), .string (mk a.data), .bool a.dead] 27)) 27 #[.int .i64 b.item.by_, .int .i64 b.item.n, .int .i64 b.stamp.v.by_, .int .i64 b.stamp.v.n, .int .i64 b.stamp.time, .string (mk b.path), .string (mk b.data), .bool b.dead]).behindNew (.cells #[.int .i64 c.item.by_, .int .i64 c.item.n, .int .i64 c.stamp.v.by_, .int .i64 c.stamp.v.n, .int .i64 c.stamp.time, .string (mk c.path), .string (mk c.data), .bool c.dead] 27))
  simpa only [World.size_alloc] using h
 have r2 : Row W0 (w.heap.size + 1 + 1) 27 #[.int .i64 c.item.by_, .int .i64 c.item.n, .int .i64 c.stamp.v.by_, .int .i64 c.stamp.v.n, .int .i64 c.stamp.time, .string (mk c.path), .string (mk c.data), .bool c.dead] := by
  rw [hW0]
  have h := (Row.made ((w.alloc (.cells #[.int .i64 a.item.by_, .int .i64 a.item.n, .int .i64 a.stamp.v.by_, .int .i64 a.stamp.v.n, .int .i64 a.stamp.time, .string (mk a.path), .string (mk a.data), .bool a.dead] 27)).alloc (.cells #[.int .i64 b.item.by_, .int .i64 b.item.n, .int .i64 b.stamp.v.by_, .int .i64 b.stamp.v.n, .int .i64 b.stamp.time, .string (mk b.path), .string (mk b.data), .bool b.dead] 27)) 27 #[.int .i64 c.item.by_, .int .i64 c.item.n, .int .i64 c.stamp.v.by_, .int .i64 c.stamp.v.n, .int .i64 c.stamp.time, .string (mk c.path), .string (mk c.data), .bool c.dead])
  simpa only [World.size_alloc] using h
 have HB0 := Lib.hid hb0
 have B0 : Hid (Below W0.heap.size W0 W0) := Lib.hid (Below.refl _ _)
 have LAA := Lib.hid (fun (W : World) (h : Below W0.heap.size W0 W) => (up_lies_row (cs := upV a) (r0.below h r0.inHeap) rfl : Lies 27 W (w.heap.size) 0 (upV a)))
 have LBB := Lib.hid (fun (W : World) (h : Below W0.heap.size W0 W) => (up_lies_row (cs := upV b) (r1.below h r1.inHeap) rfl : Lies 27 W (w.heap.size + 1) 0 (upV b)))
 have LCC := Lib.hid (fun (W : World) (h : Below W0.heap.size W0 W) => (up_lies_row (cs := upV c) (r2.below h r2.inHeap) rfl : Lies 27 W (w.heap.size + 1 + 1) 0 (upV c)))
 have LSAA := Lib.hid (fun (W : World) (h : Below W0.heap.size W0 W) => (show Lies 25 W (w.heap.size) 2 (stpV a.stamp) from up_stp_lies (u := a) (o := 0) (range_row (cs := upV a) (r0.below h r0.inHeap))))
 have LSBB := Lib.hid (fun (W : World) (h : Below W0.heap.size W0 W) => (show Lies 25 W (w.heap.size + 1) 2 (stpV b.stamp) from up_stp_lies (u := b) (o := 0) (range_row (cs := upV b) (r1.below h r1.inHeap))))
 by_cases la : Upd.light a
 ·have LGa : Hid (∀ W, Calls Try.prog 7 #[.agg (upV a).toArray] W fun e w' => e = .returned (.bool true) ∧ Below W.heap.size W w') := Lib.hid (fun W => by have := ulight_any a W; rwa [decide_eq_true la] at this)
  have LG0 : Hid (∀ W, Calls Try.prog 7 #[upA a] W fun e w' => e = .returned (.bool true) ∧ Below W.heap.size W w') := Lib.hid (fun W => LGa.out W)
  by_cases lb : Upd.light b
  ·have LGb : Hid (∀ W, Calls Try.prog 7 #[.agg (upV b).toArray] W fun e w' => e = .returned (.bool true) ∧ Below W.heap.size W w') := Lib.hid (fun W => by have := ulight_any b W; rwa [decide_eq_true lb] at this)
   by_cases lc : Upd.light c
   ·have LGc : Hid (∀ W, Calls Try.prog 7 #[.agg (upV c).toArray] W fun e w' => e = .returned (.bool true) ∧ Below W.heap.size W w') := Lib.hid (fun W => by have := ulight_any c W; rwa [decide_eq_true lc] at this)
    by_cases h1 : Upd.Wins a b
    ·have h2 : ¬ Upd.Wins b a := Upd.wins_asymm h1
     have h3 : ¬ a.stamp = b.stamp := (Upd.wins_or a b).1 (Or.inl h1)
     by_cases h4 : Upd.Wins b c
     ·have h5 : Upd.Wins a c := Upd.wins_trans h1 h4
      have WAB : Hid (∀ W, Calls Try.prog 25 #[.agg (upV a).toArray, .agg (upV b).toArray] W fun e w' => e = .returned (.bool true) ∧ Below W.heap.size W w') := Lib.hid (fun W => by have h := O.wins (w := W) a b; rw [decide_eq_true h1] at h; exact h)
      have WBA : Hid (∀ W, Calls Try.prog 25 #[.agg (upV b).toArray, .agg (upV a).toArray] W fun e w' => e = .returned (.bool false) ∧ Below W.heap.size W w') := Lib.hid (fun W => by have h := O.wins (w := W) b a; rw [decide_eq_false h2] at h; exact h)
      have WBC : Hid (∀ W, Calls Try.prog 25 #[.agg (upV b).toArray, .agg (upV c).toArray] W fun e w' => e = .returned (.bool true) ∧ Below W.heap.size W w') := Lib.hid (fun W => by have h := O.wins (w := W) b c; rw [decide_eq_true h4] at h; exact h)
      have WAC : Hid (∀ W, Calls Try.prog 25 #[.agg (upV a).toArray, .agg (upV c).toArray] W fun e w' => e = .returned (.bool true) ∧ Below W.heap.size W w') := Lib.hid (fun W => by have h := O.wins (w := W) a c; rw [decide_eq_true h5] at h; exact h)
      have OLD : Hid (∀ W, Calls Try.prog 26 #[.agg (stpV b.stamp).toArray, .agg (stpV a.stamp).toArray] W fun e w' => e = .returned (.bool true) ∧ Below W.heap.size W w') := Lib.hid (fun W => (ref_older W b.stamp a.stamp).mono (fun _ _ h => ⟨h.1.trans (by rw [show decide (Ver.Older b.stamp a.stamp) = true from decide_eq_true h1]), h.2.below⟩))
      have EQ : Hid (∀ W, (binOp .eql 25 (.agg (stpV a.stamp).toArray) (.agg (stpV b.stamp).toArray)).run Try.prog W = .ok (.bool false) W) := Lib.hid (fun W => by have h := stp_eql W a.stamp b.stamp; rw [decide_eq_false h3] at h; exact h)
      generalize stpV a.stamp = sa at *
      generalize stpV b.stamp = sb at *
      clear LGa
      generalize hca : upV a = ca at *
      generalize hcb : upV b = cb at *
      generalize hcc : upV c = cc at *
      clear ha hb hc hca hcb hcc
      clear h1 h2 h3 h4 h5
      go_enter Try.func6, Try.ntmps6
      go_wp2_with fail
      first | rw [← hW0] | skip
      clear hW0 r0 r1 r2 hb0
      have LA := Lib.hid (LAA.out W0 B0.out)
      have LB := Lib.hid (LBB.out W0 B0.out)
      have LC := Lib.hid (LCC.out W0 B0.out)
      go_wp2_with (first | refine wpList_mload (by rfl) _ (by rfl) (by rfl) LA.out ?_ | refine wpList_mload (by rfl) _ (by rfl) (by rfl) LB.out ?_ | refine wpList_mload (by rfl) _ (by rfl) (by rfl) LC.out ?_)
      clear LA LB LC
      refine (LG0.out _).mono ?_
      rintro e w1 ⟨rfl, b1⟩
      have B1 := Lib.hid (B0.out.trans (b1.mono B0.out.size))
      have LA := Lib.hid (LAA.out w1 B1.out)
      have LB := Lib.hid (LBB.out w1 B1.out)
      have LC := Lib.hid (LCC.out w1 B1.out)
      clear b1
      go_wp2_with (first | refine wpList_mload (by rfl) _ (by rfl) (by rfl) LA.out ?_ | refine wpList_mload (by rfl) _ (by rfl) (by rfl) LB.out ?_ | refine wpList_mload (by rfl) _ (by rfl) (by rfl) LC.out ?_)
      clear LA LB LC
      refine (LGb.out _).mono ?_
      rintro e w2 ⟨rfl, b2⟩
      have B2 := Lib.hid (B1.out.trans (b2.mono B1.out.size))
      have LA := Lib.hid (LAA.out w2 B2.out)
      have LB := Lib.hid (LBB.out w2 B2.out)
      have LC := Lib.hid (LCC.out w2 B2.out)
      clear b2
      go_wp2_with (first | refine wpList_mload (by rfl) _ (by rfl) (by rfl) LA.out ?_ | refine wpList_mload (by rfl) _ (by rfl) (by rfl) LB.out ?_ | refine wpList_mload (by rfl) _ (by rfl) (by rfl) LC.out ?_)
      clear LA LB LC
      refine (LGc.out _).mono ?_
      rintro e w3 ⟨rfl, b3⟩
      have B3 := Lib.hid (B2.out.trans (b3.mono B2.out.size))
      have LA := Lib.hid (LAA.out w3 B3.out)
      have LB := Lib.hid (LBB.out w3 B3.out)
      have LC := Lib.hid (LCC.out w3 B3.out)
      clear b3
      clear LA LB LC
      go_wp2_with fail
      refine wp_region_below mixed (by kernel_rfl) ?_
      refine wq_mload (by rfl) (.tmp 3) (by rfl) (by rfl) (fun w hSw => LAA.out w (B3.out.trans (hSw.below.mono B3.out.size))) ?_
      simp only [Act.put, z1, z2, z3, z4, z5, z6]
      refine wq_mload (by rfl) (.tmp 4) (by rfl) (by rfl) (fun w hSw => LBB.out w (B3.out.trans (hSw.below.mono B3.out.size))) ?_
      simp only [Act.put, z1, z2, z3, z4, z5, z6]
      refine wq_call (by kernel_rfl) ?hent (fun w hSw => inB_calls hSw (WAB.out w)) ?_; (case hent => (intro w hSw; go_simp; first | done | exact ⟨rfl, rfl⟩ | rfl))
      simp only [Act.put, z1, z2, z3, z4, z5, z6]
      refine wq_mload (by rfl) (.tmp 4) (by rfl) (by rfl) (fun w hSw => LBB.out w (B3.out.trans (hSw.below.mono B3.out.size))) ?_
      simp only [Act.put, z1, z2, z3, z4, z5, z6]
      refine wq_mload (by rfl) (.tmp 3) (by rfl) (by rfl) (fun w hSw => LAA.out w (B3.out.trans (hSw.below.mono B3.out.size))) ?_
      simp only [Act.put, z1, z2, z3, z4, z5, z6]
      refine wq_call (by kernel_rfl) ?hent (fun w hSw => inB_calls hSw (WBA.out w)) ?_; (case hent => (intro w hSw; go_simp; first | done | exact ⟨rfl, rfl⟩ | rfl))
      simp only [Act.put, z1, z2, z3, z4, z5, z6]
      refine wq_td ?_
      simp only [Act.put, z1, z2, z3, z4, z5, z6]
      refine wq_td ?_
      simp only [Act.put, z1, z2, z3, z4, z5, z6]
      refine wq_nil ?_
      intro wq hq
      have B4 := Lib.hid (B3.out.trans (hq.below.mono B3.out.size))
      clear hq
      have LA := Lib.hid (LAA.out wq B4.out)
      have LB := Lib.hid (LBB.out wq B4.out)
      have LC := Lib.hid (LCC.out wq B4.out)
      have LSA := Lib.hid (LSAA.out wq B4.out)
      have LSB := Lib.hid (LSBB.out wq B4.out)
      go_wp2_with (first | refine wpList_mload (by rfl) _ (by rfl) (by rfl) LA.out ?_ | refine wpList_mload (by rfl) _ (by rfl) (by rfl) LB.out ?_ | refine wpList_mload (by rfl) _ (by rfl) (by rfl) LC.out ?_ | refine wpList_mload (by rfl) _ (by rfl) (by rfl) LSA.out ?_ | refine wpList_mload (by rfl) _ (by rfl) (by rfl) LSB.out ?_ | refine wpList_bin (by rfl) .eql _ _ _ _ (by rfl) (by rfl) (by rfl) stpGuard (EQ.out _) ?_)
      clear LA LB LC LSA LSB
      refine (OLD.out _).mono ?_
      rintro e w5 ⟨rfl, b5⟩
      have B5 := Lib.hid (B4.out.trans (b5.mono B4.out.size))
      have LA := Lib.hid (LAA.out w5 B5.out)
      have LB := Lib.hid (LBB.out w5 B5.out)
      have LC := Lib.hid (LCC.out w5 B5.out)
      have LSA := Lib.hid (LSAA.out w5 B5.out)
      have LSB := Lib.hid (LSBB.out w5 B5.out)
      clear b5
      go_wp2_with (first | refine wpList_mload (by rfl) _ (by rfl) (by rfl) LA.out ?_ | refine wpList_mload (by rfl) _ (by rfl) (by rfl) LB.out ?_ | refine wpList_mload (by rfl) _ (by rfl) (by rfl) LC.out ?_ | refine wpList_mload (by rfl) _ (by rfl) (by rfl) LSA.out ?_ | refine wpList_mload (by rfl) _ (by rfl) (by rfl) LSB.out ?_ | refine wpList_bin (by rfl) .eql _ _ _ _ (by rfl) (by rfl) (by rfl) stpGuard (EQ.out _) ?_)
      clear LA LB LC LSA LSB
      refine (AW.out _).mono ?_
      rintro e w6 ⟨rfl, b6⟩
      have B6 := Lib.hid (B5.out.trans (b6.mono B5.out.size))
      have LA := Lib.hid (LAA.out w6 B6.out)
      have LB := Lib.hid (LBB.out w6 B6.out)
      have LC := Lib.hid (LCC.out w6 B6.out)
      have LSA := Lib.hid (LSAA.out w6 B6.out)
      have LSB := Lib.hid (LSBB.out w6 B6.out)
      clear b6
      go_wp2_with (first | refine wpList_mload (by rfl) _ (by rfl) (by rfl) LA.out ?_ | refine wpList_mload (by rfl) _ (by rfl) (by rfl) LB.out ?_ | refine wpList_mload (by rfl) _ (by rfl) (by rfl) LC.out ?_ | refine wpList_mload (by rfl) _ (by rfl) (by rfl) LSA.out ?_ | refine wpList_mload (by rfl) _ (by rfl) (by rfl) LSB.out ?_ | refine wpList_bin (by rfl) .eql _ _ _ _ (by rfl) (by rfl) (by rfl) stpGuard (EQ.out _) ?_)
      clear LA LB LC LSA LSB
      refine (WBC.out _).mono ?_
      rintro e w7 ⟨rfl, b7⟩
      have B7 := Lib.hid (B6.out.trans (b7.mono B6.out.size))
      have LA := Lib.hid (LAA.out w7 B7.out)
      have LB := Lib.hid (LBB.out w7 B7.out)
      have LC := Lib.hid (LCC.out w7 B7.out)
      have LSA := Lib.hid (LSAA.out w7 B7.out)
      have LSB := Lib.hid (LSBB.out w7 B7.out)
      clear b7
      go_wp2_with (first | refine wpList_mload (by rfl) _ (by rfl) (by rfl) LA.out ?_ | refine wpList_mload (by rfl) _ (by rfl) (by rfl) LB.out ?_ | refine wpList_mload (by rfl) _ (by rfl) (by rfl) LC.out ?_ | refine wpList_mload (by rfl) _ (by rfl) (by rfl) LSA.out ?_ | refine wpList_mload (by rfl) _ (by rfl) (by rfl) LSB.out ?_ | refine wpList_bin (by rfl) .eql _ _ _ _ (by rfl) (by rfl) (by rfl) stpGuard (EQ.out _) ?_)
      clear LA LB LC LSA LSB
      refine (WAC.out _).mono ?_
      rintro e w8 ⟨rfl, b8⟩
      have B8 := Lib.hid (B7.out.trans (b8.mono B7.out.size))
      have LA := Lib.hid (LAA.out w8 B8.out)
      have LB := Lib.hid (LBB.out w8 B8.out)
      have LC := Lib.hid (LCC.out w8 B8.out)
      have LSA := Lib.hid (LSAA.out w8 B8.out)
      have LSB := Lib.hid (LSBB.out w8 B8.out)
      clear b8
      go_wp2_with fail
      go_ret
      exact ⟨rfl, HB0.out.trans (B8.out.mono HB0.out.size)⟩
     ·have WAB : Hid (∀ W, Calls Try.prog 25 #[.agg (upV a).toArray, .agg (upV b).toArray] W fun e w' => e = .returned (.bool true) ∧ Below W.heap.size W w') := Lib.hid (fun W => by have h := O.wins (w := W) a b; rw [decide_eq_true h1] at h; exact h)
      have WBA : Hid (∀ W, Calls Try.prog 25 #[.agg (upV b).toArray, .agg (upV a).toArray] W fun e w' => e = .returned (.bool false) ∧ Below W.heap.size W w') := Lib.hid (fun W => by have h := O.wins (w := W) b a; rw [decide_eq_false h2] at h; exact h)
      have WBC : Hid (∀ W, Calls Try.prog 25 #[.agg (upV b).toArray, .agg (upV c).toArray] W fun e w' => e = .returned (.bool false) ∧ Below W.heap.size W w') := Lib.hid (fun W => by have h := O.wins (w := W) b c; rw [decide_eq_false h4] at h; exact h)
      have OLD : Hid (∀ W, Calls Try.prog 26 #[.agg (stpV b.stamp).toArray, .agg (stpV a.stamp).toArray] W fun e w' => e = .returned (.bool true) ∧ Below W.heap.size W w') := Lib.hid (fun W => (ref_older W b.stamp a.stamp).mono (fun _ _ h => ⟨h.1.trans (by rw [show decide (Ver.Older b.stamp a.stamp) = true from decide_eq_true h1]), h.2.below⟩))
      have EQ : Hid (∀ W, (binOp .eql 25 (.agg (stpV a.stamp).toArray) (.agg (stpV b.stamp).toArray)).run Try.prog W = .ok (.bool false) W) := Lib.hid (fun W => by have h := stp_eql W a.stamp b.stamp; rw [decide_eq_false h3] at h; exact h)
      generalize stpV a.stamp = sa at *
      generalize stpV b.stamp = sb at *
      clear LGa
      generalize hca : upV a = ca at *
      generalize hcb : upV b = cb at *
      generalize hcc : upV c = cc at *
      clear ha hb hc hca hcb hcc
      clear h1 h2 h3 h4
      go_enter Try.func6, Try.ntmps6
      go_wp2_with fail
      first | rw [← hW0] | skip
      clear hW0 r0 r1 r2 hb0
      have LA := Lib.hid (LAA.out W0 B0.out)
      have LB := Lib.hid (LBB.out W0 B0.out)
      have LC := Lib.hid (LCC.out W0 B0.out)
      go_wp2_with (first | refine wpList_mload (by rfl) _ (by rfl) (by rfl) LA.out ?_ | refine wpList_mload (by rfl) _ (by rfl) (by rfl) LB.out ?_ | refine wpList_mload (by rfl) _ (by rfl) (by rfl) LC.out ?_)
      clear LA LB LC
      refine (LG0.out _).mono ?_
      rintro e w1 ⟨rfl, b1⟩
      have B1 := Lib.hid (B0.out.trans (b1.mono B0.out.size))
      have LA := Lib.hid (LAA.out w1 B1.out)
      have LB := Lib.hid (LBB.out w1 B1.out)
      have LC := Lib.hid (LCC.out w1 B1.out)
      clear b1
      go_wp2_with (first | refine wpList_mload (by rfl) _ (by rfl) (by rfl) LA.out ?_ | refine wpList_mload (by rfl) _ (by rfl) (by rfl) LB.out ?_ | refine wpList_mload (by rfl) _ (by rfl) (by rfl) LC.out ?_)
      clear LA LB LC
      refine (LGb.out _).mono ?_
      rintro e w2 ⟨rfl, b2⟩
      have B2 := Lib.hid (B1.out.trans (b2.mono B1.out.size))
      have LA := Lib.hid (LAA.out w2 B2.out)
      have LB := Lib.hid (LBB.out w2 B2.out)
      have LC := Lib.hid (LCC.out w2 B2.out)
      clear b2
      go_wp2_with (first | refine wpList_mload (by rfl) _ (by rfl) (by rfl) LA.out ?_ | refine wpList_mload (by rfl) _ (by rfl) (by rfl) LB.out ?_ | refine wpList_mload (by rfl) _ (by rfl) (by rfl) LC.out ?_)
      clear LA LB LC
      refine (LGc.out _).mono ?_
      rintro e w3 ⟨rfl, b3⟩
      have B3 := Lib.hid (B2.out.trans (b3.mono B2.out.size))
      have LA := Lib.hid (LAA.out w3 B3.out)
      have LB := Lib.hid (LBB.out w3 B3.out)
      have LC := Lib.hid (LCC.out w3 B3.out)
      clear b3
      clear LA LB LC
      go_wp2_with fail
      refine wp_region_below mixed (by kernel_rfl) ?_
      refine wq_mload (by rfl) (.tmp 3) (by rfl) (by rfl) (fun w hSw => LAA.out w (B3.out.trans (hSw.below.mono B3.out.size))) ?_
      simp only [Act.put, z1, z2, z3, z4, z5, z6]
      refine wq_mload (by rfl) (.tmp 4) (by rfl) (by rfl) (fun w hSw => LBB.out w (B3.out.trans (hSw.below.mono B3.out.size))) ?_
      simp only [Act.put, z1, z2, z3, z4, z5, z6]
      refine wq_call (by kernel_rfl) ?hent (fun w hSw => inB_calls hSw (WAB.out w)) ?_; (case hent => (intro w hSw; go_simp; first | done | exact ⟨rfl, rfl⟩ | rfl))
      simp only [Act.put, z1, z2, z3, z4, z5, z6]
      refine wq_mload (by rfl) (.tmp 4) (by rfl) (by rfl) (fun w hSw => LBB.out w (B3.out.trans (hSw.below.mono B3.out.size))) ?_
      simp only [Act.put, z1, z2, z3, z4, z5, z6]
      refine wq_mload (by rfl) (.tmp 3) (by rfl) (by rfl) (fun w hSw => LAA.out w (B3.out.trans (hSw.below.mono B3.out.size))) ?_
      simp only [Act.put, z1, z2, z3, z4, z5, z6]
      refine wq_call (by kernel_rfl) ?hent (fun w hSw => inB_calls hSw (WBA.out w)) ?_; (case hent => (intro w hSw; go_simp; first | done | exact ⟨rfl, rfl⟩ | rfl))
      simp only [Act.put, z1, z2, z3, z4, z5, z6]
      refine wq_td ?_
      simp only [Act.put, z1, z2, z3, z4, z5, z6]
      refine wq_td ?_
      simp only [Act.put, z1, z2, z3, z4, z5, z6]
      refine wq_nil ?_
      intro wq hq
      have B4 := Lib.hid (B3.out.trans (hq.below.mono B3.out.size))
      clear hq
      have LA := Lib.hid (LAA.out wq B4.out)
      have LB := Lib.hid (LBB.out wq B4.out)
      have LC := Lib.hid (LCC.out wq B4.out)
      have LSA := Lib.hid (LSAA.out wq B4.out)
      have LSB := Lib.hid (LSBB.out wq B4.out)
      go_wp2_with (first | refine wpList_mload (by rfl) _ (by rfl) (by rfl) LA.out ?_ | refine wpList_mload (by rfl) _ (by rfl) (by rfl) LB.out ?_ | refine wpList_mload (by rfl) _ (by rfl) (by rfl) LC.out ?_ | refine wpList_mload (by rfl) _ (by rfl) (by rfl) LSA.out ?_ | refine wpList_mload (by rfl) _ (by rfl) (by rfl) LSB.out ?_ | refine wpList_bin (by rfl) .eql _ _ _ _ (by rfl) (by rfl) (by rfl) stpGuard (EQ.out _) ?_)
      clear LA LB LC LSA LSB
      refine (OLD.out _).mono ?_
      rintro e w5 ⟨rfl, b5⟩
      have B5 := Lib.hid (B4.out.trans (b5.mono B4.out.size))
      have LA := Lib.hid (LAA.out w5 B5.out)
      have LB := Lib.hid (LBB.out w5 B5.out)
      have LC := Lib.hid (LCC.out w5 B5.out)
      have LSA := Lib.hid (LSAA.out w5 B5.out)
      have LSB := Lib.hid (LSBB.out w5 B5.out)
      clear b5
      go_wp2_with (first | refine wpList_mload (by rfl) _ (by rfl) (by rfl) LA.out ?_ | refine wpList_mload (by rfl) _ (by rfl) (by rfl) LB.out ?_ | refine wpList_mload (by rfl) _ (by rfl) (by rfl) LC.out ?_ | refine wpList_mload (by rfl) _ (by rfl) (by rfl) LSA.out ?_ | refine wpList_mload (by rfl) _ (by rfl) (by rfl) LSB.out ?_ | refine wpList_bin (by rfl) .eql _ _ _ _ (by rfl) (by rfl) (by rfl) stpGuard (EQ.out _) ?_)
      clear LA LB LC LSA LSB
      refine (AW.out _).mono ?_
      rintro e w6 ⟨rfl, b6⟩
      have B6 := Lib.hid (B5.out.trans (b6.mono B5.out.size))
      have LA := Lib.hid (LAA.out w6 B6.out)
      have LB := Lib.hid (LBB.out w6 B6.out)
      have LC := Lib.hid (LCC.out w6 B6.out)
      have LSA := Lib.hid (LSAA.out w6 B6.out)
      have LSB := Lib.hid (LSBB.out w6 B6.out)
      clear b6
      go_wp2_with (first | refine wpList_mload (by rfl) _ (by rfl) (by rfl) LA.out ?_ | refine wpList_mload (by rfl) _ (by rfl) (by rfl) LB.out ?_ | refine wpList_mload (by rfl) _ (by rfl) (by rfl) LC.out ?_ | refine wpList_mload (by rfl) _ (by rfl) (by rfl) LSA.out ?_ | refine wpList_mload (by rfl) _ (by rfl) (by rfl) LSB.out ?_ | refine wpList_bin (by rfl) .eql _ _ _ _ (by rfl) (by rfl) (by rfl) stpGuard (EQ.out _) ?_)
      clear LA LB LC LSA LSB
      refine (WBC.out _).mono ?_
      rintro e w7 ⟨rfl, b7⟩
      have B7 := Lib.hid (B6.out.trans (b7.mono B6.out.size))
      have LA := Lib.hid (LAA.out w7 B7.out)
      have LB := Lib.hid (LBB.out w7 B7.out)
      have LC := Lib.hid (LCC.out w7 B7.out)
      have LSA := Lib.hid (LSAA.out w7 B7.out)
      have LSB := Lib.hid (LSBB.out w7 B7.out)
      clear b7
      go_wp2_with fail
      go_ret
      exact ⟨rfl, HB0.out.trans (B7.out.mono HB0.out.size)⟩
    ·by_cases h2 : Upd.Wins b a
     ·have h3 : ¬ a.stamp = b.stamp := (Upd.wins_or a b).1 (Or.inr h2)
      have WAB : Hid (∀ W, Calls Try.prog 25 #[.agg (upV a).toArray, .agg (upV b).toArray] W fun e w' => e = .returned (.bool false) ∧ Below W.heap.size W w') := Lib.hid (fun W => by have h := O.wins (w := W) a b; rw [decide_eq_false h1] at h; exact h)
      have WBA : Hid (∀ W, Calls Try.prog 25 #[.agg (upV b).toArray, .agg (upV a).toArray] W fun e w' => e = .returned (.bool true) ∧ Below W.heap.size W w') := Lib.hid (fun W => by have h := O.wins (w := W) b a; rw [decide_eq_true h2] at h; exact h)
      have OLD : Hid (∀ W, Calls Try.prog 26 #[.agg (stpV b.stamp).toArray, .agg (stpV a.stamp).toArray] W fun e w' => e = .returned (.bool false) ∧ Below W.heap.size W w') := Lib.hid (fun W => (ref_older W b.stamp a.stamp).mono (fun _ _ h => ⟨h.1.trans (by rw [show decide (Ver.Older b.stamp a.stamp) = false from decide_eq_false h1]), h.2.below⟩))
      have EQ : Hid (∀ W, (binOp .eql 25 (.agg (stpV a.stamp).toArray) (.agg (stpV b.stamp).toArray)).run Try.prog W = .ok (.bool false) W) := Lib.hid (fun W => by have h := stp_eql W a.stamp b.stamp; rw [decide_eq_false h3] at h; exact h)
      generalize stpV a.stamp = sa at *
      generalize stpV b.stamp = sb at *
      clear LGa
      generalize hca : upV a = ca at *
      generalize hcb : upV b = cb at *
      generalize hcc : upV c = cc at *
      clear ha hb hc hca hcb hcc
      clear h1 h2 h3
      go_enter Try.func6, Try.ntmps6
      go_wp2_with fail
      first | rw [← hW0] | skip
      clear hW0 r0 r1 r2 hb0
      have LA := Lib.hid (LAA.out W0 B0.out)
      have LB := Lib.hid (LBB.out W0 B0.out)
      have LC := Lib.hid (LCC.out W0 B0.out)
      go_wp2_with (first | refine wpList_mload (by rfl) _ (by rfl) (by rfl) LA.out ?_ | refine wpList_mload (by rfl) _ (by rfl) (by rfl) LB.out ?_ | refine wpList_mload (by rfl) _ (by rfl) (by rfl) LC.out ?_)
      clear LA LB LC
      refine (LG0.out _).mono ?_
      rintro e w1 ⟨rfl, b1⟩
      have B1 := Lib.hid (B0.out.trans (b1.mono B0.out.size))
      have LA := Lib.hid (LAA.out w1 B1.out)
      have LB := Lib.hid (LBB.out w1 B1.out)
      have LC := Lib.hid (LCC.out w1 B1.out)
      clear b1
      go_wp2_with (first | refine wpList_mload (by rfl) _ (by rfl) (by rfl) LA.out ?_ | refine wpList_mload (by rfl) _ (by rfl) (by rfl) LB.out ?_ | refine wpList_mload (by rfl) _ (by rfl) (by rfl) LC.out ?_)
      clear LA LB LC
      refine (LGb.out _).mono ?_
      rintro e w2 ⟨rfl, b2⟩
      have B2 := Lib.hid (B1.out.trans (b2.mono B1.out.size))
      have LA := Lib.hid (LAA.out w2 B2.out)
      have LB := Lib.hid (LBB.out w2 B2.out)
      have LC := Lib.hid (LCC.out w2 B2.out)
      clear b2
      go_wp2_with (first | refine wpList_mload (by rfl) _ (by rfl) (by rfl) LA.out ?_ | refine wpList_mload (by rfl) _ (by rfl) (by rfl) LB.out ?_ | refine wpList_mload (by rfl) _ (by rfl) (by rfl) LC.out ?_)
      clear LA LB LC
      refine (LGc.out _).mono ?_
      rintro e w3 ⟨rfl, b3⟩
      have B3 := Lib.hid (B2.out.trans (b3.mono B2.out.size))
      have LA := Lib.hid (LAA.out w3 B3.out)
      have LB := Lib.hid (LBB.out w3 B3.out)
      have LC := Lib.hid (LCC.out w3 B3.out)
      clear b3
      clear LA LB LC
      go_wp2_with fail
      refine wp_region_below mixed (by kernel_rfl) ?_
      refine wq_mload (by rfl) (.tmp 3) (by rfl) (by rfl) (fun w hSw => LAA.out w (B3.out.trans (hSw.below.mono B3.out.size))) ?_
      simp only [Act.put, z1, z2, z3, z4, z5, z6]
      refine wq_mload (by rfl) (.tmp 4) (by rfl) (by rfl) (fun w hSw => LBB.out w (B3.out.trans (hSw.below.mono B3.out.size))) ?_
      simp only [Act.put, z1, z2, z3, z4, z5, z6]
      refine wq_call (by kernel_rfl) ?hent (fun w hSw => inB_calls hSw (WAB.out w)) ?_; (case hent => (intro w hSw; go_simp; first | done | exact ⟨rfl, rfl⟩ | rfl))
      simp only [Act.put, z1, z2, z3, z4, z5, z6]
      refine wq_mload (by rfl) (.tmp 4) (by rfl) (by rfl) (fun w hSw => LBB.out w (B3.out.trans (hSw.below.mono B3.out.size))) ?_
      simp only [Act.put, z1, z2, z3, z4, z5, z6]
      refine wq_mload (by rfl) (.tmp 3) (by rfl) (by rfl) (fun w hSw => LAA.out w (B3.out.trans (hSw.below.mono B3.out.size))) ?_
      simp only [Act.put, z1, z2, z3, z4, z5, z6]
      refine wq_call (by kernel_rfl) ?hent (fun w hSw => inB_calls hSw (WBA.out w)) ?_; (case hent => (intro w hSw; go_simp; first | done | exact ⟨rfl, rfl⟩ | rfl))
      simp only [Act.put, z1, z2, z3, z4, z5, z6]
      refine wq_td ?_
      simp only [Act.put, z1, z2, z3, z4, z5, z6]
      refine wq_td ?_
      simp only [Act.put, z1, z2, z3, z4, z5, z6]
      refine wq_nil ?_
      intro wq hq
      have B4 := Lib.hid (B3.out.trans (hq.below.mono B3.out.size))
      clear hq
      have LA := Lib.hid (LAA.out wq B4.out)
      have LB := Lib.hid (LBB.out wq B4.out)
      have LC := Lib.hid (LCC.out wq B4.out)
      have LSA := Lib.hid (LSAA.out wq B4.out)
      have LSB := Lib.hid (LSBB.out wq B4.out)
      go_wp2_with (first | refine wpList_mload (by rfl) _ (by rfl) (by rfl) LA.out ?_ | refine wpList_mload (by rfl) _ (by rfl) (by rfl) LB.out ?_ | refine wpList_mload (by rfl) _ (by rfl) (by rfl) LC.out ?_ | refine wpList_mload (by rfl) _ (by rfl) (by rfl) LSA.out ?_ | refine wpList_mload (by rfl) _ (by rfl) (by rfl) LSB.out ?_ | refine wpList_bin (by rfl) .eql _ _ _ _ (by rfl) (by rfl) (by rfl) stpGuard (EQ.out _) ?_)
      clear LA LB LC LSA LSB
      refine (OLD.out _).mono ?_
      rintro e w5 ⟨rfl, b5⟩
      have B5 := Lib.hid (B4.out.trans (b5.mono B4.out.size))
      have LA := Lib.hid (LAA.out w5 B5.out)
      have LB := Lib.hid (LBB.out w5 B5.out)
      have LC := Lib.hid (LCC.out w5 B5.out)
      have LSA := Lib.hid (LSAA.out w5 B5.out)
      have LSB := Lib.hid (LSBB.out w5 B5.out)
      clear b5
      go_wp2_with (first | refine wpList_mload (by rfl) _ (by rfl) (by rfl) LA.out ?_ | refine wpList_mload (by rfl) _ (by rfl) (by rfl) LB.out ?_ | refine wpList_mload (by rfl) _ (by rfl) (by rfl) LC.out ?_ | refine wpList_mload (by rfl) _ (by rfl) (by rfl) LSA.out ?_ | refine wpList_mload (by rfl) _ (by rfl) (by rfl) LSB.out ?_ | refine wpList_bin (by rfl) .eql _ _ _ _ (by rfl) (by rfl) (by rfl) stpGuard (EQ.out _) ?_)
      clear LA LB LC LSA LSB
      refine (AW.out _).mono ?_
      rintro e w6 ⟨rfl, b6⟩
      have B6 := Lib.hid (B5.out.trans (b6.mono B5.out.size))
      have LA := Lib.hid (LAA.out w6 B6.out)
      have LB := Lib.hid (LBB.out w6 B6.out)
      have LC := Lib.hid (LCC.out w6 B6.out)
      have LSA := Lib.hid (LSAA.out w6 B6.out)
      have LSB := Lib.hid (LSBB.out w6 B6.out)
      clear b6
      go_wp2_with fail
      go_ret
      exact ⟨rfl, HB0.out.trans (B6.out.mono HB0.out.size)⟩
     ·have h3 : a.stamp = b.stamp := Classical.byContradiction (fun h => ((Upd.wins_or a b).2 h).elim h1 h2)
      have WAB : Hid (∀ W, Calls Try.prog 25 #[.agg (upV a).toArray, .agg (upV b).toArray] W fun e w' => e = .returned (.bool false) ∧ Below W.heap.size W w') := Lib.hid (fun W => by have h := O.wins (w := W) a b; rw [decide_eq_false h1] at h; exact h)
      have WBA : Hid (∀ W, Calls Try.prog 25 #[.agg (upV b).toArray, .agg (upV a).toArray] W fun e w' => e = .returned (.bool false) ∧ Below W.heap.size W w') := Lib.hid (fun W => by have h := O.wins (w := W) b a; rw [decide_eq_false h2] at h; exact h)
      have OLD : Hid (∀ W, Calls Try.prog 26 #[.agg (stpV b.stamp).toArray, .agg (stpV a.stamp).toArray] W fun e w' => e = .returned (.bool false) ∧ Below W.heap.size W w') := Lib.hid (fun W => (ref_older W b.stamp a.stamp).mono (fun _ _ h => ⟨h.1.trans (by rw [show decide (Ver.Older b.stamp a.stamp) = false from decide_eq_false h1]), h.2.below⟩))
      have EQ : Hid (∀ W, (binOp .eql 25 (.agg (stpV a.stamp).toArray) (.agg (stpV b.stamp).toArray)).run Try.prog W = .ok (.bool true) W) := Lib.hid (fun W => by have h := stp_eql W a.stamp b.stamp; rw [decide_eq_true h3] at h; exact h)
      generalize stpV a.stamp = sa at *
      generalize stpV b.stamp = sb at *
      clear LGa
      generalize hca : upV a = ca at *
      generalize hcb : upV b = cb at *
      generalize hcc : upV c = cc at *
      clear ha hb hc hca hcb hcc
      clear h1 h2 h3
      go_enter Try.func6, Try.ntmps6
      go_wp2_with fail
      first | rw [← hW0] | skip
      clear hW0 r0 r1 r2 hb0
      have LA := Lib.hid (LAA.out W0 B0.out)
      have LB := Lib.hid (LBB.out W0 B0.out)
      have LC := Lib.hid (LCC.out W0 B0.out)
      go_wp2_with (first | refine wpList_mload (by rfl) _ (by rfl) (by rfl) LA.out ?_ | refine wpList_mload (by rfl) _ (by rfl) (by rfl) LB.out ?_ | refine wpList_mload (by rfl) _ (by rfl) (by rfl) LC.out ?_)
      clear LA LB LC
      refine (LG0.out _).mono ?_
      rintro e w1 ⟨rfl, b1⟩
      have B1 := Lib.hid (B0.out.trans (b1.mono B0.out.size))
      have LA := Lib.hid (LAA.out w1 B1.out)
      have LB := Lib.hid (LBB.out w1 B1.out)
      have LC := Lib.hid (LCC.out w1 B1.out)
      clear b1
      go_wp2_with (first | refine wpList_mload (by rfl) _ (by rfl) (by rfl) LA.out ?_ | refine wpList_mload (by rfl) _ (by rfl) (by rfl) LB.out ?_ | refine wpList_mload (by rfl) _ (by rfl) (by rfl) LC.out ?_)
      clear LA LB LC
      refine (LGb.out _).mono ?_
      rintro e w2 ⟨rfl, b2⟩
      have B2 := Lib.hid (B1.out.trans (b2.mono B1.out.size))
      have LA := Lib.hid (LAA.out w2 B2.out)
      have LB := Lib.hid (LBB.out w2 B2.out)
      have LC := Lib.hid (LCC.out w2 B2.out)
      clear b2
      go_wp2_with (first | refine wpList_mload (by rfl) _ (by rfl) (by rfl) LA.out ?_ | refine wpList_mload (by rfl) _ (by rfl) (by rfl) LB.out ?_ | refine wpList_mload (by rfl) _ (by rfl) (by rfl) LC.out ?_)
      clear LA LB LC
      refine (LGc.out _).mono ?_
      rintro e w3 ⟨rfl, b3⟩
      have B3 := Lib.hid (B2.out.trans (b3.mono B2.out.size))
      have LA := Lib.hid (LAA.out w3 B3.out)
      have LB := Lib.hid (LBB.out w3 B3.out)
      have LC := Lib.hid (LCC.out w3 B3.out)
      clear b3
      clear LA LB LC
      go_wp2_with fail
      refine wp_region_below mixed (by kernel_rfl) ?_
      refine wq_mload (by rfl) (.tmp 3) (by rfl) (by rfl) (fun w hSw => LAA.out w (B3.out.trans (hSw.below.mono B3.out.size))) ?_
      simp only [Act.put, z1, z2, z3, z4, z5, z6]
      refine wq_mload (by rfl) (.tmp 4) (by rfl) (by rfl) (fun w hSw => LBB.out w (B3.out.trans (hSw.below.mono B3.out.size))) ?_
      simp only [Act.put, z1, z2, z3, z4, z5, z6]
      refine wq_call (by kernel_rfl) ?hent (fun w hSw => inB_calls hSw (WAB.out w)) ?_; (case hent => (intro w hSw; go_simp; first | done | exact ⟨rfl, rfl⟩ | rfl))
      simp only [Act.put, z1, z2, z3, z4, z5, z6]
      refine wq_mload (by rfl) (.tmp 4) (by rfl) (by rfl) (fun w hSw => LBB.out w (B3.out.trans (hSw.below.mono B3.out.size))) ?_
      simp only [Act.put, z1, z2, z3, z4, z5, z6]
      refine wq_mload (by rfl) (.tmp 3) (by rfl) (by rfl) (fun w hSw => LAA.out w (B3.out.trans (hSw.below.mono B3.out.size))) ?_
      simp only [Act.put, z1, z2, z3, z4, z5, z6]
      refine wq_call (by kernel_rfl) ?hent (fun w hSw => inB_calls hSw (WBA.out w)) ?_; (case hent => (intro w hSw; go_simp; first | done | exact ⟨rfl, rfl⟩ | rfl))
      simp only [Act.put, z1, z2, z3, z4, z5, z6]
      refine wq_td ?_
      simp only [Act.put, z1, z2, z3, z4, z5, z6]
      refine wq_td ?_
      simp only [Act.put, z1, z2, z3, z4, z5, z6]
      refine wq_nil ?_
      intro wq hq
      have B4 := Lib.hid (B3.out.trans (hq.below.mono B3.out.size))
      clear hq
      have LA := Lib.hid (LAA.out wq B4.out)
      have LB := Lib.hid (LBB.out wq B4.out)
      have LC := Lib.hid (LCC.out wq B4.out)
      have LSA := Lib.hid (LSAA.out wq B4.out)
      have LSB := Lib.hid (LSBB.out wq B4.out)
      go_wp2_with (first | refine wpList_mload (by rfl) _ (by rfl) (by rfl) LA.out ?_ | refine wpList_mload (by rfl) _ (by rfl) (by rfl) LB.out ?_ | refine wpList_mload (by rfl) _ (by rfl) (by rfl) LC.out ?_ | refine wpList_mload (by rfl) _ (by rfl) (by rfl) LSA.out ?_ | refine wpList_mload (by rfl) _ (by rfl) (by rfl) LSB.out ?_ | refine wpList_bin (by rfl) .eql _ _ _ _ (by rfl) (by rfl) (by rfl) stpGuard (EQ.out _) ?_)
      clear LA LB LC LSA LSB
      refine (OLD.out _).mono ?_
      rintro e w5 ⟨rfl, b5⟩
      have B5 := Lib.hid (B4.out.trans (b5.mono B4.out.size))
      have LA := Lib.hid (LAA.out w5 B5.out)
      have LB := Lib.hid (LBB.out w5 B5.out)
      have LC := Lib.hid (LCC.out w5 B5.out)
      have LSA := Lib.hid (LSAA.out w5 B5.out)
      have LSB := Lib.hid (LSBB.out w5 B5.out)
      clear b5
      go_wp2_with (first | refine wpList_mload (by rfl) _ (by rfl) (by rfl) LA.out ?_ | refine wpList_mload (by rfl) _ (by rfl) (by rfl) LB.out ?_ | refine wpList_mload (by rfl) _ (by rfl) (by rfl) LC.out ?_ | refine wpList_mload (by rfl) _ (by rfl) (by rfl) LSA.out ?_ | refine wpList_mload (by rfl) _ (by rfl) (by rfl) LSB.out ?_ | refine wpList_bin (by rfl) .eql _ _ _ _ (by rfl) (by rfl) (by rfl) stpGuard (EQ.out _) ?_)
      clear LA LB LC LSA LSB
      refine (AW.out _).mono ?_
      rintro e w6 ⟨rfl, b6⟩
      have B6 := Lib.hid (B5.out.trans (b6.mono B5.out.size))
      have LA := Lib.hid (LAA.out w6 B6.out)
      have LB := Lib.hid (LBB.out w6 B6.out)
      have LC := Lib.hid (LCC.out w6 B6.out)
      have LSA := Lib.hid (LSAA.out w6 B6.out)
      have LSB := Lib.hid (LSBB.out w6 B6.out)
      clear b6
      go_wp2_with fail
      go_ret
      exact ⟨rfl, HB0.out.trans (B6.out.mono HB0.out.size)⟩
   ·have LGc : Hid (∀ W, Calls Try.prog 7 #[.agg (upV c).toArray] W fun e w' => e = .returned (.bool false) ∧ Below W.heap.size W w') := Lib.hid (fun W => by have := ulight_any c W; rwa [decide_eq_false lc] at this)
    clear LGa
    generalize hca : upV a = ca at *
    generalize hcb : upV b = cb at *
    generalize hcc : upV c = cc at *
    clear ha hb hc hca hcb hcc
    go_enter Try.func6, Try.ntmps6
    go_wp2_with fail
    first | rw [← hW0] | skip
    clear hW0 r0 r1 r2 hb0
    have LA := Lib.hid (LAA.out W0 B0.out)
    have LB := Lib.hid (LBB.out W0 B0.out)
    have LC := Lib.hid (LCC.out W0 B0.out)
    go_wp2_with (first | refine wpList_mload (by rfl) _ (by rfl) (by rfl) LA.out ?_ | refine wpList_mload (by rfl) _ (by rfl) (by rfl) LB.out ?_ | refine wpList_mload (by rfl) _ (by rfl) (by rfl) LC.out ?_)
    clear LA LB LC
    refine (LG0.out _).mono ?_
    rintro e w1 ⟨rfl, b1⟩
    have B1 := Lib.hid (B0.out.trans (b1.mono B0.out.size))
    have LA := Lib.hid (LAA.out w1 B1.out)
    have LB := Lib.hid (LBB.out w1 B1.out)
    have LC := Lib.hid (LCC.out w1 B1.out)
    clear b1
    go_wp2_with (first | refine wpList_mload (by rfl) _ (by rfl) (by rfl) LA.out ?_ | refine wpList_mload (by rfl) _ (by rfl) (by rfl) LB.out ?_ | refine wpList_mload (by rfl) _ (by rfl) (by rfl) LC.out ?_)
    clear LA LB LC
    refine (LGb.out _).mono ?_
    rintro e w2 ⟨rfl, b2⟩
    have B2 := Lib.hid (B1.out.trans (b2.mono B1.out.size))
    have LA := Lib.hid (LAA.out w2 B2.out)
    have LB := Lib.hid (LBB.out w2 B2.out)
    have LC := Lib.hid (LCC.out w2 B2.out)
    clear b2
    go_wp2_with (first | refine wpList_mload (by rfl) _ (by rfl) (by rfl) LA.out ?_ | refine wpList_mload (by rfl) _ (by rfl) (by rfl) LB.out ?_ | refine wpList_mload (by rfl) _ (by rfl) (by rfl) LC.out ?_)
    clear LA LB LC
    refine (LGc.out _).mono ?_
    rintro e w3 ⟨rfl, b3⟩
    have B3 := Lib.hid (B2.out.trans (b3.mono B2.out.size))
    have LA := Lib.hid (LAA.out w3 B3.out)
    have LB := Lib.hid (LBB.out w3 B3.out)
    have LC := Lib.hid (LCC.out w3 B3.out)
    clear b3
    go_wp2_with (first | refine wpList_mload (by rfl) _ (by rfl) (by rfl) LA.out ?_ | refine wpList_mload (by rfl) _ (by rfl) (by rfl) LB.out ?_ | refine wpList_mload (by rfl) _ (by rfl) (by rfl) LC.out ?_)
    clear LA LB LC
    refine (AW.out _).mono ?_
    rintro e w4 ⟨rfl, b4⟩
    have B4 := Lib.hid (B3.out.trans (b4.mono B3.out.size))
    have LA := Lib.hid (LAA.out w4 B4.out)
    have LB := Lib.hid (LBB.out w4 B4.out)
    have LC := Lib.hid (LCC.out w4 B4.out)
    clear b4
    go_wp2_with fail
    go_ret
    exact ⟨rfl, HB0.out.trans (B4.out.mono HB0.out.size)⟩
  ·have LGb : Hid (∀ W, Calls Try.prog 7 #[.agg (upV b).toArray] W fun e w' => e = .returned (.bool false) ∧ Below W.heap.size W w') := Lib.hid (fun W => by have := ulight_any b W; rwa [decide_eq_false lb] at this)
   clear LGa
   generalize hca : upV a = ca at *
   generalize hcb : upV b = cb at *
   generalize hcc : upV c = cc at *
   clear ha hb hc hca hcb hcc
   go_enter Try.func6, Try.ntmps6
   go_wp2_with fail
   first | rw [← hW0] | skip
   clear hW0 r0 r1 r2 hb0
   have LA := Lib.hid (LAA.out W0 B0.out)
   have LB := Lib.hid (LBB.out W0 B0.out)
   have LC := Lib.hid (LCC.out W0 B0.out)
   go_wp2_with (first | refine wpList_mload (by rfl) _ (by rfl) (by rfl) LA.out ?_ | refine wpList_mload (by rfl) _ (by rfl) (by rfl) LB.out ?_ | refine wpList_mload (by rfl) _ (by rfl) (by rfl) LC.out ?_)
   clear LA LB LC
   refine (LG0.out _).mono ?_
   rintro e w1 ⟨rfl, b1⟩
   have B1 := Lib.hid (B0.out.trans (b1.mono B0.out.size))
   have LA := Lib.hid (LAA.out w1 B1.out)
   have LB := Lib.hid (LBB.out w1 B1.out)
   have LC := Lib.hid (LCC.out w1 B1.out)
   clear b1
   go_wp2_with (first | refine wpList_mload (by rfl) _ (by rfl) (by rfl) LA.out ?_ | refine wpList_mload (by rfl) _ (by rfl) (by rfl) LB.out ?_ | refine wpList_mload (by rfl) _ (by rfl) (by rfl) LC.out ?_)
   clear LA LB LC
   refine (LGb.out _).mono ?_
   rintro e w2 ⟨rfl, b2⟩
   have B2 := Lib.hid (B1.out.trans (b2.mono B1.out.size))
   have LA := Lib.hid (LAA.out w2 B2.out)
   have LB := Lib.hid (LBB.out w2 B2.out)
   have LC := Lib.hid (LCC.out w2 B2.out)
   clear b2
   go_wp2_with (first | refine wpList_mload (by rfl) _ (by rfl) (by rfl) LA.out ?_ | refine wpList_mload (by rfl) _ (by rfl) (by rfl) LB.out ?_ | refine wpList_mload (by rfl) _ (by rfl) (by rfl) LC.out ?_)
   clear LA LB LC
   refine (AW.out _).mono ?_
   rintro e w3 ⟨rfl, b3⟩
   have B3 := Lib.hid (B2.out.trans (b3.mono B2.out.size))
   have LA := Lib.hid (LAA.out w3 B3.out)
   have LB := Lib.hid (LBB.out w3 B3.out)
   have LC := Lib.hid (LCC.out w3 B3.out)
   clear b3
   go_wp2_with fail
   go_ret
   exact ⟨rfl, HB0.out.trans (B3.out.mono HB0.out.size)⟩
 ·have LGa : Hid (∀ W, Calls Try.prog 7 #[.agg (upV a).toArray] W fun e w' => e = .returned (.bool false) ∧ Below W.heap.size W w') := Lib.hid (fun W => by have := ulight_any a W; rwa [decide_eq_false la] at this)
  have LG0 : Hid (∀ W, Calls Try.prog 7 #[upA a] W fun e w' => e = .returned (.bool false) ∧ Below W.heap.size W w') := Lib.hid (fun W => LGa.out W)
  clear LGa
  generalize hca : upV a = ca at *
  generalize hcb : upV b = cb at *
  generalize hcc : upV c = cc at *
  clear ha hb hc hca hcb hcc
  go_enter Try.func6, Try.ntmps6
  go_wp2_with fail
  first | rw [← hW0] | skip
  clear hW0 r0 r1 r2 hb0
  have LA := Lib.hid (LAA.out W0 B0.out)
  have LB := Lib.hid (LBB.out W0 B0.out)
  have LC := Lib.hid (LCC.out W0 B0.out)
  go_wp2_with (first | refine wpList_mload (by rfl) _ (by rfl) (by rfl) LA.out ?_ | refine wpList_mload (by rfl) _ (by rfl) (by rfl) LB.out ?_ | refine wpList_mload (by rfl) _ (by rfl) (by rfl) LC.out ?_)
  clear LA LB LC
  refine (LG0.out _).mono ?_
  rintro e w1 ⟨rfl, b1⟩
  have B1 := Lib.hid (B0.out.trans (b1.mono B0.out.size))
  have LA := Lib.hid (LAA.out w1 B1.out)
  have LB := Lib.hid (LBB.out w1 B1.out)
  have LC := Lib.hid (LCC.out w1 B1.out)
  clear b1
  go_wp2_with (first | refine wpList_mload (by rfl) _ (by rfl) (by rfl) LA.out ?_ | refine wpList_mload (by rfl) _ (by rfl) (by rfl) LB.out ?_ | refine wpList_mload (by rfl) _ (by rfl) (by rfl) LC.out ?_)
  clear LA LB LC
  refine (AW.out _).mono ?_
  rintro e w2 ⟨rfl, b2⟩
  have B2 := Lib.hid (B1.out.trans (b2.mono B1.out.size))
  have LA := Lib.hid (LAA.out w2 B2.out)
  have LB := Lib.hid (LBB.out w2 B2.out)
  have LC := Lib.hid (LCC.out w2 B2.out)
  clear b2
  go_wp2_with fail
  go_ret
  exact ⟨rfl, HB0.out.trans (B2.out.mono HB0.out.size)⟩
end Go.Proofs.Ytgpeobmaneponaa
namespace Go.Proofs.Ytgpeobmaneponaa
open Go.RowKit
open Go.ChangeShapes Go.WideShapes Go.ChangeAt
open Go.ChangeMaps (open_string shut_string)
theorem updateWins_lifted (os : Os) (started : os.Started) (H : Type) (enc : TypeId × Value → H) :
  ReturnsInHanded {} Try.checked os 6 .any (Rows.updateWinsSpec.pre6 enc Try.prog Try.f6 Rows.updateWinsRow.domain false) (Rows.updateWinsSpec.post enc Try.prog Try.f6 false true false false) := by
 refine returnsInHanded_of_change_sized (C := Try.checked) own started (by kernel_rfl) Try.func6
  (ChangeSpec.witness6 (enc := enc) (C := Try.checked) false ⟨#[], #[.agg #[.int .i64 0, .int .i64 0, .int .i64 0, .int .i64 0, .int .i64 0, .string ⟨#[]⟩, .string ⟨#[]⟩, .bool false], .agg #[.int .i64 0, .int .i64 0, .int .i64 0, .int .i64 0, .int .i64 0, .string ⟨#[]⟩, .string ⟨#[]⟩, .bool false], .agg #[.int .i64 0, .int .i64 0, .int .i64 0, .int .i64 0, .int .i64 0, .string ⟨#[]⟩, .string ⟨#[]⟩, .bool false]], []⟩ 8 (by kernel_rfl) (by kernel_rfl) (by kernel_rfl) (by kernel_rfl)) ?_
 intro W base args ds gs before hval0 hW _ hsz _
 have hval : ∀ (j : Nat) t v, Try.f6.params[j]? = some t → args[j]? = some v → Value.okWide Try.prog W .any base t v := hval0
 have hW0 := hW
 obtain ⟨p, q, hA0, hV, _, _, _⟩ := hW
 have hA : DataW.TrodAll enc Try.prog W 0 (fun _ => true) true Try.f6.params.toList args.toList ds p := hA0
 rw [Try.params6] at hA hval hsz
 obtain ⟨v0, vs0, d0, ds0, p0, q0, hargs, rfl, rfl, h0, r0⟩ := trodAll_cons hA
 obtain ⟨v1, vs1, d1, ds1, p1, q1, rfl, rfl, rfl, h1, r1⟩ := trodAll_cons r0
 obtain ⟨v2, vs2, d2, ds2, p2, q2, rfl, rfl, rfl, h2, r2⟩ := trodAll_cons r1
 obtain ⟨rfl, rfl, rfl⟩ := trodAll_nil r2
 obtain rfl : args = #[v0, v1, v2] := by cases args; simp_all
 obtain ⟨a, rfl, ha⟩ := open_up (okWide_struct Try.underlying27 (hval 0 27 v0 rfl rfl)) h0
 obtain ⟨b, rfl, hb⟩ := open_up (okWide_struct Try.underlying27 (hval 1 27 v1 rfl rfl)) h1
 obtain ⟨c, rfl, hc⟩ := open_up (okWide_struct Try.underlying27 (hval 2 27 v2 rfl rfl)) h2
 obtain ⟨rfl, rfl⟩ := trodVars_none hV
 refine (uwins_walk update_ok filter_ok ha hb hc).mono fun e W' ⟨he, hg⟩ => ?_
 subst he
 exact ⟨_, rfl, law_done (by kernel_rfl) rfl hW0 rfl (by rw [Try.params6]; decide +kernel) hg⟩
theorem updateWins_over : Rows.updateWinsRow.holds Try.pinned (OpenSpec.ofChange Rows.updateWinsSpec) :=
 OpenClaim.holds_of_wide 6 Try.f6 rfl rfl rfl rfl rfl rfl rfl ⟨rfl, rfl, rfl, rfl, rfl⟩ rfl rfl rfl rfl rfl (by kernel_rfl) Try.func6 (by kernel_rfl)
  (of_decide_eq_true (by kernel_rfl)) (by unfold Func.isWrapper; first | (rw [if_pos (by decide +kernel)]; kernel_rfl) | (rw [if_neg (by decide +kernel)]; exact ⟨rfl, rfl⟩))
  (fun os started H enc _ => updateWins_lifted os started H enc)
theorem updateWins_holds : Rows.UpdateWinsSaid := updateWins_over
#print axioms updateWins_holds
end Go.Proofs.Ytgpeobmaneponaa
