/- Which updates and metas may be, and an update's meta and file: UpdateChecks's statement holds. -/
import Derived.Test.YtgpeobmaneponaaCom12
import Derived.Test.YtgpeobmaneponaaCom16
set_option maxRecDepth 100000
set_option linter.unusedVariables false
set_option linter.unusedSimpArgs false
set_option maxHeartbeats 12800000
namespace Go.Proofs.Ytgpeobmaneponaa
open List renaming getElem_toArray → z1, getElem_cons_zero → z2, getElem_cons_succ → z3, setIfInBounds_toArray → z4, set_cons_zero → z5, set_cons_succ → z6
open Go.RowKit Go.Sort
theorem fileGuard : Try.prog.eqGuardType Try.prog.depth 34 = false := by kernel_rfl
theorem file_self (w : World) (x : ByteArray) (n : Int) (b : Bool) : (binOp .neq 34 (.agg #[.string x, .int .i64 n, .bool b]) (.agg #[.string x, .int .i64 n, .bool b])).run Try.prog w = .ok (.bool false) w := by
 have hS : Try.prog.underlying 34 = some (.struct (Try.prog.fieldsOf 34)) := by kernel_rfl
 have hp : Try.prog.stoodInHeld 34 = false := by kernel_rfl
 have u9 := Try.underlying9
 have a9 := Try.isAgg9
 have z9 := Try.sizeOf9
 have u4 := Try.underlying4
 have a4 := Try.isAgg4
 have z4 := Try.sizeOf4
 have u3 := Try.underlying3
 have a3 := Try.isAgg3
 have z3 := Try.sizeOf3
 rw [run_neq_struct, show (10000 : Nat) = 9999 + 1 from rfl, run_equalIn_agg w 9999 34 _ _ hS hp]
 simp only [Program.fieldsOf, Try.underlying34]
 have hT : ∀ (w : World) (a b : ByteArray), (Op.equalIn 9999 9 (.string a) (.string b)).run Try.prog w = .ok (a.toList == b.toList) w := fun w a b => run_equalIn_string w 9998 9 a b u9
 have hB : ∀ (w : World) (a b : Bool), (Op.equalIn 9999 4 (.bool a) (.bool b)).run Try.prog w = .ok (a == b) w := fun w a b => run_equalIn_bool w 9998 4 a b u4
 have hI : ∀ (w : World) (a b : Int), (Op.equalIn 9999 3 (.int .i64 a) (.int .i64 b)).run Try.prog w = .ok (a == b) w := fun w a b => run_equalIn_int w 9998 3 _ _ a b u3
 simp only [Op.eqFields]
 generalize Op.equalIn 9999 = EQ at hT hB hI ⊢
 go_simp
theorem uchecks_walk (O : UpdateOk) (Z : FilterOk) {w : World} {u : Upd.U} {m : Upd.M} (hu : Upd.In u) (hm : Upd.InM m) :
  Calls Try.prog 3 #[upA u, mtA m] w fun e w' => e = .returned (.bool true) ∧ Below w.heap.size w w' := by
 have mixed : Try.prog.follows .mixedOrders = true := by kernel_rfl
 have AW := Lib.hid (fun W => upd_awake O Z W)
 have LGd := ulight_any u
 by_cases lu : Upd.light u
 ·rw [decide_eq_true lu] at LGd
  have hub := Upd.light_bd hu lu
  have ME := Lib.hid (fun W => O.toMeta (w := W) u hub)
  have FI := Lib.hid (fun W => O.file (w := W) u hub)
  have CK := Lib.hid (fun W => O.check (w := W) u hub)
  have RC := Lib.hid (fun W => ref_ucheck u hub W)
  have CX := Lib.hid (fun W => O.checkM (w := W) (Upd.meta_ u) (Upd.bd_meta hub))
  rw [show Upd.errM (Upd.meta_ u) = Upd.err u from rfl] at CX
  by_cases lm : m.path.length ≤ 200
  ·have hmb : Upd.BdM m := ⟨hm.item, hm.stamp, by omega, hm.size⟩
   have CM := Lib.hid (fun W => O.checkM (w := W) m hmb)
   have RM := Lib.hid (fun W => ref_ucheckM m hmb W)
   have lp2 := mk_len m.path
   generalize Upd.err u = E1 at *
   generalize Upd.errM m = E2 at *
   clear hu hm hub hmb lu
   obtain ⟨⟨i1, i2⟩, ⟨t, ⟨v1, v2⟩⟩, p, d, dd⟩ := u
   obtain ⟨⟨j1, j2⟩, ⟨s, ⟨u1, u2⟩⟩, p2, n2, d2⟩ := m
   obtain ⟨n, hn⟩ : ∃ n : Int, n = (d.length : Int) := ⟨_, rfl⟩
   dsimp only [upA, mtA, fileV, Upd.meta_] at *
   have hys : ((mk d).size : Int) = n := by rw [mk_len, hn]
   rw [← hn] at ME FI CX
   have hx2 : ¬ (200 : Int) < ((mk p2).size : Int) := by omega
   generalize mk p = x1 at *
   generalize mk d = y1 at *
   generalize mk p2 = x2 at *
   clear hn lp2 lm
   have LG := Lib.hid LGd
   clear LGd
   obtain ⟨W0, hW0⟩ : ∃ W0, W0 = (w.alloc (.cells #[.int .i64 i1, .int .i64 i2, .int .i64 v1, .int .i64 v2, .int .i64 t, .string x1, .string y1, .bool dd] 27)).alloc (.cells #[.int .i64 j1, .int .i64 j2, .int .i64 u1, .int .i64 u2, .int .i64 s, .string x2, .int .i64 n2, .bool d2] 29) := ⟨_, rfl⟩
   have hb0 : Below w.heap.size w W0 := by rw [hW0]; exact ((Below.refl _ _).alloc (by simp) _).alloc (by simp; try omega) _
   have r0 : Row W0 (w.heap.size) 27 #[.int .i64 i1, .int .i64 i2, .int .i64 v1, .int .i64 v2, .int .i64 t, .string x1, .string y1, .bool dd] := by
    rw [hW0]
    have h := ((Row.made w 27 #[.int .i64 i1, .int .i64 i2, .int .i64 v1, .int .i64 v2, .int .i64 t, .string x1, .string y1, .bool dd]).behindNew (.cells #[.int .i64 j1, .int .i64 j2, .int .i64 u1, .int .i64 u2, .int .i64 s, .string x2, .int .i64 n2, .bool d2] 29))
    simpa only [World.size_alloc] using h
   have r1 : Row W0 (w.heap.size + 1) 29 #[.int .i64 j1, .int .i64 j2, .int .i64 u1, .int .i64 u2, .int .i64 s, .string x2, .int .i64 n2, .bool d2] := by
    rw [hW0]
    have h := (Row.made (w.alloc (.cells #[.int .i64 i1, .int .i64 i2, .int .i64 v1, .int .i64 v2, .int .i64 t, .string x1, .string y1, .bool dd] 27)) 29 #[.int .i64 j1, .int .i64 j2, .int .i64 u1, .int .i64 u2, .int .i64 s, .string x2, .int .i64 n2, .bool d2])
    simpa only [World.size_alloc] using h
   have HB0 := Lib.hid hb0
   have B0 : Hid (Below W0.heap.size W0 W0) := Lib.hid (Below.refl _ _)
   have EV : Hid (∀ W, (binOp .neq 23 (.agg #[.int .i64 i1, .int .i64 i2]) (.agg #[.int .i64 i1, .int .i64 i2])).run Try.prog W = .ok (.bool false) W) := Lib.hid (fun W => by have h := ver_neql W ⟨i1, i2⟩ ⟨i1, i2⟩; rw [decide_eq_true (rfl : (⟨i1, i2⟩ : Ver.V) = _)] at h; exact h)
   have ES : Hid (∀ W, (binOp .neq 25 (.agg #[.int .i64 v1, .int .i64 v2, .int .i64 t]) (.agg #[.int .i64 v1, .int .i64 v2, .int .i64 t])).run Try.prog W = .ok (.bool false) W) := Lib.hid (fun W => by have h := stp_neql W ⟨t, ⟨v1, v2⟩⟩ ⟨t, ⟨v1, v2⟩⟩; rw [decide_eq_true (rfl : (⟨t, ⟨v1, v2⟩⟩ : Ver.S) = _)] at h; exact h)
   have EF := Lib.hid (fun W => file_self W x1 n dd)
   have XU := Lib.hid (fun (W : World) (h : Below W0.heap.size W0 W) => r0.below h r0.inHeap)
   have XM := Lib.hid (fun (W : World) (h : Below W0.heap.size W0 W) => r1.below h r1.inHeap)
   go_enter Try.func3, Try.ntmps3
   go_wp2_with fail
   first | rw [← hW0] | skip
   clear hW0 r0 r1 hb0
   refine (LG.out _).mono ?_
   rintro e w1 ⟨rfl, b1⟩
   have B1 := Lib.hid (B0.out.trans (b1.mono B0.out.size))
   clear b1
   have ru := XU.out w1 B1.out
   have rm := XM.out w1 B1.out
   have c0 := ru.at 0
   have c1 := ru.at 1
   have c2 := ru.at 2
   have c3 := ru.at 3
   have c4 := ru.at 4
   have c5 := ru.at 5
   have c6 := ru.at 6
   have c7 := ru.at 7
   have d5 := rm.at 5
   clear ru rm
   go_wp2_with fail
   clear c0 c1 c2 c3 c4 c5 c6 c7
   clear d5
   refine (ME.out _).mono ?_
   rintro e w2 ⟨rfl, b2⟩
   have B2 := Lib.hid (B1.out.trans (b2.mono B1.out.size))
   clear b2
   have hA3 : Below w2.heap.size w2 (w2.alloc (.cells #[.int .i64 i1, .int .i64 i2, .int .i64 v1, .int .i64 v2, .int .i64 t, .string x1, .int .i64 n, .bool dd] 29)) := (Below.refl _ _).alloc (Nat.le_refl _) _
   have B3 := Lib.hid (B2.out.trans (hA3.mono B2.out.size))
   have RX := Lib.hid (Row.made w2 29 #[.int .i64 i1, .int .i64 i2, .int .i64 v1, .int .i64 v2, .int .i64 t, .string x1, .int .i64 n, .bool dd])
   have ru := XU.out _ B3.out
   have c0 := ru.at 0
   have c1 := ru.at 1
   have c2 := ru.at 2
   have c3 := ru.at 3
   have c4 := ru.at 4
   have c5 := ru.at 5
   have c6 := ru.at 6
   have c7 := ru.at 7
   clear ru hA3
   go_wp2_with fail
   clear c0 c1 c2 c3 c4 c5 c6 c7
   refine (FI.out _).mono ?_
   rintro e w4 ⟨rfl, b4⟩
   have hA5 : Below w4.heap.size w4 (w4.alloc (.cells #[.string x1, .int .i64 n, .bool dd] 34)) := (Below.refl _ _).alloc (Nat.le_refl _) _
   have rx := (RX.out.below b4 RX.out.inHeap).below hA5 (Nat.lt_of_lt_of_le RX.out.inHeap b4.size)
   have B5 := Lib.hid ((B3.out.trans (b4.mono B3.out.size)).trans (hA5.mono (Nat.le_trans B3.out.size b4.size)))
   have ru := XU.out _ B5.out
   have c0 := ru.at 0
   have c1 := ru.at 1
   have c2 := ru.at 2
   have c3 := ru.at 3
   have c4 := ru.at 4
   have c5 := ru.at 5
   have c6 := ru.at 6
   have c7 := ru.at 7
   have e0 := rx.at 0
   have e1 := rx.at 1
   have e2 := rx.at 2
   have e3 := rx.at 3
   have e4 := rx.at 4
   have e5 := rx.at 5
   have e6 := rx.at 6
   have e7 := rx.at 7
   have RX5 := Lib.hid rx
   clear ru rx b4 hA5 RX
   go_wp2_with (first | refine wpList_bin (by rfl) .neq _ _ _ _ (by rfl) (by rfl) (by rfl) verGuard (EV.out _) ?_ | refine wpList_bin (by rfl) .neq _ _ _ _ (by rfl) (by rfl) (by rfl) stpGuard (ES.out _) ?_ | refine wpList_bin (by rfl) .neq _ _ _ _ (by rfl) (by rfl) (by rfl) fileGuard (EF.out _) ?_)
   clear c0 c1 c2 c3 c4 c5 c6 c7
   clear e0 e1 e2 e3 e4 e5 e6 e7
   generalize w4.alloc (.cells #[.string x1, .int .i64 n, .bool dd] 34) = w5 at *
   have LU := Lib.hid (fun (W : World) (h : InB w5 W) => (up_lies_row (cs := [.int .i64 i1, .int .i64 i2, .int .i64 v1, .int .i64 v2, .int .i64 t, .string x1, .string y1, .bool dd]) (XU.out W (B5.out.trans (h.below.mono B5.out.size))) rfl : Lies 27 W w.heap.size 0 [.int .i64 i1, .int .i64 i2, .int .i64 v1, .int .i64 v2, .int .i64 t, .string x1, .string y1, .bool dd]))
   have LM := Lib.hid (fun (W : World) (h : InB w5 W) => (show Lies 29 W (w.heap.size + 1) 0 [.int .i64 j1, .int .i64 j2, .int .i64 u1, .int .i64 u2, .int .i64 s, .string x2, .int .i64 n2, .bool d2] from ⟨range_row (cs := [.int .i64 j1, .int .i64 j2, .int .i64 u1, .int .i64 u2, .int .i64 s, .string x2, .int .i64 n2, .bool d2]) (XM.out W (B5.out.trans (h.below.mono B5.out.size))), ⟨_, Try.underlying29, rfl⟩, by kernel_rfl⟩))
   have LX := Lib.hid (fun (W : World) (h : InB w5 W) => (show Lies 29 W (w2.heap.size) 0 [.int .i64 i1, .int .i64 i2, .int .i64 v1, .int .i64 v2, .int .i64 t, .string x1, .int .i64 n, .bool dd] from ⟨range_row (cs := [.int .i64 i1, .int .i64 i2, .int .i64 v1, .int .i64 v2, .int .i64 t, .string x1, .int .i64 n, .bool dd]) (RX5.out.below h.below RX5.out.inHeap), ⟨_, Try.underlying29, rfl⟩, by kernel_rfl⟩))
   refine wp_region_below mixed (by kernel_rfl) ?_
   refine wq_call (by kernel_rfl) ?hent (fun w hSw => inB_calls hSw (AW.out w)) ?_; (case hent => (intro w hSw; go_simp; first | done | exact ⟨rfl, rfl⟩ | rfl))
   simp only [Act.put, z1, z2, z3, z4, z5, z6]
   refine wq_td ?_
   simp only [Act.put, z1, z2, z3, z4, z5, z6]
   refine wq_mload (by rfl) (.tmp 2) (by rfl) (by rfl) (fun w hSw => LU.out w hSw) ?_
   simp only [Act.put, z1, z2, z3, z4, z5, z6]
   refine wq_call (by kernel_rfl) ?hent (fun w hSw => inB_calls hSw (CK.out w)) ?_; (case hent => (intro w hSw; go_simp; first | done | exact ⟨rfl, rfl⟩ | rfl))
   simp only [Act.put, z1, z2, z3, z4, z5, z6]
   refine wq_mload (by rfl) (.tmp 2) (by rfl) (by rfl) (fun w hSw => LU.out w hSw) ?_
   simp only [Act.put, z1, z2, z3, z4, z5, z6]
   refine wq_call (by kernel_rfl) ?hent (fun w hSw => inB_calls hSw (RC.out w)) ?_; (case hent => (intro w hSw; go_simp; first | done | exact ⟨rfl, rfl⟩ | rfl))
   simp only [Act.put, z1, z2, z3, z4, z5, z6]
   refine wq_td ?_
   simp only [Act.put, z1, z2, z3, z4, z5, z6]
   refine wq_td ?_
   simp only [Act.put, z1, z2, z3, z4, z5, z6]
   refine wq_td ?_
   simp only [Act.put, z1, z2, z3, z4, z5, z6]
   refine wq_mload (by rfl) (.tmp 3) (by rfl) (by rfl) (fun w hSw => LM.out w hSw) ?_
   simp only [Act.put, z1, z2, z3, z4, z5, z6]
   refine wq_call (by kernel_rfl) ?hent (fun w hSw => inB_calls hSw (CM.out w)) ?_; (case hent => (intro w hSw; go_simp; first | done | exact ⟨rfl, rfl⟩ | rfl))
   simp only [Act.put, z1, z2, z3, z4, z5, z6]
   refine wq_mload (by rfl) (.tmp 3) (by rfl) (by rfl) (fun w hSw => LM.out w hSw) ?_
   simp only [Act.put, z1, z2, z3, z4, z5, z6]
   refine wq_call (by kernel_rfl) ?hent (fun w hSw => inB_calls hSw (RM.out w)) ?_; (case hent => (intro w hSw; go_simp; first | done | exact ⟨rfl, rfl⟩ | rfl))
   simp only [Act.put, z1, z2, z3, z4, z5, z6]
   refine wq_td ?_
   simp only [Act.put, z1, z2, z3, z4, z5, z6]
   refine wq_td ?_
   simp only [Act.put, z1, z2, z3, z4, z5, z6]
   refine wq_td ?_
   simp only [Act.put, z1, z2, z3, z4, z5, z6]
   refine wq_mload (by rfl) (.tmp 5) (by rfl) (by rfl) (fun w hSw => LX.out w hSw) ?_
   simp only [Act.put, z1, z2, z3, z4, z5, z6]
   refine wq_call (by kernel_rfl) ?hent (fun w hSw => inB_calls hSw (CX.out w)) ?_; (case hent => (intro w hSw; go_simp; first | done | exact ⟨rfl, rfl⟩ | rfl))
   simp only [Act.put, z1, z2, z3, z4, z5, z6]
   refine wq_mload (by rfl) (.tmp 2) (by rfl) (by rfl) (fun w hSw => LU.out w hSw) ?_
   simp only [Act.put, z1, z2, z3, z4, z5, z6]
   refine wq_call (by kernel_rfl) ?hent (fun w hSw => inB_calls hSw (CK.out w)) ?_; (case hent => (intro w hSw; go_simp; first | done | exact ⟨rfl, rfl⟩ | rfl))
   simp only [Act.put, z1, z2, z3, z4, z5, z6]
   refine wq_td ?_
   simp only [Act.put, z1, z2, z3, z4, z5, z6]
   refine wq_td ?_
   simp only [Act.put, z1, z2, z3, z4, z5, z6]
   refine wq_td ?_
   simp only [Act.put, z1, z2, z3, z4, z5, z6]
   refine wq_nil ?_
   intro wq hq
   go_wp2_with fail
   go_ret
   exact ⟨by rfl, HB0.out.trans ((B5.out.trans (hq.below.mono B5.out.size)).mono HB0.out.size)⟩
  ·clear ME FI CK RC CX
   have lp2 := mk_len m.path
   clear hub lu
   clear hu hm
   obtain ⟨⟨i1, i2⟩, ⟨t, ⟨v1, v2⟩⟩, p, d, dd⟩ := u
   obtain ⟨⟨j1, j2⟩, ⟨s, ⟨u1, u2⟩⟩, p2, n2, d2⟩ := m
   dsimp only [upA, mtA] at *
   have hx2 : (200 : Int) < ((mk p2).size : Int) := by omega
   generalize mk p = x1 at *
   generalize mk d = y1 at *
   generalize mk p2 = x2 at *
   have LG := Lib.hid LGd
   clear LGd
   obtain ⟨W0, hW0⟩ : ∃ W0, W0 = (w.alloc (.cells #[.int .i64 i1, .int .i64 i2, .int .i64 v1, .int .i64 v2, .int .i64 t, .string x1, .string y1, .bool dd] 27)).alloc (.cells #[.int .i64 j1, .int .i64 j2, .int .i64 u1, .int .i64 u2, .int .i64 s, .string x2, .int .i64 n2, .bool d2] 29) := ⟨_, rfl⟩
   have hb0 : Below w.heap.size w W0 := by rw [hW0]; exact ((Below.refl _ _).alloc (by simp) _).alloc (by simp; try omega) _
   have r0 : Row W0 (w.heap.size) 27 #[.int .i64 i1, .int .i64 i2, .int .i64 v1, .int .i64 v2, .int .i64 t, .string x1, .string y1, .bool dd] := by
    rw [hW0]
    have h := ((Row.made w 27 #[.int .i64 i1, .int .i64 i2, .int .i64 v1, .int .i64 v2, .int .i64 t, .string x1, .string y1, .bool dd]).behindNew (.cells #[.int .i64 j1, .int .i64 j2, .int .i64 u1, .int .i64 u2, .int .i64 s, .string x2, .int .i64 n2, .bool d2] 29))
    simpa only [World.size_alloc] using h
   have r1 : Row W0 (w.heap.size + 1) 29 #[.int .i64 j1, .int .i64 j2, .int .i64 u1, .int .i64 u2, .int .i64 s, .string x2, .int .i64 n2, .bool d2] := by
    rw [hW0]
    have h := (Row.made (w.alloc (.cells #[.int .i64 i1, .int .i64 i2, .int .i64 v1, .int .i64 v2, .int .i64 t, .string x1, .string y1, .bool dd] 27)) 29 #[.int .i64 j1, .int .i64 j2, .int .i64 u1, .int .i64 u2, .int .i64 s, .string x2, .int .i64 n2, .bool d2])
    simpa only [World.size_alloc] using h
   have HB0 := Lib.hid hb0
   have B0 : Hid (Below W0.heap.size W0 W0) := Lib.hid (Below.refl _ _)
   have XM := Lib.hid (fun (W : World) (h : Below W0.heap.size W0 W) => r1.below h r1.inHeap)
   go_enter Try.func3, Try.ntmps3
   go_wp2_with fail
   first | rw [← hW0] | skip
   clear hW0 r0 r1 hb0
   refine (LG.out _).mono ?_
   rintro e w1 ⟨rfl, b1⟩
   have B1 := Lib.hid (B0.out.trans (b1.mono B0.out.size))
   clear b1
   have d5 := (XM.out w1 B1.out).at 5
   go_wp2_with fail
   refine (AW.out _).mono ?_
   rintro e w2 ⟨rfl, b2⟩
   have B2 := Lib.hid (B1.out.trans (b2.mono B1.out.size))
   clear b2
   go_wp2_with fail
   go_ret
   exact ⟨rfl, HB0.out.trans (B2.out.mono HB0.out.size)⟩
 ·rw [decide_eq_false lu] at LGd
  clear lu
  clear hu hm
  obtain ⟨⟨i1, i2⟩, ⟨t, ⟨v1, v2⟩⟩, p, d, dd⟩ := u
  obtain ⟨⟨j1, j2⟩, ⟨s, ⟨u1, u2⟩⟩, p2, n2, d2⟩ := m
  dsimp only [upA, mtA] at *
  generalize mk p = x1 at *
  generalize mk d = y1 at *
  generalize mk p2 = x2 at *
  have LG := Lib.hid LGd
  clear LGd
  obtain ⟨W0, hW0⟩ : ∃ W0, W0 = (w.alloc (.cells #[.int .i64 i1, .int .i64 i2, .int .i64 v1, .int .i64 v2, .int .i64 t, .string x1, .string y1, .bool dd] 27)).alloc (.cells #[.int .i64 j1, .int .i64 j2, .int .i64 u1, .int .i64 u2, .int .i64 s, .string x2, .int .i64 n2, .bool d2] 29) := ⟨_, rfl⟩
  have hb0 : Below w.heap.size w W0 := by rw [hW0]; exact ((Below.refl _ _).alloc (by simp) _).alloc (by simp; try omega) _
  have r0 : Row W0 (w.heap.size) 27 #[.int .i64 i1, .int .i64 i2, .int .i64 v1, .int .i64 v2, .int .i64 t, .string x1, .string y1, .bool dd] := by
   rw [hW0]
   have h := ((Row.made w 27 #[.int .i64 i1, .int .i64 i2, .int .i64 v1, .int .i64 v2, .int .i64 t, .string x1, .string y1, .bool dd]).behindNew (.cells #[.int .i64 j1, .int .i64 j2, .int .i64 u1, .int .i64 u2, .int .i64 s, .string x2, .int .i64 n2, .bool d2] 29))
   simpa only [World.size_alloc] using h
  have r1 : Row W0 (w.heap.size + 1) 29 #[.int .i64 j1, .int .i64 j2, .int .i64 u1, .int .i64 u2, .int .i64 s, .string x2, .int .i64 n2, .bool d2] := by
   rw [hW0]
   have h := (Row.made (w.alloc (.cells #[.int .i64 i1, .int .i64 i2, .int .i64 v1, .int .i64 v2, .int .i64 t, .string x1, .string y1, .bool dd] 27)) 29 #[.int .i64 j1, .int .i64 j2, .int .i64 u1, .int .i64 u2, .int .i64 s, .string x2, .int .i64 n2, .bool d2])
   simpa only [World.size_alloc] using h
  have HB0 := Lib.hid hb0
  have B0 : Hid (Below W0.heap.size W0 W0) := Lib.hid (Below.refl _ _)
  have XM := Lib.hid (fun (W : World) (h : Below W0.heap.size W0 W) => r1.below h r1.inHeap)
  go_enter Try.func3, Try.ntmps3
  go_wp2_with fail
  first | rw [← hW0] | skip
  clear hW0 r0 r1 hb0
  refine (LG.out _).mono ?_
  rintro e w1 ⟨rfl, b1⟩
  have B1 := Lib.hid (B0.out.trans (b1.mono B0.out.size))
  clear b1
  have d5 := (XM.out w1 B1.out).at 5
  go_wp2_with fail
  refine (AW.out _).mono ?_
  rintro e w2 ⟨rfl, b2⟩
  have B2 := Lib.hid (B1.out.trans (b2.mono B1.out.size))
  clear b2
  go_wp2_with fail
  go_ret
  exact ⟨rfl, HB0.out.trans (B2.out.mono HB0.out.size)⟩
end Go.Proofs.Ytgpeobmaneponaa
namespace Go.Proofs.Ytgpeobmaneponaa
open Go.RowKit
open Go.ChangeShapes Go.WideShapes Go.ChangeAt
open Go.ChangeMaps (open_string shut_string)
theorem updateChecks_lifted (os : Os) (started : os.Started) (H : Type) (enc : TypeId × Value → H) :
  ReturnsInHanded {} Try.checked os 3 .any (Rows.updateChecksSpec.pre6 enc Try.prog Try.f3 Rows.updateChecksRow.domain false) (Rows.updateChecksSpec.post enc Try.prog Try.f3 false true false false) := by
 refine returnsInHanded_of_change_sized (C := Try.checked) own started (by kernel_rfl) Try.func3
  (ChangeSpec.witness6 (enc := enc) (C := Try.checked) false ⟨#[], #[.agg #[.int .i64 0, .int .i64 0, .int .i64 0, .int .i64 0, .int .i64 0, .string ⟨#[]⟩, .string ⟨#[]⟩, .bool false], .agg #[.int .i64 0, .int .i64 0, .int .i64 0, .int .i64 0, .int .i64 0, .string ⟨#[]⟩, .int .i64 0, .bool false]], []⟩ 8 (by kernel_rfl) (by kernel_rfl) (by kernel_rfl) (by kernel_rfl)) ?_
 intro W base args ds gs before hval0 hW _ hsz _
 have hval : ∀ (j : Nat) t v, Try.f3.params[j]? = some t → args[j]? = some v → Value.okWide Try.prog W .any base t v := hval0
 have hW0 := hW
 obtain ⟨p, q, hA0, hV, _, _, _⟩ := hW
 have hA : DataW.TrodAll enc Try.prog W 0 (fun _ => true) true Try.f3.params.toList args.toList ds p := hA0
 rw [Try.params3] at hA hval hsz
 obtain ⟨v0, vs0, d0, ds0, p0, q0, hargs, rfl, rfl, h0, r0⟩ := trodAll_cons hA
 obtain ⟨v1, vs1, d1, ds1, p1, q1, rfl, rfl, rfl, h1, r1⟩ := trodAll_cons r0
 obtain ⟨rfl, rfl, rfl⟩ := trodAll_nil r1
 obtain rfl : args = #[v0, v1] := by cases args; simp_all
 obtain ⟨u, rfl, hu⟩ := open_up (okWide_struct Try.underlying27 (hval 0 27 v0 rfl rfl)) h0
 obtain ⟨m, rfl, hm⟩ := open_mt (okWide_struct Try.underlying29 (hval 1 29 v1 rfl rfl)) h1
 obtain ⟨rfl, rfl⟩ := trodVars_none hV
 refine (uchecks_walk update_ok filter_ok hu hm).mono fun e W' ⟨he, hg⟩ => ?_
 subst he
 exact ⟨_, rfl, law_done (by kernel_rfl) rfl hW0 rfl (by rw [Try.params3]; decide +kernel) hg⟩
theorem updateChecks_over : Rows.updateChecksRow.holds Try.pinned (OpenSpec.ofChange Rows.updateChecksSpec) :=
 OpenClaim.holds_of_wide 3 Try.f3 rfl rfl rfl rfl rfl rfl rfl ⟨rfl, rfl, rfl, rfl, rfl⟩ rfl rfl rfl rfl rfl (by kernel_rfl) Try.func3 (by kernel_rfl)
  (of_decide_eq_true (by kernel_rfl)) (by unfold Func.isWrapper; first | (rw [if_pos (by decide +kernel)]; kernel_rfl) | (rw [if_neg (by decide +kernel)]; exact ⟨rfl, rfl⟩))
  (fun os started H enc _ => updateChecks_lifted os started H enc)
theorem updateChecks_holds : Rows.UpdateChecksSaid := updateChecks_over
#print axioms updateChecks_holds
end Go.Proofs.Ytgpeobmaneponaa
