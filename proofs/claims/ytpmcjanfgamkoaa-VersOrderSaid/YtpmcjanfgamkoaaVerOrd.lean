/- VersOrder out of the contracts. -/
import Derived.Test.YtpmcjanfgamkoaaVerAwk
import Derived.Test.YtpmcjanfgamkoaaVerSam
import Derived.Test.YtpmcjanfgamkoaaVerPut
import Derived.Test.YtpmcjanfgamkoaaVerOrc
set_option linter.unusedSimpArgs false
set_option linter.unusedVariables false
namespace Go.Proofs.Ytpmcjanfgamkoaa
open Go.RowKit Go.Sort

set_option maxRecDepth 100000 in
set_option maxHeartbeats 6400000 in
theorem vorder_some (Z : VersOk) {w : World} {v : Value} {l : List Ver.S} (h : Sts w (fun i => i < w.heap.size) v l) (hl : l.length ≤ 9223372036854775807) (h30 : ¬ 30 < l.length) (h0 : 0 < l.length) : Calls Try.prog 4 #[v] w fun e w' => e = .returned (.bool true) ∧ Below w.heap.size w w' := by
  have mixed : Try.prog.follows .mixedOrders = true := by kernel_rfl
  have AW := Lib.hid (fun W => ver_awake Z W)
  obtain ⟨b, o, cap, rfl, hc, hF, hbk⟩ := h.block h0
  have g1 : ¬ (30 : Int) < (l.length : Int) := by omega
  have g4 : (0 : Int) < (l.length : Int) := by omega
  have HL := Lib.hid h
  have NW := Lib.hid (Z.newest (w := w) h (by omega) h0)
  clear h
  go_enter Try.func4, Try.ntmps4
  go_wp2_with fail
  refine (NW.out).mono ?_
  rintro e w1 ⟨⟨s, hs, rfl⟩, h1⟩
  have HS := Lib.hid hs
  have HB1 := Lib.hid h1
  obtain ⟨st, sx, sy⟩ := s
  have CS := Lib.hid (fun U (hU : Laid (w1.alloc (.cells #[.int .i64 sx, .int .i64 sy, .int .i64 st] 25)) U) => show U.cell? ⟨w1.heap.size, 0, none⟩ = some (.int .i64 sx) ∧ U.cell? ⟨w1.heap.size, 1, none⟩ = some (.int .i64 sy) ∧ U.cell? ⟨w1.heap.size, 2, none⟩ = some (.int .i64 st) from by
    have r0 := Row.made w1 25 #[.int .i64 sx, .int .i64 sy, .int .i64 st]
    have q0 := Row.below r0 hU.below r0.inHeap
    exact ⟨q0.at 0, q0.at 1, q0.at 2⟩)
  have HBS := Lib.hid (h1.trans ((laid_one w1 (.cells #[.int .i64 sx, .int .i64 sy, .int .i64 st] 25)).below.mono h1.size))
  have CL := Lib.hid (fun (i : Nat) (x : Ver.S) (hx : (l)[i]? = some x) U (hU : Laid (w1.alloc (.cells #[.int .i64 sx, .int .i64 sy, .int .i64 st] 25)) U) => Sts.at (HL.out.below (HBS.out.trans (hU.below.mono HBS.out.size))) hx)
  clear hs h1
  go_wp2_with fail
  go_loopw [5, 6] (fun fnd i wr => ∃ n : Nat, n ≤ l.length ∧ i = .int .i64 (n : Int) ∧ fnd = .bool (decide ((⟨st, sx, sy⟩ : Ver.S) ∈ (l).take n)) ∧ Hid (Laid (w1.alloc (.cells #[.int .i64 sx, .int .i64 sy, .int .i64 st] 25)) wr)) (fun _ i _ => l.length - (intOf i).toNat)
  case atStart => exact ⟨0, Nat.zero_le _, rfl, by rw [List.take_zero]; rfl, Lib.hid (Laid.refl _)⟩
  case round =>
    obtain ⟨n, hn, rfl, rfl, HLwr⟩ := hrel
    by_cases hlt : n < l.length
    · obtain ⟨x, hx⟩ : ∃ x, (l)[n]? = some x := ⟨_, List.getElem?_eq_getElem (by rw [(rfl : l.length = l.length)]; exact hlt)⟩
      have OL : Hid (∀ W, Calls Try.prog 12 #[.agg #[.int .i64 sx, .int .i64 sy, .int .i64 st], .agg #[.int .i64 x.v.by_, .int .i64 x.v.n, .int .i64 x.time]] W fun e w' => e = .returned (.bool false) ∧ ∃ q os, w' = grow (W.drewN q) os) := Lib.hid (fun W => by
        have := ref_older W ⟨st, sx, sy⟩ x
        rwa [decide_eq_false (HS.out.2 x (List.mem_of_getElem? hx))] at this)
      have HF : Hid (decide ((⟨st, sx, sy⟩ : Ver.S) ∈ (l).take (n + 1)) = (decide ((⟨st, sx, sy⟩ : Ver.S) ∈ (l).take n) || decide (x = ⟨st, sx, sy⟩))) := Lib.hid (by
        obtain ⟨h1, e1⟩ := List.getElem?_eq_some_iff.1 hx
        rw [List.take_succ_eq_append_getElem h1, e1, Bool.eq_iff_iff]
        simp only [decide_eq_true_iff, List.mem_append, List.mem_singleton, Bool.or_eq_true]
        exact or_congr_right ⟨Eq.symm, Eq.symm⟩)
      have CX := Lib.hid (CL.out n x hx)
      have hn0 : (0 : Int) ≤ (n : Int) := by omega
      have hn1 : (n : Int) < (l.length : Int) := by omega
      have CO := Lib.hid (fun W (y : Ver.S) => (Z.compare (w := W) x y : Calls Try.prog 13 #[stpA x, stpA y] W fun e w' => e = .returned (.int .i64 (Ver.compare x y)) ∧ Laid W w'))
      have OX := Lib.hid (fun W (y : Ver.S) => ref_older W x y)
      have EX := Lib.hid (fun w (y : Ver.S) => stp_equalIn w x y)
      clear hx
      generalize decide ((⟨st, sx, sy⟩ : Ver.S) ∈ (l).take n) = r at *
      obtain ⟨xt, xx, xy⟩ := x
      simp only at OL
      have hE : ∀ w, (Op.equalIn 10000 25 (.agg #[.int .i64 xx, .int .i64 xy, .int .i64 xt]) (.agg #[.int .i64 sx, .int .i64 sy, .int .i64 st])).run Try.prog w = .ok (decide ((⟨xt, xx, xy⟩ : Ver.S) = ⟨st, sx, sy⟩)) w := fun w => EX.out w ⟨st, sx, sy⟩
      generalize decide ((⟨xt, xx, xy⟩ : Ver.S) = ⟨st, sx, sy⟩) = q at *
      cases r
      all_goals
        go_wp2_with fail
        have c0 := cells_grown (CX.out _ HLwr.out).1
        have c1 := cells_grown (CX.out _ HLwr.out).2.1
        have c2 := cells_grown (CX.out _ HLwr.out).2.2
        have s0 := cells_grown (CS.out _ HLwr.out).1
        have s1 := cells_grown (CS.out _ HLwr.out).2.1
        have s2 := cells_grown (CS.out _ HLwr.out).2.2
        go_quiet_grown (fail)
        have HLW1 : Hid (Laid (w1.alloc (.cells #[.int .i64 sx, .int .i64 sy, .int .i64 st] 25)) (grow (wr.drewN nq) osq)) := Lib.hid (HLwr.out.trans ⟨nq, osq, rfl⟩)
        clear c0 c1 c2 s0 s1 s2
        generalize grow (wr.drewN nq) osq = W1 at *
        have c0 := cells_grown (CX.out _ HLW1.out).1
        have c1 := cells_grown (CX.out _ HLW1.out).2.1
        have c2 := cells_grown (CX.out _ HLW1.out).2.2
        have s0 := cells_grown (CS.out _ HLW1.out).1
        have s1 := cells_grown (CS.out _ HLW1.out).2.1
        have s2 := cells_grown (CS.out _ HLW1.out).2.2
        go_wp2_with fail
        go_quiet_grown (first | (go_at_call 12; with_reducible refine Calls.grown_of (OL.out _)))
        have HLW2 : Hid (Laid (w1.alloc (.cells #[.int .i64 sx, .int .i64 sy, .int .i64 st] 25)) (grow (W1.drewN nq) osq)) := Lib.hid (HLW1.out.trans ⟨nq, osq, rfl⟩)
        clear c0 c1 c2 s0 s1 s2
        generalize grow (W1.drewN nq) osq = W2 at *
        go_wp2_with fail
        go_loopw [7] (fun k wk => ∃ m : Nat, m ≤ l.length ∧ k = .int .i64 (m : Int) ∧ Hid (Laid (w1.alloc (.cells #[.int .i64 sx, .int .i64 sy, .int .i64 st] 25)) wk)) (fun k _ => l.length - (intOf k).toNat)
        case atStart => exact ⟨0, Nat.zero_le _, rfl, HLW2⟩
        case round =>
          obtain ⟨m, hm, rfl, HLwr⟩ := hrel
          by_cases hlt2 : m < l.length
          · obtain ⟨y, hy⟩ : ∃ y, (l)[m]? = some y := ⟨_, List.getElem?_eq_getElem (by rw [(rfl : l.length = l.length)]; exact hlt2)⟩
            have CY := Lib.hid (CL.out m y hy)
            have hm0 : (0 : Int) ≤ (m : Int) := by omega
            have hm1 : (m : Int) < (l.length : Int) := by omega
            clear hy
            obtain ⟨yt, yx, yy⟩ := y
            by_cases ho : Ver.Older ⟨xt, xx, xy⟩ ⟨yt, yx, yy⟩
            · have OY : Hid (∀ W, Calls Try.prog 12 #[.agg #[.int .i64 xx, .int .i64 xy, .int .i64 xt], .agg #[.int .i64 yx, .int .i64 yy, .int .i64 yt]] W fun e w' => e = .returned (.bool true) ∧ ∃ q os, w' = grow (W.drewN q) os) := Lib.hid (fun W => by have := OX.out W ⟨yt, yx, yy⟩; rwa [decide_eq_true ho] at this)
              have CC : Hid (∀ W, Calls Try.prog 13 #[.agg #[.int .i64 xx, .int .i64 xy, .int .i64 xt], .agg #[.int .i64 yx, .int .i64 yy, .int .i64 yt]] W fun e w' => e = .returned (.int .i64 (-1)) ∧ ∃ q os, w' = grow (W.drewN q) os) := Lib.hid (fun W => by have := CO.out W ⟨yt, yx, yy⟩; unfold Ver.compare at this; rwa [if_pos ho] at this)
              clear ho
              go_wp2_with fail
              have c0 := cells_grown (CX.out _ HLwr.out).1
              have c1 := cells_grown (CX.out _ HLwr.out).2.1
              have c2 := cells_grown (CX.out _ HLwr.out).2.2
              have d0 := cells_grown (CY.out _ HLwr.out).1
              have d1 := cells_grown (CY.out _ HLwr.out).2.1
              have d2 := cells_grown (CY.out _ HLwr.out).2.2
              go_quiet_grown (first | (go_at_call 12; with_reducible refine Calls.grown_of (OY.out _)))
              have HLV1 : Hid (Laid (w1.alloc (.cells #[.int .i64 sx, .int .i64 sy, .int .i64 st] 25)) (grow (wr.drewN nq) osq)) := Lib.hid (HLwr.out.trans ⟨nq, osq, rfl⟩)
              clear c0 c1 c2 d0 d1 d2
              generalize grow (wr.drewN nq) osq = V1 at *
              go_wp2_with fail
              have c0 := cells_grown (CX.out _ HLV1.out).1
              have c1 := cells_grown (CX.out _ HLV1.out).2.1
              have c2 := cells_grown (CX.out _ HLV1.out).2.2
              have d0 := cells_grown (CY.out _ HLV1.out).1
              have d1 := cells_grown (CY.out _ HLV1.out).2.1
              have d2 := cells_grown (CY.out _ HLV1.out).2.2
              go_quiet_grown (first | (go_at_call 13; with_reducible refine Calls.grown_of (CC.out _)))
              have HLV2 : Hid (Laid (w1.alloc (.cells #[.int .i64 sx, .int .i64 sy, .int .i64 st] 25)) (grow (V1.drewN nq) osq)) := Lib.hid (HLV1.out.trans ⟨nq, osq, rfl⟩)
              clear c0 c1 c2 d0 d1 d2
              generalize grow (V1.drewN nq) osq = V2 at *
              go_wp2_with fail
              exact ⟨⟨m + 1, by omega, by go_num, HLV2⟩, by show l.length - ((m : Int) + 1).toNat < l.length - (m : Int).toNat; omega⟩
            · have OY : Hid (∀ W, Calls Try.prog 12 #[.agg #[.int .i64 xx, .int .i64 xy, .int .i64 xt], .agg #[.int .i64 yx, .int .i64 yy, .int .i64 yt]] W fun e w' => e = .returned (.bool false) ∧ ∃ q os, w' = grow (W.drewN q) os) := Lib.hid (fun W => by have := OX.out W ⟨yt, yx, yy⟩; rwa [decide_eq_false ho] at this)
              by_cases he : (⟨xt, xx, xy⟩ : Ver.S) = ⟨yt, yx, yy⟩
              · have CC : Hid (∀ W, Calls Try.prog 13 #[.agg #[.int .i64 xx, .int .i64 xy, .int .i64 xt], .agg #[.int .i64 yx, .int .i64 yy, .int .i64 yt]] W fun e w' => e = .returned (.int .i64 0) ∧ ∃ q os, w' = grow (W.drewN q) os) := Lib.hid (fun W => by have := CO.out W ⟨yt, yx, yy⟩; unfold Ver.compare at this; rwa [if_neg ho, if_pos he] at this)
                have hE2 : ∀ w, (Op.equalIn 10000 25 (.agg #[.int .i64 xx, .int .i64 xy, .int .i64 xt]) (.agg #[.int .i64 yx, .int .i64 yy, .int .i64 yt])).run Try.prog w = .ok true w := fun w => by have := EX.out w ⟨yt, yx, yy⟩; rwa [decide_eq_true he] at this
                clear ho he
                go_wp2_with fail
                have c0 := cells_grown (CX.out _ HLwr.out).1
                have c1 := cells_grown (CX.out _ HLwr.out).2.1
                have c2 := cells_grown (CX.out _ HLwr.out).2.2
                have d0 := cells_grown (CY.out _ HLwr.out).1
                have d1 := cells_grown (CY.out _ HLwr.out).2.1
                have d2 := cells_grown (CY.out _ HLwr.out).2.2
                go_quiet_grown (first | (go_at_call 12; with_reducible refine Calls.grown_of (OY.out _)))
                have HLV1 : Hid (Laid (w1.alloc (.cells #[.int .i64 sx, .int .i64 sy, .int .i64 st] 25)) (grow (wr.drewN nq) osq)) := Lib.hid (HLwr.out.trans ⟨nq, osq, rfl⟩)
                clear c0 c1 c2 d0 d1 d2
                generalize grow (wr.drewN nq) osq = V1 at *
                go_wp2_with fail
                have c0 := cells_grown (CX.out _ HLV1.out).1
                have c1 := cells_grown (CX.out _ HLV1.out).2.1
                have c2 := cells_grown (CX.out _ HLV1.out).2.2
                have d0 := cells_grown (CY.out _ HLV1.out).1
                have d1 := cells_grown (CY.out _ HLV1.out).2.1
                have d2 := cells_grown (CY.out _ HLV1.out).2.2
                go_quiet_grown (fail)
                have HLV2 : Hid (Laid (w1.alloc (.cells #[.int .i64 sx, .int .i64 sy, .int .i64 st] 25)) (grow (V1.drewN nq) osq)) := Lib.hid (HLV1.out.trans ⟨nq, osq, rfl⟩)
                clear c0 c1 c2 d0 d1 d2
                generalize grow (V1.drewN nq) osq = V2 at *
                go_wp2_with fail
                have c0 := cells_grown (CX.out _ HLV2.out).1
                have c1 := cells_grown (CX.out _ HLV2.out).2.1
                have c2 := cells_grown (CX.out _ HLV2.out).2.2
                have d0 := cells_grown (CY.out _ HLV2.out).1
                have d1 := cells_grown (CY.out _ HLV2.out).2.1
                have d2 := cells_grown (CY.out _ HLV2.out).2.2
                go_quiet_grown (first | (go_at_call 13; with_reducible refine Calls.grown_of (CC.out _)))
                have HLV3 : Hid (Laid (w1.alloc (.cells #[.int .i64 sx, .int .i64 sy, .int .i64 st] 25)) (grow (V2.drewN nq) osq)) := Lib.hid (HLV2.out.trans ⟨nq, osq, rfl⟩)
                clear c0 c1 c2 d0 d1 d2
                generalize grow (V2.drewN nq) osq = V3 at *
                go_wp2_with fail
                exact ⟨⟨m + 1, by omega, by go_num, HLV3⟩, by show l.length - ((m : Int) + 1).toNat < l.length - (m : Int).toNat; omega⟩
              · have CC : Hid (∀ W, Calls Try.prog 13 #[.agg #[.int .i64 xx, .int .i64 xy, .int .i64 xt], .agg #[.int .i64 yx, .int .i64 yy, .int .i64 yt]] W fun e w' => e = .returned (.int .i64 1) ∧ ∃ q os, w' = grow (W.drewN q) os) := Lib.hid (fun W => by have := CO.out W ⟨yt, yx, yy⟩; unfold Ver.compare at this; rwa [if_neg ho, if_neg he] at this)
                have hE2 : ∀ w, (Op.equalIn 10000 25 (.agg #[.int .i64 xx, .int .i64 xy, .int .i64 xt]) (.agg #[.int .i64 yx, .int .i64 yy, .int .i64 yt])).run Try.prog w = .ok false w := fun w => by have := EX.out w ⟨yt, yx, yy⟩; rwa [decide_eq_false he] at this
                clear ho he
                go_wp2_with fail
                have c0 := cells_grown (CX.out _ HLwr.out).1
                have c1 := cells_grown (CX.out _ HLwr.out).2.1
                have c2 := cells_grown (CX.out _ HLwr.out).2.2
                have d0 := cells_grown (CY.out _ HLwr.out).1
                have d1 := cells_grown (CY.out _ HLwr.out).2.1
                have d2 := cells_grown (CY.out _ HLwr.out).2.2
                go_quiet_grown (first | (go_at_call 12; with_reducible refine Calls.grown_of (OY.out _)))
                have HLV1 : Hid (Laid (w1.alloc (.cells #[.int .i64 sx, .int .i64 sy, .int .i64 st] 25)) (grow (wr.drewN nq) osq)) := Lib.hid (HLwr.out.trans ⟨nq, osq, rfl⟩)
                clear c0 c1 c2 d0 d1 d2
                generalize grow (wr.drewN nq) osq = V1 at *
                go_wp2_with fail
                have c0 := cells_grown (CX.out _ HLV1.out).1
                have c1 := cells_grown (CX.out _ HLV1.out).2.1
                have c2 := cells_grown (CX.out _ HLV1.out).2.2
                have d0 := cells_grown (CY.out _ HLV1.out).1
                have d1 := cells_grown (CY.out _ HLV1.out).2.1
                have d2 := cells_grown (CY.out _ HLV1.out).2.2
                go_quiet_grown (fail)
                have HLV2 : Hid (Laid (w1.alloc (.cells #[.int .i64 sx, .int .i64 sy, .int .i64 st] 25)) (grow (V1.drewN nq) osq)) := Lib.hid (HLV1.out.trans ⟨nq, osq, rfl⟩)
                clear c0 c1 c2 d0 d1 d2
                generalize grow (V1.drewN nq) osq = V2 at *
                go_wp2_with fail
                have c0 := cells_grown (CX.out _ HLV2.out).1
                have c1 := cells_grown (CX.out _ HLV2.out).2.1
                have c2 := cells_grown (CX.out _ HLV2.out).2.2
                have d0 := cells_grown (CY.out _ HLV2.out).1
                have d1 := cells_grown (CY.out _ HLV2.out).2.1
                have d2 := cells_grown (CY.out _ HLV2.out).2.2
                go_quiet_grown (first | (go_at_call 13; with_reducible refine Calls.grown_of (CC.out _)))
                have HLV3 : Hid (Laid (w1.alloc (.cells #[.int .i64 sx, .int .i64 sy, .int .i64 st] 25)) (grow (V2.drewN nq) osq)) := Lib.hid (HLV2.out.trans ⟨nq, osq, rfl⟩)
                clear c0 c1 c2 d0 d1 d2
                generalize grow (V2.drewN nq) osq = V3 at *
                go_wp2_with fail
                exact ⟨⟨m + 1, by omega, by go_num, HLV3⟩, by show l.length - ((m : Int) + 1).toNat < l.length - (m : Int).toNat; omega⟩
          · obtain rfl : m = l.length := by omega
            go_wp2_with fail
            exact ⟨⟨n + 1, by omega, by go_num, by rw [HF.out]; rfl, HLwr⟩, by show l.length - ((n : Int) + 1).toNat < l.length - (n : Int).toNat; omega⟩
    · obtain rfl : n = l.length := by omega
      have htake : (l).take l.length = l := List.take_of_length_le (Nat.le_of_eq (rfl : l.length = l.length))
      rw [htake, decide_eq_true HS.out.1]
      clear htake
      have HW := Lib.hid (HBS.out.trans (HLwr.out.below.mono HBS.out.size))
      go_wp2_with fail
      refine (AW.out _).mono ?_
      rintro e w2 ⟨rfl, h2⟩
      have H2 := Lib.hid (HW.out.trans (h2.mono HW.out.size))
      clear h2
      go_wp2_with fail
      go_ret
      exact ⟨rfl, H2.out⟩

set_option maxRecDepth 100000 in
theorem vorder_walk (Z : VersOk) {w : World} {v : Value} {l : List Ver.S} (h : Sts w (fun i => i < w.heap.size) v l) (hl : l.length ≤ 9223372036854775807) : Calls Try.prog 4 #[v] w fun e w' => e = .returned (.bool true) ∧ Below w.heap.size w w' := by
  by_cases h30 : 30 < l.length
  · exact vorder_cut Z h hl h30
  · by_cases h0 : 0 < l.length
    · exact vorder_some Z h hl h30 h0
    · have AW := Lib.hid (fun W => ver_awake Z W)
      obtain ⟨A, cap, rfl, hc⟩ := h.parts
      have hl0 : l.length = 0 := by omega
      rw [hl0]
      have NO : Hid (Calls Try.prog 11 #[.slice A 0 cap] w fun e w' => e = .returned (.tuple #[.agg #[.int .i64 0, .int .i64 0, .int .i64 0], .bool false]) ∧ Below w.heap.size w w') := Lib.hid (Z.none (w := w) A cap)
      have hE : ∀ w, (Op.equalIn 10000 25 (.agg #[.int .i64 0, .int .i64 0, .int .i64 0]) (.agg #[.int .i64 0, .int .i64 0, .int .i64 0])).run Try.prog w = .ok true w := fun w => stp_equalIn w ⟨0, 0, 0⟩ ⟨0, 0, 0⟩
      clear h
      go_enter Try.func4, Try.ntmps4
      go_wp2_with fail
      refine (NO.out).mono ?_
      rintro e w1 ⟨rfl, h1⟩
      have H1 := Lib.hid (h1.alloc h1.size (.cells #[.int .i64 0, .int .i64 0, .int .i64 0] 25))
      clear h1
      go_wp2_with fail
      refine wp_loop_rounds 1 ?_
      rw [rounds_succ]
      go_wp2_with fail
      refine (AW.out _).mono ?_
      rintro e w2 ⟨rfl, h2⟩
      have H2 := Lib.hid (H1.out.trans (h2.mono H1.out.size))
      clear h2
      go_wp2_with fail
      go_ret
      exact ⟨rfl, H2.out⟩
end Go.Proofs.Ytpmcjanfgamkoaa
