/- VersChecks and VersNext out of the contracts. -/
import Derived.Test.YtpmcjanfgamkoaaVerAwk
import Derived.Test.YtpmcjanfgamkoaaVerSam
import Derived.Test.YtpmcjanfgamkoaaVerPut
set_option linter.unusedSimpArgs false
set_option linter.unusedVariables false
namespace Go.Proofs.Ytpmcjanfgamkoaa
open Go.RowKit Go.Sort

set_option maxRecDepth 100000 in
set_option maxHeartbeats 1600000 in
theorem vchecks_walk (Z : VersOk) {w : World} (s : Ver.S) (hb : Ver.BdS s) : Calls Try.prog 3 #[stpA s] w fun e w' => e = .returned (.bool true) ∧ Below w.heap.size w w' := by
  have mixed : Try.prog.follows .mixedOrders = true := by kernel_rfl
  have AW := Lib.hid (fun W => ver_awake Z W)
  have facts : ∃ (a b : Int) (r : Bool), (∀ W, Calls Try.prog 7 #[verA s.v] W fun e w' => e = .returned (.int .i64 a) ∧ ∃ q os, w' = grow (W.drewN q) os) ∧ (∀ W, Calls Try.prog 8 #[stpA s] W fun e w' => e = .returned (.int .i64 b) ∧ ∃ q os, w' = grow (W.drewN q) os) ∧ (∀ W, Calls Try.prog 9 #[verA s.v] W fun e w' => e = .returned (.bool r) ∧ ∃ q os, w' = grow (W.drewN q) os) ∧ ((r = true ∧ a = 0 ∧ 1 ≤ s.time ∧ b = 0) ∨ (r = true ∧ a = 0 ∧ ¬ 1 ≤ s.time ∧ b = 2) ∨ (r = false ∧ a = 2 ∧ b = 2)) := by
    refine ⟨Ver.checkV s.v, Ver.checkS s, decide (Ver.Right s.v), fun W => Z.check s.v hb.1, fun W => Z.stamp s hb, fun W => ref_vright W s.v, ?_⟩
    unfold Ver.checkV Ver.checkS Ver.RightS
    by_cases h1 : Ver.Right s.v
    · by_cases h2 : 1 ≤ s.time
      · exact Or.inl (by simp [h1, h2])
      · exact Or.inr (Or.inl (by simp [h1, h2]))
    · exact Or.inr (Or.inr (by simp [h1]))
  obtain ⟨a, b, r, CH, CS, RI, hcase⟩ := facts
  have CH := Lib.hid CH
  have CS := Lib.hid CS
  have RI := Lib.hid RI
  have HR := Row.made w 25 #[.int .i64 s.v.by_, .int .i64 s.v.n, .int .i64 s.time]
  have HB0 := Lib.hid (laid_one w (.cells #[.int .i64 s.v.by_, .int .i64 s.v.n, .int .i64 s.time] 25))
  have HR0 := Lib.hid HR
  obtain ⟨tm, x, y⟩ := s
  simp only at hcase
  clear hb HR
  rcases hcase with ⟨rfl, rfl, ht, rfl⟩ | ⟨rfl, rfl, ht, rfl⟩ | ⟨rfl, rfl, rfl⟩
  all_goals
    go_enter Try.func3, Try.ntmps3
    go_wp2_with fail
    have c0 := cells_grown (HR0.out.at 0)
    have c1 := cells_grown (HR0.out.at 1)
    have c2 := cells_grown (HR0.out.at 2)
    go_quiet_grown (first | (go_at_call 7; with_reducible refine Calls.grown_of (CH.out _)) | (go_at_call 8; with_reducible refine Calls.grown_of (CS.out _)))
    have H1 : Hid (Laid w (grow ((w.alloc (.cells #[.int .i64 x, .int .i64 y, .int .i64 tm] 25)).drewN nq) osq)) := Lib.hid (HB0.out.trans ⟨nq, osq, rfl⟩)
    have d0 := c0 nq osq
    have d1 := c1 nq osq
    have d2 := c2 nq osq
    clear c0 c1 c2
    generalize grow ((w.alloc (.cells #[.int .i64 x, .int .i64 y, .int .i64 tm] 25)).drewN nq) osq = W at *
    go_wp2_with fail
    refine (RI.out _).mono ?_
    rintro e w1 ⟨rfl, h2⟩
    have hL : Laid W w1 := h2
    have H2 := Lib.hid (Laid.trans H1.out hL)
    have D2 := Lib.hid ((hL.below.cell (p := ⟨w.heap.size, 2, none⟩) (World.block_lt_of_cell? W _ d2)).trans d2)
    have Hlt := Lib.hid (Nat.lt_of_lt_of_le (World.block_lt_of_cell? W _ d2) hL.below.size)
    clear h2 hL d0 d1 d2
    go_wp2_with fail
    refine (AW.out _).mono ?_
    rintro e w2 ⟨rfl, h3⟩
    have H3 := Lib.hid (H2.out.below.trans (h3.mono H2.out.below.size))
    have d2 := (h3.cell (p := ⟨w.heap.size, 2, none⟩) Hlt.out).trans D2.out
    clear h3
    go_wp2_with fail
    go_ret
    exact ⟨by first | rfl | (simp; omega), H3.out⟩

set_option maxRecDepth 100000 in
set_option maxHeartbeats 1600000 in
theorem vnext_walk (Z : VersOk) {w : World} {v : Value} {l : List Int} (t : Int) (h : Nums w (fun i => i < w.heap.size) v l) (hl : l.length ≤ 9223372036854775807) (ht : Ver.I64 t) (hb : ∀ n ∈ l, Ver.I64 n) : Calls Try.prog 6 #[.int .i64 t, v] w fun e w' => e = .returned (.bool true) ∧ Below w.heap.size w w' := by
  have AW := Lib.hid (fun W => ver_awake Z W)
  have HI := Lib.hid ver_high
  by_cases h100 : 100 < l.length
  · obtain ⟨b, o, cap, rfl, hc, hF, hbk⟩ := h.block (by omega)
    have g1 : (100 : Int) < (l.length : Int) := by omega
    have g2 : (100 : Int) ≤ (cap : Int) := by omega
    have g3 : 100 ≤ cap := by omega
    have HL : Hid (Nums w (fun i => i < w.heap.size) (.slice (some ⟨b, o, none⟩) 100 cap) (l.take 100)) := Lib.hid (h.take rfl 100 (by omega) cap (by omega))
    have HN : Hid ((l.take 100).length = 100) := Lib.hid (by rw [List.length_take]; omega)
    have HBd : Hid (∀ n ∈ l.take 100, Ver.I64 n) := Lib.hid (fun n hn => hb n (List.mem_of_mem_take hn))
    clear h hb
    go_enter Try.func6, Try.ntmps6
    go_wp2_with fail
    refine (HI.out _ _ _).mono ?_
    rintro e w' ⟨rfl, rfl⟩
    go_wp2_with fail
    go_loopw [5, 6] (fun m i wr => ∃ n : Nat, n ≤ 100 ∧ i = .int .i64 (n : Int) ∧ m = .int .i64 (Ver.most t ((l.take 100).take n)) ∧ w = wr) (fun _ i _ => 100 - (intOf i).toNat)
    case atStart => exact ⟨0, Nat.zero_le _, rfl, by rw [List.take_zero]; rfl, rfl⟩
    case round =>
      obtain ⟨n, hn, rfl, rfl, rfl⟩ := hrel
      by_cases hlt : n < 100
      · have hb := hbk
        obtain ⟨x, hx⟩ : ∃ x, ((l.take 100))[n]? = some x := ⟨_, List.getElem?_eq_getElem (by rw [HN.out]; exact hlt)⟩
        have c0 := Nums.at HL.out hx
        have hst := Lib.hid (Ver.most_take t ((l.take 100)) n x hx)
        have hn0 : (0 : Int) ≤ (n : Int) := by omega
        have hn1 : (n : Int) < 100 := by omega
        clear hx
        generalize Ver.most t ((l.take 100).take n) = M at *
        go_wp2_with fail
        refine (HI.out _ _ _).mono ?_
        rintro e w' ⟨rfl, rfl⟩
        go_wp2_with fail
        exact ⟨⟨n + 1, by omega, by go_num, by rw [hst.out], by first | rfl | trivial⟩, by show 100 - ((n : Int) + 1).toNat < 100 - (n : Int).toNat; omega⟩
      · obtain rfl : n = 100 := by omega
        have htake : ((l.take 100)).take 100 = (l.take 100) := List.take_of_length_le (Nat.le_of_eq HN.out)
        rw [htake]
        have NX := Lib.hid (Z.next t (w := w) HL.out (by rw [HN.out]; omega) ht HBd.out)
        have hge := (Ver.most_ge t ((l.take 100))).1
        have hnx : Ver.next t ((l.take 100)) = if Ver.most t ((l.take 100)) = 9223372036854775807 then (0, 15) else (Ver.most t ((l.take 100)) + 1, 0) := rfl
        have hbd : Ver.most t ((l.take 100)) ≤ 9223372036854775807 := Ver.most_bd (by omega) ht.2 (fun x hx => (HBd.out x hx).2)
        rw [hnx] at NX
        generalize Ver.most t ((l.take 100)) = M at *
        clear hnx htake
        by_cases hM : M = 9223372036854775807
        · subst hM
          rw [if_pos rfl] at NX
          go_wp2_with fail
          refine (NX.out).mono ?_
          rintro e w1 ⟨rfl, h1⟩
          have H1 := Lib.hid h1
          clear h1
          go_wp2_with fail
          refine (AW.out _).mono ?_
          rintro e w2 ⟨rfl, h2⟩
          have H2 := Lib.hid (H1.out.trans (h2.mono H1.out.size))
          clear h2
          go_wp2_with fail
          go_ret
          exact ⟨rfl, H2.out⟩
        · rw [if_neg hM] at NX
          have hw1 : IntKind.i64.wrap (M + 1 - 1) = M := by rw [show M + 1 - 1 = M by omega]; exact IntWalk.i64_in _ ⟨by omega, by omega⟩
          have hw2 : M + 1 - 1 = M := by omega
          simp only at NX
          go_wp2_with fail
          refine (NX.out).mono ?_
          rintro e w1 ⟨rfl, h1⟩
          have H1 := Lib.hid h1
          clear h1
          go_wp2_with fail
          refine (AW.out _).mono ?_
          rintro e w2 ⟨rfl, h2⟩
          have H2 := Lib.hid (H1.out.trans (h2.mono H1.out.size))
          clear h2
          go_wp2_with fail
          go_ret
          exact ⟨rfl, H2.out⟩
  · obtain ⟨A, cap, rfl, hc⟩ := h.parts
    have g1 : ¬ (100 : Int) < (l.length : Int) := by omega
    have HL := Lib.hid h
    have HN : Hid (l.length = l.length) := Lib.hid rfl
    have HBd := Lib.hid hb
    clear h hb
    go_enter Try.func6, Try.ntmps6
    go_wp2_with fail
    refine (HI.out _ _ _).mono ?_
    rintro e w' ⟨rfl, rfl⟩
    go_wp2_with fail
    go_loopw [5, 6] (fun m i wr => ∃ n : Nat, n ≤ l.length ∧ i = .int .i64 (n : Int) ∧ m = .int .i64 (Ver.most t (l.take n)) ∧ w = wr) (fun _ i _ => l.length - (intOf i).toNat)
    case atStart => exact ⟨0, Nat.zero_le _, rfl, by rw [List.take_zero]; rfl, rfl⟩
    case round =>
      obtain ⟨n, hn, rfl, rfl, rfl⟩ := hrel
      by_cases hlt : n < l.length
      · obtain ⟨b, o, cap', e, -, -, hb⟩ := HL.out.block (by omega)
        injection e with e1 e2 e3
        subst e1 e3
        obtain ⟨x, hx⟩ : ∃ x, (l)[n]? = some x := ⟨_, List.getElem?_eq_getElem (by rw [(rfl : l.length = l.length)]; exact hlt)⟩
        have c0 := Nums.at HL.out hx
        have hst := Lib.hid (Ver.most_take t (l) n x hx)
        have hn0 : (0 : Int) ≤ (n : Int) := by omega
        have hn1 : (n : Int) < (l.length : Int) := by omega
        clear hx
        generalize Ver.most t (l.take n) = M at *
        go_wp2_with fail
        refine (HI.out _ _ _).mono ?_
        rintro e w' ⟨rfl, rfl⟩
        go_wp2_with fail
        exact ⟨⟨n + 1, by omega, by go_num, by rw [hst.out], by first | rfl | trivial⟩, by show l.length - ((n : Int) + 1).toNat < l.length - (n : Int).toNat; omega⟩
      · obtain rfl : n = l.length := by omega
        have htake : (l).take l.length = l := List.take_of_length_le (Nat.le_of_eq (rfl : l.length = l.length))
        rw [htake]
        have NX := Lib.hid (Z.next t (w := w) HL.out (by rw [(rfl : l.length = l.length)]; omega) ht HBd.out)
        have hge := (Ver.most_ge t (l)).1
        have hnx : Ver.next t (l) = if Ver.most t (l) = 9223372036854775807 then (0, 15) else (Ver.most t (l) + 1, 0) := rfl
        have hbd : Ver.most t (l) ≤ 9223372036854775807 := Ver.most_bd (by omega) ht.2 (fun x hx => (HBd.out x hx).2)
        rw [hnx] at NX
        generalize Ver.most t (l) = M at *
        clear hnx htake
        by_cases hM : M = 9223372036854775807
        · subst hM
          rw [if_pos rfl] at NX
          go_wp2_with fail
          refine (NX.out).mono ?_
          rintro e w1 ⟨rfl, h1⟩
          have H1 := Lib.hid h1
          clear h1
          go_wp2_with fail
          refine (AW.out _).mono ?_
          rintro e w2 ⟨rfl, h2⟩
          have H2 := Lib.hid (H1.out.trans (h2.mono H1.out.size))
          clear h2
          go_wp2_with fail
          go_ret
          exact ⟨rfl, H2.out⟩
        · rw [if_neg hM] at NX
          have hw1 : IntKind.i64.wrap (M + 1 - 1) = M := by rw [show M + 1 - 1 = M by omega]; exact IntWalk.i64_in _ ⟨by omega, by omega⟩
          have hw2 : M + 1 - 1 = M := by omega
          simp only at NX
          go_wp2_with fail
          refine (NX.out).mono ?_
          rintro e w1 ⟨rfl, h1⟩
          have H1 := Lib.hid h1
          clear h1
          go_wp2_with fail
          refine (AW.out _).mono ?_
          rintro e w2 ⟨rfl, h2⟩
          have H2 := Lib.hid (H1.out.trans (h2.mono H1.out.size))
          clear h2
          go_wp2_with fail
          go_ret
          exact ⟨rfl, H2.out⟩
end Go.Proofs.Ytpmcjanfgamkoaa
