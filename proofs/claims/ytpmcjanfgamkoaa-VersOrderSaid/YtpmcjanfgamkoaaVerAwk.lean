/- What must come at any rate ('awake' of layer 12); '==' of two stamps. -/
import Derived.Test.YtpmcjanfgamkoaaVerRef
import Derived.Test.YtpmcjanfgamkoaaVerPut
import Derived.Laws.StructEq
set_option linter.unusedSimpArgs false
set_option linter.unusedVariables false
namespace Go.Proofs.Ytpmcjanfgamkoaa
open Go.RowKit Go.Sort

set_option maxRecDepth 100000 in
theorem vn_equalIn (w : World) (x1 x2 y1 y2 : Int) : (Op.equalIn 9999 23 (.agg #[.int .i64 x1, .int .i64 x2]) (.agg #[.int .i64 y1, .int .i64 y2])).run Try.prog w = .ok (decide (x1 = y1 ∧ x2 = y2)) w := by
  have hS : Try.prog.underlying 23 = some (.struct (Try.prog.fieldsOf 23)) := by kernel_rfl
  have hp : Try.prog.stoodInHeld 23 = false := by kernel_rfl
  have u3 := Try.underlying3
  have a3 := Try.isAgg3
  have z3 := Try.sizeOf3
  rw [show (9999 : Nat) = 9998 + 1 from rfl, run_equalIn_agg w 9998 23 _ _ hS hp]
  simp only [Program.fieldsOf, Try.underlying23]
  go_simp
  by_cases h1 : x1 = y1 <;> by_cases h2 : x2 = y2 <;> simp [h1, h2]

set_option maxRecDepth 100000 in
/-- '==' of two stamps. -/
theorem stp_equalIn (w : World) (a b : Ver.S) : (Op.equalIn 10000 25 (stpA a) (stpA b)).run Try.prog w = .ok (decide (a = b)) w := by
  have hS : Try.prog.underlying 25 = some (.struct (Try.prog.fieldsOf 25)) := by kernel_rfl
  have hp : Try.prog.stoodInHeld 25 = false := by kernel_rfl
  have u3 := Try.underlying3
  have a3 := Try.isAgg3
  have z3 := Try.sizeOf3
  have a23 := Try.isAgg23
  have z23 := Try.sizeOf23
  obtain ⟨t, x, y⟩ := a
  obtain ⟨t', x', y'⟩ := b
  have hR := fun w => vn_equalIn w x y x' y'
  rw [show (10000 : Nat) = 9999 + 1 from rfl, run_equalIn_agg w 9999 25 _ _ hS hp]
  simp only [Program.fieldsOf, Try.underlying25]
  have hT : ∀ (w : World) (p q : Int), (Op.equalIn 9999 3 (.int .i64 p) (.int .i64 q)).run Try.prog w = .ok (p == q) w := fun w p q => run_equalIn_int w 9998 3 _ _ p q u3
  simp only [Op.eqFields]
  generalize Op.equalIn 9999 = EQ at hR hT ⊢
  go_simp
  by_cases h0 : t = t' <;> by_cases h1 : x = x' <;> by_cases h2 : y = y' <;> simp [h0, h1, h2]

set_option maxRecDepth 100000 in
theorem ver_stampfn (t b n : Int) (w : World) : Calls Try.prog 22 #[.int .i64 t, .int .i64 b, .int .i64 n] w fun e w' => e = .returned (.agg #[.int .i64 b, .int .i64 n, .int .i64 t]) ∧ Laid w w' := by
  have HL := Lib.hid (laid_one w (.cells #[.int .i64 b, .int .i64 n, .int .i64 t] 25))
  have Hsz : Hid ((Try.prog.info? 25).map (·.size) = some 3) := Lib.hid (by kernel_rfl)
  go_enter Try.func22, Try.ntmps22
  go_wp2_with fail
  exact bodyPost_ret (v := .agg #[.int .i64 b, .int .i64 n, .int .i64 t]) (results_cell_row (by rfl) _ _ w.heap.size 25 _ (0, 0) _ (by rfl) (heap_alloc_new w _) Try.underlying25 rfl Hsz.out) rfl ⟨rfl, HL.out⟩

def Ver.awL : List Ver.S := [⟨5, 2, 9⟩, ⟨5, 3, 1⟩, ⟨4, 9, 9⟩]
set_option maxRecDepth 100000 in
theorem Ver.awN {s : Ver.S} (h : Ver.Newest Ver.awL s) : s = ⟨5, 3, 1⟩ := Ver.newest_one h ⟨by decide, by decide⟩
set_option maxRecDepth 100000 in
theorem awl_made (W : World) : Sts (W.alloc (.cells #[.int .i64 2, .int .i64 9, .int .i64 5, .int .i64 3, .int .i64 1, .int .i64 5, .int .i64 9, .int .i64 9, .int .i64 4] 25)) (fun i => i = W.heap.size) (.slice (some ⟨W.heap.size, 0, none⟩) 3 3) Ver.awL :=
  ⟨some ⟨W.heap.size, 0, none⟩, 3, rfl, Nat.le_refl _, fun _ => ⟨W.heap.size, 0, rfl, rfl, by simp, fun i x hx j u hu => by
    rw [(Row.made W _ _).at]
    match i, hx with
    | 0, hx => (simp [Ver.awL] at hx; subst hx; match j, hu with
      | 0, hu => simp [stpV] at hu; subst hu; rfl
      | 1, hu => simp [stpV] at hu; subst hu; rfl
      | 2, hu => simp [stpV] at hu; subst hu; rfl)
    | 1, hx => (simp [Ver.awL] at hx; subst hx; match j, hu with
      | 0, hu => simp [stpV] at hu; subst hu; rfl
      | 1, hu => simp [stpV] at hu; subst hu; rfl
      | 2, hu => simp [stpV] at hu; subst hu; rfl)
    | 2, hx => (simp [Ver.awL] at hx; subst hx; match j, hu with
      | 0, hu => simp [stpV] at hu; subst hu; rfl
      | 1, hu => simp [stpV] at hu; subst hu; rfl
      | 2, hu => simp [stpV] at hu; subst hu; rfl)⟩⟩

set_option maxRecDepth 100000 in
set_option maxHeartbeats 3200000 in
theorem ver_awake (Z : VersOk) (w : World) : Calls Try.prog 10 #[] w fun e w' => e = .returned (.bool true) ∧ Below w.heap.size w w' := by
  have mixed : Try.prog.follows .mixedOrders = true := by kernel_rfl
  have ST : Hid (∀ (t b n : Int) (W : World), Calls Try.prog 22 #[.int .i64 t, .int .i64 b, .int .i64 n] W fun e w' => e = .returned (.agg #[.int .i64 b, .int .i64 n, .int .i64 t]) ∧ ∃ q os, w' = grow (W.drewN q) os) := Lib.hid (fun t b n W => ver_stampfn t b n W)
  have NE := Lib.hid (fun W => Z.newest (awl_made W) (by decide) (by decide))
  have CM : Hid (∀ W, Calls Try.prog 13 #[.agg #[.int .i64 2, .int .i64 9, .int .i64 5], .agg #[.int .i64 3, .int .i64 1, .int .i64 5]] W fun e w' => e = .returned (.int .i64 (-1)) ∧ ∃ q os, w' = grow (W.drewN q) os) := Lib.hid (fun W => Z.compare (w := W) ⟨5, 2, 9⟩ ⟨5, 3, 1⟩)
  have C1 : Hid (∀ W, Calls Try.prog 7 #[.agg #[.int .i64 64, .int .i64 1]] W fun e w' => e = .returned (.int .i64 0) ∧ ∃ q os, w' = grow (W.drewN q) os) := Lib.hid (fun W => Z.check (w := W) ⟨64, 1⟩ (by decide))
  have C2 : Hid (∀ W, Calls Try.prog 7 #[.agg #[.int .i64 65, .int .i64 1]] W fun e w' => e = .returned (.int .i64 2) ∧ ∃ q os, w' = grow (W.drewN q) os) := Lib.hid (fun W => Z.check (w := W) ⟨65, 1⟩ (by decide))
  have hE : ∀ w, (Op.equalIn 10000 25 (.agg #[.int .i64 3, .int .i64 1, .int .i64 5]) (.agg #[.int .i64 3, .int .i64 1, .int .i64 5])).run Try.prog w = .ok true w := fun w => stp_equalIn w ⟨5, 3, 1⟩ ⟨5, 3, 1⟩
  go_enter Try.func10, Try.ntmps10
  go_wp2_with fail
  refine (ST.out _ _ _ _).mono ?_
  rintro e w1 ⟨rfl, h1⟩
  have H1 : Hid (Laid w w1) := Lib.hid h1
  clear h1
  go_wp2_with fail
  refine (ST.out _ _ _ _).mono ?_
  rintro e w2 ⟨rfl, h2⟩
  have H2 : Hid (Laid w w2) := Lib.hid (H1.out.trans h2)
  clear h2
  go_wp2_with fail
  refine (ST.out _ _ _ _).mono ?_
  rintro e w3 ⟨rfl, h3⟩
  have H3 := Lib.hid ((Laid.trans H2.out (h3 : Laid w2 w3)).trans (Laid.new w3 (.cells #[.int .i64 2, .int .i64 9, .int .i64 5, .int .i64 3, .int .i64 1, .int .i64 5, .int .i64 9, .int .i64 9, .int .i64 4] 25)))
  clear h3
  go_wp2_with fail
  refine (NE.out _).mono ?_
  rintro e w4 ⟨⟨s, hs, rfl⟩, h4⟩
  obtain rfl := Ver.awN hs
  have H4 := Lib.hid (H3.out.below.trans (h4.mono H3.out.below.size))
  have HR := Lib.hid (Row.made w4 25 #[.int .i64 3, .int .i64 1, .int .i64 5])
  have H5 := Lib.hid (H4.out.alloc H4.out.size (.cells #[.int .i64 3, .int .i64 1, .int .i64 5] 25))
  clear h4 hs
  go_wp2_with fail
  generalize hW : w4.alloc (.cells #[.int .i64 3, .int .i64 1, .int .i64 5] 25) = W at *
  have c0 := cells_grown (HR.out.at 0)
  have c1 := cells_grown (HR.out.at 1)
  have c2 := cells_grown (HR.out.at 2)
  clear hW
  go_quiet_grown (first | (go_at_call 22; with_reducible refine Calls.grown_of (ST.out _ _ _ _)) | (go_at_call 13; with_reducible refine Calls.grown_of (CM.out _)) | (go_at_call 7; with_reducible refine Calls.grown_of (C1.out _)) | (go_at_call 7; with_reducible refine Calls.grown_of (C2.out _)))
  have H6 := Lib.hid (H5.out.trans ((Laid.below (w := W) (w' := grow (W.drewN nq) osq) ⟨nq, osq, rfl⟩).mono H5.out.size))
  generalize grow (W.drewN nq) osq = W2 at *
  go_wp2_with fail
  go_ret
  exact ⟨rfl, H6.out⟩
end Go.Proofs.Ytpmcjanfgamkoaa
