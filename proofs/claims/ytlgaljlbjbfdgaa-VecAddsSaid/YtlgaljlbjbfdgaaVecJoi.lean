/- The landed vec: the closures of Join and Meet, joiner, Join, Meet. -/
import Derived.Test.YtlgaljlbjbfdgaaVecCln
set_option linter.unusedSimpArgs false
set_option linter.unusedVariables false
namespace Go.Proofs.Ytlgaljlbjbfdgaa
open Go.RowKit Go.Sort

/-- What joiner's function makes of two vectors. -/
def Vec.zip (g : Int → Int → Int) (x y : List Int) : List Int := Vec.make fun i => g ((x[i]?).getD 0) ((y[i]?).getD 0)
set_option maxRecDepth 100000 in
theorem Vec.zip_join (a b : List Int) : Vec.zip max (Vec.clean a) (Vec.clean b) = Vec.join a b := Vec.make_ext (fun i hi => by rw [Vec.clean_get a hi, Vec.clean_get b hi]; rfl)
set_option maxRecDepth 100000 in
theorem Vec.zip_meet (a b : List Int) : Vec.zip min (Vec.clean a) (Vec.clean b) = Vec.meet a b := Vec.make_ext (fun i hi => by rw [Vec.clean_get a hi, Vec.clean_get b hi]; rfl)

set_option maxRecDepth 100000 in
/-- A function of the program's own, called by its number. -/
theorem run_callFunc_own {P : Program} {f : FuncId} (h : (P.funcs[f]?).map (fun fn => (fn.name == "runtime.NumGoroutine", fn.body.isNone)) = some (false, false)) (args : Array Value) (w : World) : (callFunc f args).run P w = .ok (.enter f args) w := by
  cases hf : P.funcs[f]? with
  | none => rw [hf] at h; cases h
  | some fn =>
    rw [hf] at h
    simp only [Option.map_some, Option.some.injEq, Prod.mk.injEq] at h
    have h1 : fn.name ≠ "runtime.NumGoroutine" := by simpa using h.1
    have h2 : fn.body ≠ none := fun e => by rw [e] at h; cases h.2
    simp [callFunc, hf, h1, h2]

/-- A function that is handed on, and what it answers. -/
def Takes (fn : FuncId) (g : Int → Int → Int) : Prop := ((Try.prog.funcs[fn]?).map (fun f => (f.name == "runtime.NumGoroutine", f.body.isNone)) = some (false, false)) ∧ ∀ (W : World) (m n : Int), Calls Try.prog fn #[.int .i64 m, .int .i64 n] W fun e w' => e = .returned (.int .i64 (g m n)) ∧ Laid W w'

set_option maxRecDepth 100000 in
theorem takes_max : Takes 29 max := by
  refine ⟨by kernel_rfl, fun W m n => ?_⟩
  have L := Lib.hid (Laid.refl W)
  by_cases h : m < n
  · have e : Hid (max m n = n) := Lib.hid (by omega)
    go_enter Try.func29, Try.ntmps29
    go_wp2_with fail
    go_ret
    exact ⟨by rw [e.out]; rfl, L.out⟩
  · have e : Hid (max m n = m) := Lib.hid (by omega)
    go_enter Try.func29, Try.ntmps29
    go_wp2_with fail
    go_ret
    exact ⟨by rw [e.out]; rfl, L.out⟩

set_option maxRecDepth 100000 in
theorem takes_min : Takes 30 min := by
  refine ⟨by kernel_rfl, fun W m n => ?_⟩
  have L := Lib.hid (Laid.refl W)
  by_cases h : m ≤ n
  · have e : Hid (min m n = m) := Lib.hid (by omega)
    go_enter Try.func30, Try.ntmps30
    go_wp2_with fail
    go_ret
    exact ⟨by rw [e.out]; rfl, L.out⟩
  · have e : Hid (min m n = n) := Lib.hid (by omega)
    go_enter Try.func30, Try.ntmps30
    go_wp2_with fail
    go_ret
    exact ⟨by rw [e.out]; rfl, L.out⟩

set_option maxRecDepth 100000 in
set_option maxHeartbeats 1600000 in
theorem vec_zip {w : World} {ba bb : Nat} {x y : List Int} {fn : FuncId} {g : Int → Int → Int} (tk : Takes fn g) (hx : VRow w ba x) (hy : VRow w bb y) : Calls Try.prog 32 #[.func (.func fn) #[] #[], .pointer (some ⟨ba, 0, none⟩), .pointer (some ⟨bb, 0, none⟩)] w fun e w' => e = .returned (vecA (Vec.zip g x y)) ∧ Laid w w' := by
  have hz := vecZero
  have hb1 : VRow ((w.alloc (.cells (vecR Vec.zeros) 23)).alloc (.cells (vecR Vec.zeros) 23)) w.heap.size Vec.zeros := (VRow.made w Vec.zeros_len).alloc _
  have hb2 : VRow ((w.alloc (.cells (vecR Vec.zeros) 23)).alloc (.cells (vecR Vec.zeros) 23)) (w.heap.size + 1) Vec.zeros := by
    have := VRow.made (w.alloc (.cells (vecR Vec.zeros) 23)) (v := Vec.zeros) Vec.zeros_len
    rwa [World.size_alloc] at this
  have HL0 : Hid (Laid w ((w.alloc (.cells (vecR Vec.zeros) 23)).alloc (.cells (vecR Vec.zeros) 23))) := Lib.hid ((Laid.new w _).alloc _)
  have HB1 := Lib.hid hb1
  have HB2 := Lib.hid hb2
  have HX := Lib.hid hx
  have HY := Lib.hid hy
  have TK := Lib.hid tk.2
  have hcf := run_callFunc_own tk.1
  clear hx hy hb1 hb2 tk
  go_enter Try.func32, Try.ntmps32
  go_wp2_with fail
  go_loopw [7] (fun i wr => ∃ k : Nat, k ≤ 65 ∧ i = .int .i64 (k : Int) ∧ VRow wr w.heap.size Vec.zeros ∧ VRow wr (w.heap.size + 1) (Vec.part (fun i => g ((x[i]?).getD 0) ((y[i]?).getD 0)) Vec.zeros k) ∧ Laid w wr) (fun i _ => 65 - (intOf i).toNat)
  case atStart => exact ⟨0, Nat.zero_le _, rfl, HB1.out, by rw [Vec.part_zero]; exact HB2.out, HL0.out⟩
  case round =>
    obtain ⟨k, hk, rfl, h1, h2, h3⟩ := hrel
    by_cases hlt : k < 65
    · obtain ⟨m, hm⟩ : ∃ n, x[k]? = some n := ⟨_, List.getElem?_eq_getElem (by rw [HX.out.len]; exact hlt)⟩
      obtain ⟨n, hn⟩ : ∃ n, y[k]? = some n := ⟨_, List.getElem?_eq_getElem (by rw [HY.out.len]; exact hlt)⟩
      have had := fun b => vec_addr hlt b
      have hk0 : (0 : Int) ≤ (k : Int) := by omega
      have hk1 : (k : Int) < 65 := by omega
      have XC := Lib.hid (show ∀ W, Laid wr W → W.cell? ⟨ba, k, none⟩ = some (.int .i64 m) ∧ W.cell? ⟨bb, k, none⟩ = some (.int .i64 n) from fun W hW => ⟨(HX.out.below (h3.trans hW).below HX.out.inHeap).at hm, (HY.out.below (h3.trans hW).below HY.out.inHeap).at hn⟩)
      have e : Hid ((Vec.part (fun i => g ((x[i]?).getD 0) ((y[i]?).getD 0)) Vec.zeros k).set k (g m n) = Vec.part (fun i => g ((x[i]?).getD 0) ((y[i]?).getD 0)) Vec.zeros (k + 1)) := Lib.hid (by
        rw [← Vec.part_set _ Vec.zeros_len hlt, hm, hn]; rfl)
      have hz0 : Vec.zeros[k]? = some 0 := List.getElem?_replicate .. |>.trans (if_pos hlt)
      have hpk : (Vec.part (fun i => g ((x[i]?).getD 0) ((y[i]?).getD 0)) Vec.zeros k)[k]? = some 0 := by rw [Vec.part_ge _ _ (by omega) (Nat.le_refl k)]; exact hz0
      have Hpk := Lib.hid hpk
      have H1 := Lib.hid h1
      have H2 := Lib.hid h2
      have H3 := Lib.hid h3
      clear h1 h2 h3 hm hn hz0 hpk
      go_wp2_with fail
      refine wp_region_tail (n := 9) (S := (fun w' : World => Laid wr w')) (by kernel_rfl) (by kernel_rfl) (by rfl) ((Laid.refl wr).drew) (fun hHeld => ?_)
      refine wpAnyH_take (i := 0) (v := ?_) rfl (by kernel_rfl) (by kernel_rfl) (by kernel_rfl) (fun _ _ _ h => h) (Or.inl ⟨by rfl, (by intro w hSw; go_simp; try with_reducible rfl)⟩) (by assumption) ?_
      simp only [Act.put, List.getElem_toArray, List.getElem_cons_zero, List.getElem_cons_succ, List.setIfInBounds_toArray, List.set_cons_zero, List.set_cons_succ]
      refine wpAnyH_take (i := 1) (v := ?_) rfl (by kernel_rfl) (by kernel_rfl) (by kernel_rfl) (fun _ _ _ h => h) (Or.inl ⟨by rfl, (by intro w hSw; go_simp; try with_reducible rfl)⟩) (by assumption) ?_
      simp only [Act.put, List.getElem_toArray, List.getElem_cons_zero, List.getElem_cons_succ, List.setIfInBounds_toArray, List.set_cons_zero, List.set_cons_succ]
      refine wpAnyH_take (i := 2) (v := ?_) rfl (by kernel_rfl) (by kernel_rfl) (by kernel_rfl) (fun _ _ _ h => h) (Or.inl ⟨by rfl, (by intro w hSw; go_simp; try with_reducible rfl)⟩) (by assumption) ?_
      simp only [Act.put, List.getElem_toArray, List.getElem_cons_zero, List.getElem_cons_succ, List.setIfInBounds_toArray, List.set_cons_zero, List.set_cons_succ]
      refine wpAnyH_take (i := 3) (v := ?_) rfl (by kernel_rfl) (by kernel_rfl) (by kernel_rfl) (fun _ _ _ h => h) (Or.inl ⟨by rfl, (by intro w hSw; go_simp; try with_reducible rfl)⟩) (by assumption) ?_
      simp only [Act.put, List.getElem_toArray, List.getElem_cons_zero, List.getElem_cons_succ, List.setIfInBounds_toArray, List.set_cons_zero, List.set_cons_succ]
      refine wpAnyH_take (i := 4) (v := ?_) rfl (by kernel_rfl) (by kernel_rfl) (by kernel_rfl) (fun _ _ _ h => h) (Or.inl ⟨by rfl, (by intro w hSw; obtain ⟨d0, d1⟩ := XC.out _ hSw; go_simp; try with_reducible rfl)⟩) (by assumption) ?_
      simp only [Act.put, List.getElem_toArray, List.getElem_cons_zero, List.getElem_cons_succ, List.setIfInBounds_toArray, List.set_cons_zero, List.set_cons_succ]
      refine wpAnyH_take (i := 5) (v := ?_) rfl (by kernel_rfl) (by kernel_rfl) (by kernel_rfl) (fun _ _ _ h => h) (Or.inl ⟨by rfl, (by intro w hSw; go_simp; try with_reducible rfl)⟩) (by assumption) ?_
      simp only [Act.put, List.getElem_toArray, List.getElem_cons_zero, List.getElem_cons_succ, List.setIfInBounds_toArray, List.set_cons_zero, List.set_cons_succ]
      refine wpAnyH_take (i := 6) (v := ?_) rfl (by kernel_rfl) (by kernel_rfl) (by kernel_rfl) (fun _ _ _ h => h) (Or.inl ⟨by rfl, (by intro w hSw; go_simp; try with_reducible rfl)⟩) (by assumption) ?_
      simp only [Act.put, List.getElem_toArray, List.getElem_cons_zero, List.getElem_cons_succ, List.setIfInBounds_toArray, List.set_cons_zero, List.set_cons_succ]
      refine wpAnyH_take (i := 7) (v := ?_) rfl (by kernel_rfl) (by kernel_rfl) (by kernel_rfl) (fun _ _ _ h => h) (Or.inl ⟨by rfl, (by intro w hSw; obtain ⟨d0, d1⟩ := XC.out _ hSw; go_simp; try with_reducible rfl)⟩) (by assumption) ?_
      simp only [Act.put, List.getElem_toArray, List.getElem_cons_zero, List.getElem_cons_succ, List.setIfInBounds_toArray, List.set_cons_zero, List.set_cons_succ]
      refine wpAnyH_ready (rs := [8]) (by kernel_rfl) (by simp) ?_
      refine AllReadyH.cons rfl (fun K hK => ?_) AllReadyH.nil
      go_simp
      refine (TK.out _ _ _).mono ?_
      rintro e w8 ⟨rfl, h8⟩
      have hL := Laid.trans hHeld h8
      have c8 := (H2.out.below hL.below H2.out.inHeap).at Hpk.out
      have f8 := (H2.out.below hL.below H2.out.inHeap).free k
      have H8 : Hid (Laid wr w8) := Lib.hid hL
      have H2w := Lib.hid (H2.out.below hL.below H2.out.inHeap)
      clear h8
      refine hK.out _ _ hL (fun hHeld => ?_)
      clear hK K
      refine wpAnyH_done (by kernel_rfl) ?_ _
      refine wpAny_of_held (S := fun _ => True) _ _ _ _ ?_
      have hHeld : True := trivial
      refine wpAnyH_take (i := 9) (v := ?_) rfl (by kernel_rfl) (by kernel_rfl) (by kernel_rfl) (fun _ _ _ h => h) (Or.inl ⟨by rfl, (by intro w hSw; go_simp; try with_reducible rfl)⟩) (by assumption) ?_
      simp only [Act.put, List.getElem_toArray, List.getElem_cons_zero, List.getElem_cons_succ, List.setIfInBounds_toArray, List.set_cons_zero, List.set_cons_succ]
      refine wpAnyH_ready (rs := [10]) (by kernel_rfl) (by simp) ?_
      refine AllReadyH.cons rfl (fun K hK => ?_) AllReadyH.nil
      go_simp
      refine hK.out _ _ trivial (fun hHeld => ?_)
      clear hK K
      refine wpAnyH_done (by kernel_rfl) ?_ _
      have h2 := H2w.out.stored k (g m n)
      rw [e.out] at h2
      have H2n := Lib.hid h2
      have H1n := Lib.hid ((H1.out.below H8.out.below H1.out.inHeap).storedElsewhere (p := ⟨w.heap.size + 1, k, none⟩) (by show w.heap.size + 1 ≠ w.heap.size; omega) (.int .i64 (g m n)))
      have H3n := Lib.hid ((H3.out.trans H8.out).stored (p := ⟨w.heap.size + 1, k, none⟩) (Nat.le_succ _) (.int .i64 (g m n)))
      clear h2 c8 f8
      go_wp2_with fail
      exact ⟨⟨k + 1, by omega, rfl, H1n.out, H2n.out, H3n.out⟩, by show 65 - ((k : Int) + 1).toNat < 65 - (k : Int).toNat; omega⟩
    · obtain rfl : k = 65 := by omega
      rw [Vec.part_all _ Vec.zeros_len] at h2
      have H1 := Lib.hid h1
      have H2 := Lib.hid h2
      have H3 := Lib.hid h3
      have Hc : Hid ((Vec.zip g x y).length = 65) := Lib.hid (Vec.make_len _)
      clear h1 h2 h3
      go_wp2_with (first | refine wpList_vload (v := Vec.zip g x y) (by rfl) _ (by rfl) (by rfl) H2.out ?_ | refine wpList_vstore (by rfl) _ _ (by rfl) (by rfl) (by rfl) H1.out Hc.out ?_)
      exact bodyPost_ret (v := vecA (Vec.zip g x y)) (results_cell_row (by rfl) _ _ w.heap.size 23 _ (0, 0) _ (by rfl) (H1.out.set _ Hc.out).row Try.underlying23 rfl (vecSize Hc.out)) rfl ⟨rfl, H3.out.set (Nat.le_refl _) _⟩

set_option maxRecDepth 100000 in
set_option maxHeartbeats 1600000 in
theorem vec_joiner (w : World) {a b : List Int} (ha : a.length = 65) (hb : b.length = 65) : Calls Try.prog 28 #[vecA a, vecA b] w fun e w' => e = .returned (.func (.func 32) #[] #[.pointer (some ⟨w.heap.size, 0, none⟩), .pointer (some ⟨w.heap.size + 1, 0, none⟩)]) ∧ VRow w' w.heap.size (Vec.clean a) ∧ VRow w' (w.heap.size + 1) (Vec.clean b) ∧ Laid w w' := by
  have CA := Lib.hid (fun W => vec_clean W ha)
  have CB := Lib.hid (fun W => vec_clean W hb)
  have hla : (Vec.clean a).length = 65 := Vec.clean_len a
  have hlb : (Vec.clean b).length = 65 := Vec.clean_len b
  have r0 : VRow ((w.alloc (.cells (vecR a) 23)).alloc (.cells (vecR b) 23)) w.heap.size a := (VRow.made w ha).alloc _
  have r1 : VRow ((w.alloc (.cells (vecR a) 23)).alloc (.cells (vecR b) 23)) (w.heap.size + 1) b := by
    have := VRow.made (w.alloc (.cells (vecR a) 23)) hb
    rwa [World.size_alloc] at this
  have hL : Laid w ((w.alloc (.cells (vecR a) 23)).alloc (.cells (vecR b) 23)) := (Laid.new w _).alloc _
  have hsz : ((w.alloc (.cells (vecR a) 23)).alloc (.cells (vecR b) 23)).heap.size = w.heap.size + 1 + 1 := by simp
  have R0 := Lib.hid r0
  have R1 := Lib.hid r1
  have HL := Lib.hid hL
  have HA := Lib.hid hla
  have HB := Lib.hid hlb
  clear r0 r1 hL hla hlb ha hb hsz
  go_enter Try.func28, Try.ntmps28
  go_wp2_with fail
  generalize (w.alloc (.cells (vecR a) 23)).alloc (.cells (vecR b) 23) = W0 at *
  refine wp_region_tail (n := 4) (S := (fun w' : World => Laid W0 w')) (by kernel_rfl) (by kernel_rfl) (by rfl) ((Laid.refl W0).drew) (fun hHeld => ?_)
  refine wpAnyH_take (i := 0) (v := vecA a) rfl (by kernel_rfl) (by kernel_rfl) (by kernel_rfl) (fun _ _ _ h => h) (Or.inl ⟨by rfl, (by intro w hSw; exact exec_vload (by rfl) (by rfl) (R0.out.below (Laid.below hSw) R0.out.inHeap))⟩) (by assumption) ?_
  simp only [Act.put, List.getElem_toArray, List.getElem_cons_zero, List.getElem_cons_succ, List.setIfInBounds_toArray, List.set_cons_zero, List.set_cons_succ]
  refine wpAnyH_take (i := 2) (v := vecA b) rfl (by kernel_rfl) (by kernel_rfl) (by kernel_rfl) (fun _ _ _ h => h) (Or.inl ⟨by rfl, (by intro w hSw; exact exec_vload (by rfl) (by rfl) (R1.out.below (Laid.below hSw) R1.out.inHeap))⟩) (by assumption) ?_
  simp only [Act.put, List.getElem_toArray, List.getElem_cons_zero, List.getElem_cons_succ, List.setIfInBounds_toArray, List.set_cons_zero, List.set_cons_succ]
  refine wpAnyH_ready (rs := [1]) (by kernel_rfl) (by simp) ?_
  refine AllReadyH.cons rfl (fun K hK => ?_) AllReadyH.nil
  go_simp
  go_at_call 7
  refine (CA.out _).mono ?_
  rintro e w8 ⟨rfl, h8⟩
  have hL := Laid.trans hHeld h8
  refine hK.out _ _ hL (fun hHeld => ?_)
  clear h8 hL
  clear hK K
  refine wpAnyH_ready (rs := [3]) (by kernel_rfl) (by simp) ?_
  refine AllReadyH.cons rfl (fun K hK => ?_) AllReadyH.nil
  go_simp
  go_at_call 7
  refine (CB.out _).mono ?_
  rintro e w9 ⟨rfl, h8⟩
  have hL := Laid.trans hHeld h8
  have L9 : Hid (Laid W0 w9) := Lib.hid hL
  have Q0 := Lib.hid (R0.out.below L9.out.below R0.out.inHeap)
  have Q1 := Lib.hid ((R1.out.below L9.out.below R1.out.inHeap).setElsewhere (c := w.heap.size) (by omega) (vecR (Vec.clean a)))
  refine hK.out _ _ hL (fun hHeld => ?_)
  clear h8 hL
  clear hK K
  refine wpAnyH_done (by kernel_rfl) ?_ _
  refine wpAny_of_held (S := fun _ => True) _ _ _ _ ?_
  have hHeld : True := trivial
  refine wpAnyH_ready (rs := [4]) (by kernel_rfl) (by simp) ?_
  refine AllReadyH.cons rfl (fun K hK => ?_) AllReadyH.nil
  refine step_vstore (.tmp 2) (.tmp 6) rfl (by rfl) (by rfl) (by rfl) Q0.out HA.out ?_
  refine hK.out _ _ trivial (fun hHeld => ?_)
  clear hK K
  refine wpAnyH_ready (rs := [5]) (by kernel_rfl) (by simp) ?_
  refine AllReadyH.cons rfl (fun K hK => ?_) AllReadyH.nil
  refine step_vstore (.tmp 3) (.tmp 8) rfl (by rfl) (by rfl) (by rfl) Q1.out HB.out ?_
  have F0 := Lib.hid ((Q0.out.set _ HA.out).setElsewhere (c := w.heap.size + 1) (by omega) (vecR (Vec.clean b)))
  have F1 := Lib.hid (Q1.out.set _ HB.out)
  have F2 := Lib.hid (((HL.out.trans L9.out).set (Nat.le_refl _) (vecR (Vec.clean a))).set (b := w.heap.size + 1) (Nat.le_succ _) (vecR (Vec.clean b)))
  refine hK.out _ _ trivial (fun hHeld => ?_)
  clear hK K
  refine wpAnyH_done (by kernel_rfl) ?_ _
  go_wp2_with fail
  go_ret
  exact ⟨rfl, F0.out, F1.out, F2.out⟩

set_option maxRecDepth 100000 in
set_option maxHeartbeats 1600000 in
theorem vec_join (w : World) {a b : List Int} (ha : a.length = 65) (hb : b.length = 65) : Calls Try.prog 22 #[vecA a, vecA b] w fun e w' => e = .returned (vecA (Vec.join a b)) ∧ Laid w w' := by
  have hz := vecZero
  have JO := Lib.hid (fun W => vec_joiner W ha hb)
  have start : ∃ W, W = ((w.alloc (.cells (vecR a) 23)).alloc (.cells (vecR b) 23)).alloc (.cells (vecR Vec.zeros) 23) ∧ VRow W w.heap.size a ∧ VRow W (w.heap.size + 1) b ∧ VRow W (w.heap.size + 1 + 1) Vec.zeros ∧ Laid w W := by
    refine ⟨_, rfl, ((VRow.made w ha).alloc _).alloc _, ?_, ?_, ((Laid.new w _).alloc _).alloc _⟩
    · have := (VRow.made (w.alloc (.cells (vecR a) 23)) hb).alloc (.cells (vecR Vec.zeros) 23)
      rwa [World.size_alloc] at this
    · have := VRow.made ((w.alloc (.cells (vecR a) 23)).alloc (.cells (vecR b) 23)) (v := Vec.zeros) Vec.zeros_len
      rwa [World.size_alloc, World.size_alloc] at this
  obtain ⟨W, hW, r0, r1, r2, hL⟩ := start
  have HW := Lib.hid hW
  have R0 := Lib.hid r0
  have R1 := Lib.hid r1
  have R2 := Lib.hid r2
  have HL := Lib.hid hL
  have HJ := Lib.hid (Vec.zip_join a b)
  have Hc : Hid ((Vec.join a b).length = 65) := Lib.hid (Vec.make_len _)
  clear ha hb r0 r1 r2 hL
  go_enter Try.func22, Try.ntmps22
  go_wp2_with (first | refine wpList_vload (by rfl) _ (by rfl) (by rfl) (HW.out ▸ R0.out) ?_ | refine wpList_vload (by rfl) _ (by rfl) (by rfl) (HW.out ▸ R1.out) ?_)
  rw [← hW]
  refine (JO.out _).mono ?_
  rintro e w1 ⟨rfl, h1, h2, h3⟩
  have ZI := Lib.hid (vec_zip takes_max h1 h2)
  have S2 := Lib.hid (R2.out.below h3.below R2.out.inHeap)
  have S3 := Lib.hid (HL.out.trans h3)
  clear h1 h2 h3 hW
  go_wp2_with fail
  refine ZI.out.mono ?_
  rintro e w2 ⟨rfl, h4⟩
  rw [HJ.out]
  have S4 := Lib.hid (S2.out.below h4.below S2.out.inHeap)
  have S5 := Lib.hid (S3.out.trans h4)
  clear h4
  go_wp2_with (refine wpList_vstore (by rfl) _ _ (by rfl) (by rfl) (by rfl) S4.out Hc.out ?_)
  exact bodyPost_ret (v := vecA (Vec.join a b)) (results_cell_row (by rfl) _ _ (w.heap.size + 1 + 1) 23 _ (0, 0) _ (by rfl) (S4.out.set _ Hc.out).row Try.underlying23 rfl (vecSize Hc.out)) rfl ⟨rfl, S5.out.set (by omega) _⟩

set_option maxRecDepth 100000 in
set_option maxHeartbeats 1600000 in
theorem vec_meet (w : World) {a b : List Int} (ha : a.length = 65) (hb : b.length = 65) : Calls Try.prog 23 #[vecA a, vecA b] w fun e w' => e = .returned (vecA (Vec.meet a b)) ∧ Laid w w' := by
  have hz := vecZero
  have JO := Lib.hid (fun W => vec_joiner W ha hb)
  have start : ∃ W, W = ((w.alloc (.cells (vecR a) 23)).alloc (.cells (vecR b) 23)).alloc (.cells (vecR Vec.zeros) 23) ∧ VRow W w.heap.size a ∧ VRow W (w.heap.size + 1) b ∧ VRow W (w.heap.size + 1 + 1) Vec.zeros ∧ Laid w W := by
    refine ⟨_, rfl, ((VRow.made w ha).alloc _).alloc _, ?_, ?_, ((Laid.new w _).alloc _).alloc _⟩
    · have := (VRow.made (w.alloc (.cells (vecR a) 23)) hb).alloc (.cells (vecR Vec.zeros) 23)
      rwa [World.size_alloc] at this
    · have := VRow.made ((w.alloc (.cells (vecR a) 23)).alloc (.cells (vecR b) 23)) (v := Vec.zeros) Vec.zeros_len
      rwa [World.size_alloc, World.size_alloc] at this
  obtain ⟨W, hW, r0, r1, r2, hL⟩ := start
  have HW := Lib.hid hW
  have R0 := Lib.hid r0
  have R1 := Lib.hid r1
  have R2 := Lib.hid r2
  have HL := Lib.hid hL
  have HJ := Lib.hid (Vec.zip_meet a b)
  have Hc : Hid ((Vec.meet a b).length = 65) := Lib.hid (Vec.make_len _)
  clear ha hb r0 r1 r2 hL
  go_enter Try.func23, Try.ntmps23
  go_wp2_with (first | refine wpList_vload (by rfl) _ (by rfl) (by rfl) (HW.out ▸ R0.out) ?_ | refine wpList_vload (by rfl) _ (by rfl) (by rfl) (HW.out ▸ R1.out) ?_)
  rw [← hW]
  refine (JO.out _).mono ?_
  rintro e w1 ⟨rfl, h1, h2, h3⟩
  have ZI := Lib.hid (vec_zip takes_min h1 h2)
  have S2 := Lib.hid (R2.out.below h3.below R2.out.inHeap)
  have S3 := Lib.hid (HL.out.trans h3)
  clear h1 h2 h3 hW
  go_wp2_with fail
  refine ZI.out.mono ?_
  rintro e w2 ⟨rfl, h4⟩
  rw [HJ.out]
  have S4 := Lib.hid (S2.out.below h4.below S2.out.inHeap)
  have S5 := Lib.hid (S3.out.trans h4)
  clear h4
  go_wp2_with (refine wpList_vstore (by rfl) _ _ (by rfl) (by rfl) (by rfl) S4.out Hc.out ?_)
  exact bodyPost_ret (v := vecA (Vec.meet a b)) (results_cell_row (by rfl) _ _ (w.heap.size + 1 + 1) 23 _ (0, 0) _ (by rfl) (S4.out.set _ Hc.out).row Try.underlying23 rfl (vecSize Hc.out)) rfl ⟨rfl, S5.out.set (by omega) _⟩

end Go.Proofs.Ytlgaljlbjbfdgaa
