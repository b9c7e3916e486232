/- VecHas out of the contracts. -/
import Derived.Test.YtlgaljlbjbfdgaaVecAwk
import Derived.Test.YtlgaljlbjbfdgaaVecRef
import Derived.Test.YtlgaljlbjbfdgaaVecRfo
import Derived.Test.YtlgaljlbjbfdgaaVecEq
set_option linter.unusedSimpArgs false
set_option linter.unusedVariables false
namespace Go.Proofs.Ytlgaljlbjbfdgaa
open Go.RowKit Go.Sort

set_option maxRecDepth 100000 in
theorem Vec.ends_bd {v : List Int} (h : ∀ n ∈ v, Ver.I64 n) : ∀ y ∈ Vec.ends v, Ver.Bd y := by
  intro y hy
  obtain ⟨i, hi, hp, rfl⟩ := (Vec.ends_mem v y).1 hy
  have := Vec.at_le (v := v) (fun n hn => (h n hn).2) i
  unfold Ver.Bd Ver.I64
  simp only
  omega

set_option maxRecDepth 100000 in
set_option maxHeartbeats 3200000 in
theorem vhas_walk (Z : VecOk) {w : World} {v : List Int} (x : Ver.V) (hv : v.length = 65) (hb : ∀ n ∈ v, Ver.I64 n) (hx : Ver.Bd x) : Calls Try.prog 3 #[vecA v, verA x] w fun e w' => e = .returned (.bool true) ∧ Below w.heap.size w w' := by
  have hz := vecZero
  have AW := Lib.hid (fun W => vec_awake Z W)
  have CL := Lib.hid (fun W => Z.clean (w := W) hv)
  have EN := Lib.hid (fun W => Z.ends (w := W) hv)
  have SU := Lib.hid (fun W => Z.sum (w := W) hv)
  have HA := Lib.hid (fun W => Z.has (w := W) x hv hx)
  have RH := Lib.hid (fun W => ref_vhas W x hv)
  have RS := Lib.hid (fun W => ref_vsame13 W (Vec.clean_len v) hv)
  have RP := Lib.hid (fun W => ref_vplain W (Vec.clean_len v))
  have RE := Lib.hid (fun W => ref_vends W hv)
  have e1 : decide (Vec.Covers (Vec.clean v) v ∧ Vec.Covers v (Vec.clean v)) = true := decide_eq_true ⟨fun i _ => by rw [Vec.at_clean]; exact Int.le_refl _, fun i _ => by rw [Vec.at_clean]; exact Int.le_refl _⟩
  have e2 : decide (Vec.Plain (Vec.clean v)) = true := decide_eq_true (Vec.clean_plain v)
  rw [e1] at RS
  rw [e2] at RP
  have len : (Vec.ends v).length ≤ 65 := Vec.endsK_len v 65
  have SA : Hid (∀ (W : World) (F G : Nat → Prop) (s t : Value), Vrs W F s (Vec.ends v) → Vrs W G t (Vec.ends v) → Calls Try.prog 14 #[s, t] W fun e w' => e = .returned (.bool true) ∧ Below W.heap.size W w') := Lib.hid (fun W F G s t h k => by
    have := ref_vsame h k (by omega) (by omega)
    rwa [decide_eq_true rfl] at this)
  have OF : Hid (∀ (W : World) (F : Nat → Prop) (s : Value), Vrs W F s (Vec.ends v) → Calls Try.prog 17 #[s] W fun e w' => e = .returned (vecA (Vec.clean v)) ∧ Laid W w') := Lib.hid (fun W F s h => by
    rw [← Vec.ofl_ends v]
    exact Z.ofl h (by omega) (Vec.ends_bd hb))
  have hE : ∀ W, (Op.equalIn 10000 23 (vecA (Vec.clean v)) (vecA (Vec.clean v))).run Try.prog W = .ok true W := fun W => by
    have := vec_eq (Vec.clean_len v) (Vec.clean_len v) W
    rwa [decide_eq_true rfl] at this
  have HC := Lib.hid (Vec.clean_len v)
  have start : ∃ W, W = (w.alloc (.cells (vecR v) 23)).alloc (.cells #[.int .i64 x.by_, .int .i64 x.n] 25) ∧ VRow W w.heap.size v ∧ Row W (w.heap.size + 1) 25 #[.int .i64 x.by_, .int .i64 x.n] ∧ Laid w W := by
    refine ⟨_, rfl, (VRow.made w hv).alloc _, ?_, (Laid.new w _).alloc _⟩
    have := Row.made (w.alloc (.cells (vecR v) 23)) 25 #[.int .i64 x.by_, .int .i64 x.n]
    rwa [World.size_alloc] at this
  obtain ⟨W, hW, r0, r1, hL⟩ := start
  have HW := Lib.hid hW
  have R0 := Lib.hid r0
  have R1 := Lib.hid r1
  have HL := Lib.hid hL
  have Hlen := Lib.hid len
  generalize Vec.ends v = E at *
  generalize decide (Vec.Has v x) = r at *
  generalize Vec.clean v = C at *
  obtain ⟨x1, x2⟩ := x
  simp only at HA RH hW HW R1
  clear hv hb hx e1 e2 r0 r1 hL len
  go_enter Try.func3, Try.ntmps3
  go_wp2_with (refine wpList_vload (by rfl) _ (by rfl) (by rfl) (HW.out ▸ R0.out) ?_)
  rw [← hW]
  refine (CL.out _).mono ?_
  rintro e w1 ⟨rfl, h1⟩
  have S0 := Lib.hid ((R0.out.below h1.below R0.out.inHeap).alloc (.cells (vecR Vec.zeros) 23))
  have S0' := Lib.hid (S0.out.setElsewhere (c := w1.heap.size) (by have := (R0.out.below h1.below R0.out.inHeap).inHeap; omega) (vecR C))
  have S1' := Lib.hid (row_setElsewhere ((R1.out.below h1.below R1.out.inHeap).behindNew (.cells (vecR Vec.zeros) 23)) (c := w1.heap.size) (by have := (R1.out.below h1.below R1.out.inHeap).inHeap; omega) (vecR C))
  have T1 := Lib.hid (VRow.made w1 Vec.zeros_len)
  have T2 := Lib.hid (T1.out.set C HC.out)
  have L2 := Lib.hid (((HL.out.trans h1).alloc (.cells (vecR Vec.zeros) 23)).set (b := w1.heap.size) (HL.out.trans h1).size (vecR C)).below
  clear h1 hW
  go_wp2_with (first | refine wpList_vstore (by rfl) _ _ (by rfl) (by rfl) (by rfl) T1.out HC.out ?_ | refine wpList_vload (by rfl) _ (by rfl) (by rfl) S0'.out ?_)
  refine (EN.out _).mono ?_
  rintro e w3 ⟨s, rfl, h3, h4⟩
  obtain ⟨A, cap, rfl, hc⟩ := h3.parts
  have U0 := Lib.hid (S0'.out.below h4 S0'.out.inHeap)
  have U1 := Lib.hid (S1'.out.below h4 S1'.out.inHeap)
  have U2 := Lib.hid (T2.out.below h4 T2.out.inHeap)
  have U3 := Lib.hid h3
  have L3 := Lib.hid (L2.out.trans (h4.mono L2.out.size))
  have XC := Lib.hid (fun w' (h : InB w3 w') => show w'.cell? ⟨w.heap.size + 1, 0, none⟩ = some (.int .i64 x1) ∧ w'.cell? ⟨w.heap.size + 1, 1, none⟩ = some (.int .i64 x2) from by
    have := U1.out.below h.below U1.out.inHeap
    exact ⟨this.at 0, this.at 1⟩)
  clear h3 h4
  generalize w1.heap.size = g at *
  go_wp2_with fail
  refine wp_region_held_drew (S := (fun w' : World => InB w3 w')) (by kernel_rfl) ((InB.refl w3).drew) (fun hHeld => ?_)
  refine wpAnyH_ready (rs := [0]) (by kernel_rfl) (by simp) ?_
  refine AllReadyH.cons rfl (fun K hK => ?_) AllReadyH.nil
  go_simp
  go_at_call 9
  refine (AW.out _).mono ?_
  rintro e w10 ⟨rfl, h8⟩
  have hL := InB.trans hHeld (h8)
  refine hK.out _ _ hL (fun hHeld => ?_)
  clear h8 hL
  clear hK K
  refine wpAnyH_take (i := 1) (v := ?_) rfl (by kernel_rfl) (by kernel_rfl) (by kernel_rfl) (fun _ _ _ h => h) (Or.inl ⟨by rfl, (by intro w hSw; go_simp; try with_reducible rfl)⟩) (by assumption) ?_
  simp only [Act.put, List.getElem_toArray, List.getElem_cons_zero, List.getElem_cons_succ, List.setIfInBounds_toArray, List.set_cons_zero, List.set_cons_succ]
  refine wpAnyH_take (i := 2) (v := vecA v) rfl (by kernel_rfl) (by kernel_rfl) (by kernel_rfl) (fun _ _ _ h => h) (Or.inl ⟨by rfl, (by intro w hSw; exact exec_vload (by rfl) (by rfl) (U0.out.inB hSw))⟩) (by assumption) ?_
  simp only [Act.put, List.getElem_toArray, List.getElem_cons_zero, List.getElem_cons_succ, List.setIfInBounds_toArray, List.set_cons_zero, List.set_cons_succ]
  refine wpAnyH_take (i := 3) (v := ?_) rfl (by kernel_rfl) (by kernel_rfl) (by kernel_rfl) (fun _ _ _ h => h) (Or.inl ⟨by rfl, (by intro w hSw; have hXC := XC.out _ hSw; go_simp; try with_reducible rfl)⟩) (by assumption) ?_
  simp only [Act.put, List.getElem_toArray, List.getElem_cons_zero, List.getElem_cons_succ, List.setIfInBounds_toArray, List.set_cons_zero, List.set_cons_succ]
  refine wpAnyH_take (i := 5) (v := vecA v) rfl (by kernel_rfl) (by kernel_rfl) (by kernel_rfl) (fun _ _ _ h => h) (Or.inl ⟨by rfl, (by intro w hSw; exact exec_vload (by rfl) (by rfl) (U0.out.inB hSw))⟩) (by assumption) ?_
  simp only [Act.put, List.getElem_toArray, List.getElem_cons_zero, List.getElem_cons_succ, List.setIfInBounds_toArray, List.set_cons_zero, List.set_cons_succ]
  refine wpAnyH_take (i := 6) (v := ?_) rfl (by kernel_rfl) (by kernel_rfl) (by kernel_rfl) (fun _ _ _ h => h) (Or.inl ⟨by rfl, (by intro w hSw; have hXC := XC.out _ hSw; go_simp; try with_reducible rfl)⟩) (by assumption) ?_
  simp only [Act.put, List.getElem_toArray, List.getElem_cons_zero, List.getElem_cons_succ, List.setIfInBounds_toArray, List.set_cons_zero, List.set_cons_succ]
  refine wpAnyH_ready (rs := [4]) (by kernel_rfl) (by simp) ?_
  refine AllReadyH.cons rfl (fun K hK => ?_) AllReadyH.nil
  go_simp
  go_at_call 10
  refine (HA.out _).mono ?_
  rintro e w11 ⟨rfl, h8⟩
  have hL := InB.trans hHeld (h8.below)
  refine hK.out _ _ hL (fun hHeld => ?_)
  clear h8 hL
  clear hK K
  refine wpAnyH_ready (rs := [7]) (by kernel_rfl) (by simp) ?_
  refine AllReadyH.cons rfl (fun K hK => ?_) AllReadyH.nil
  go_simp
  go_at_call 11
  refine (RH.out _).mono ?_
  rintro e w12 ⟨rfl, h8⟩
  have hL := InB.trans hHeld (h8)
  refine hK.out _ _ hL (fun hHeld => ?_)
  clear h8 hL
  clear hK K
  refine wpAnyH_take (i := 8) (v := ?_) rfl (by kernel_rfl) (by kernel_rfl) (by kernel_rfl) (fun _ _ _ h => h) (Or.inl ⟨by rfl, (by intro w hSw; go_simp; try with_reducible rfl)⟩) (by assumption) ?_
  simp only [Act.put, List.getElem_toArray, List.getElem_cons_zero, List.getElem_cons_succ, List.setIfInBounds_toArray, List.set_cons_zero, List.set_cons_succ]
  refine wpAnyH_take (i := 9) (v := ?_) rfl (by kernel_rfl) (by kernel_rfl) (by kernel_rfl) (fun _ _ _ h => h) (Or.inl ⟨by rfl, (by intro w hSw; go_simp; try with_reducible rfl)⟩) (by assumption) ?_
  simp only [Act.put, List.getElem_toArray, List.getElem_cons_zero, List.getElem_cons_succ, List.setIfInBounds_toArray, List.set_cons_zero, List.set_cons_succ]
  refine wpAnyH_take (i := 10) (v := ?_) rfl (by kernel_rfl) (by kernel_rfl) (by kernel_rfl) (fun _ _ _ h => h) (Or.inl ⟨by rfl, (by intro w hSw; go_simp; try with_reducible rfl)⟩) (by assumption) ?_
  simp only [Act.put, List.getElem_toArray, List.getElem_cons_zero, List.getElem_cons_succ, List.setIfInBounds_toArray, List.set_cons_zero, List.set_cons_succ]
  refine wpAnyH_take (i := 11) (v := vecA C) rfl (by kernel_rfl) (by kernel_rfl) (by kernel_rfl) (fun _ _ _ h => h) (Or.inl ⟨by rfl, (by intro w hSw; exact exec_vload (by rfl) (by rfl) (U2.out.inB hSw))⟩) (by assumption) ?_
  simp only [Act.put, List.getElem_toArray, List.getElem_cons_zero, List.getElem_cons_succ, List.setIfInBounds_toArray, List.set_cons_zero, List.set_cons_succ]
  refine wpAnyH_take (i := 12) (v := vecA v) rfl (by kernel_rfl) (by kernel_rfl) (by kernel_rfl) (fun _ _ _ h => h) (Or.inl ⟨by rfl, (by intro w hSw; exact exec_vload (by rfl) (by rfl) (U0.out.inB hSw))⟩) (by assumption) ?_
  simp only [Act.put, List.getElem_toArray, List.getElem_cons_zero, List.getElem_cons_succ, List.setIfInBounds_toArray, List.set_cons_zero, List.set_cons_succ]
  refine wpAnyH_ready (rs := [13]) (by kernel_rfl) (by simp) ?_
  refine AllReadyH.cons rfl (fun K hK => ?_) AllReadyH.nil
  go_simp
  go_at_call 12
  refine (RS.out _).mono ?_
  rintro e w13 ⟨rfl, h8⟩
  have hL := InB.trans hHeld (h8)
  refine hK.out _ _ hL (fun hHeld => ?_)
  clear h8 hL
  clear hK K
  refine wpAnyH_take (i := 14) (v := ?_) rfl (by kernel_rfl) (by kernel_rfl) (by kernel_rfl) (fun _ _ _ h => h) (Or.inl ⟨by rfl, (by intro w hSw; go_simp; try with_reducible rfl)⟩) (by assumption) ?_
  simp only [Act.put, List.getElem_toArray, List.getElem_cons_zero, List.getElem_cons_succ, List.setIfInBounds_toArray, List.set_cons_zero, List.set_cons_succ]
  refine wpAnyH_take (i := 15) (v := ?_) rfl (by kernel_rfl) (by kernel_rfl) (by kernel_rfl) (fun _ _ _ h => h) (Or.inl ⟨by rfl, (by intro w hSw; go_simp; try with_reducible rfl)⟩) (by assumption) ?_
  simp only [Act.put, List.getElem_toArray, List.getElem_cons_zero, List.getElem_cons_succ, List.setIfInBounds_toArray, List.set_cons_zero, List.set_cons_succ]
  refine wpAnyH_take (i := 16) (v := vecA C) rfl (by kernel_rfl) (by kernel_rfl) (by kernel_rfl) (fun _ _ _ h => h) (Or.inl ⟨by rfl, (by intro w hSw; exact exec_vload (by rfl) (by rfl) (U2.out.inB hSw))⟩) (by assumption) ?_
  simp only [Act.put, List.getElem_toArray, List.getElem_cons_zero, List.getElem_cons_succ, List.setIfInBounds_toArray, List.set_cons_zero, List.set_cons_succ]
  refine wpAnyH_ready (rs := [17]) (by kernel_rfl) (by simp) ?_
  refine AllReadyH.cons rfl (fun K hK => ?_) AllReadyH.nil
  go_simp
  go_at_call 13
  refine (RP.out _).mono ?_
  rintro e w14 ⟨rfl, h8⟩
  have hL := InB.trans hHeld (h8)
  refine hK.out _ _ hL (fun hHeld => ?_)
  clear h8 hL
  clear hK K
  refine wpAnyH_take (i := 18) (v := ?_) rfl (by kernel_rfl) (by kernel_rfl) (by kernel_rfl) (fun _ _ _ h => h) (Or.inl ⟨by rfl, (by intro w hSw; go_simp; try with_reducible rfl)⟩) (by assumption) ?_
  simp only [Act.put, List.getElem_toArray, List.getElem_cons_zero, List.getElem_cons_succ, List.setIfInBounds_toArray, List.set_cons_zero, List.set_cons_succ]
  refine wpAnyH_take (i := 19) (v := ?_) rfl (by kernel_rfl) (by kernel_rfl) (by kernel_rfl) (fun _ _ _ h => h) (Or.inl ⟨by rfl, (by intro w hSw; go_simp; try with_reducible rfl)⟩) (by assumption) ?_
  simp only [Act.put, List.getElem_toArray, List.getElem_cons_zero, List.getElem_cons_succ, List.setIfInBounds_toArray, List.set_cons_zero, List.set_cons_succ]
  refine wpAnyH_take (i := 20) (v := ?_) rfl (by kernel_rfl) (by kernel_rfl) (by kernel_rfl) (fun _ _ _ h => h) (Or.inl ⟨by rfl, (by intro w hSw; go_simp; try with_reducible rfl)⟩) (by assumption) ?_
  simp only [Act.put, List.getElem_toArray, List.getElem_cons_zero, List.getElem_cons_succ, List.setIfInBounds_toArray, List.set_cons_zero, List.set_cons_succ]
  refine wpAnyH_take (i := 21) (v := vecA v) rfl (by kernel_rfl) (by kernel_rfl) (by kernel_rfl) (fun _ _ _ h => h) (Or.inl ⟨by rfl, (by intro w hSw; exact exec_vload (by rfl) (by rfl) (U0.out.inB hSw))⟩) (by assumption) ?_
  simp only [Act.put, List.getElem_toArray, List.getElem_cons_zero, List.getElem_cons_succ, List.setIfInBounds_toArray, List.set_cons_zero, List.set_cons_succ]
  refine wpAnyH_ready (rs := [22]) (by kernel_rfl) (by simp) ?_
  refine AllReadyH.cons rfl (fun K hK => ?_) AllReadyH.nil
  go_simp
  go_at_call 15
  refine (RE.out _).mono ?_
  rintro e w15 ⟨s15, rfl, h8⟩
  have hL := InB.trans hHeld h8.2
  have E15 := Lib.hid (h8.rows (fun _ _ => rfl))
  have U15 := Lib.hid (Rws.below U3.out hL.below)
  refine hK.out _ _ hL (fun hHeld => ?_)
  clear h8 hL
  clear hK K
  refine wpAnyH_ready (rs := [23]) (by kernel_rfl) (by simp) ?_
  refine AllReadyH.cons rfl (fun K hK => ?_) AllReadyH.nil
  go_simp
  go_at_call 14
  refine (SA.out _ _ _ _ _ U15.out E15.out).mono ?_
  rintro e w16 ⟨rfl, h8⟩
  have hL := InB.trans hHeld (h8)
  refine hK.out _ _ hL (fun hHeld => ?_)
  clear h8 hL
  clear hK K
  refine wpAnyH_take (i := 24) (v := ?_) rfl (by kernel_rfl) (by kernel_rfl) (by kernel_rfl) (fun _ _ _ h => h) (Or.inl ⟨by rfl, (by intro w hSw; go_simp; try with_reducible rfl)⟩) (by assumption) ?_
  simp only [Act.put, List.getElem_toArray, List.getElem_cons_zero, List.getElem_cons_succ, List.setIfInBounds_toArray, List.set_cons_zero, List.set_cons_succ]
  refine wpAnyH_take (i := 25) (v := ?_) rfl (by kernel_rfl) (by kernel_rfl) (by kernel_rfl) (fun _ _ _ h => h) (Or.inl ⟨by rfl, (by intro w hSw; go_simp; try with_reducible rfl)⟩) (by assumption) ?_
  simp only [Act.put, List.getElem_toArray, List.getElem_cons_zero, List.getElem_cons_succ, List.setIfInBounds_toArray, List.set_cons_zero, List.set_cons_succ]
  refine wpAnyH_take (i := 26) (v := vecA v) rfl (by kernel_rfl) (by kernel_rfl) (by kernel_rfl) (fun _ _ _ h => h) (Or.inl ⟨by rfl, (by intro w hSw; exact exec_vload (by rfl) (by rfl) (U0.out.inB hSw))⟩) (by assumption) ?_
  simp only [Act.put, List.getElem_toArray, List.getElem_cons_zero, List.getElem_cons_succ, List.setIfInBounds_toArray, List.set_cons_zero, List.set_cons_succ]
  refine wpAnyH_take (i := 28) (v := ?_) rfl (by kernel_rfl) (by kernel_rfl) (by kernel_rfl) (fun _ _ _ h => h) (Or.inl ⟨by rfl, (by intro w hSw; go_simp; try with_reducible rfl)⟩) (by assumption) ?_
  simp only [Act.put, List.getElem_toArray, List.getElem_cons_zero, List.getElem_cons_succ, List.setIfInBounds_toArray, List.set_cons_zero, List.set_cons_succ]
  refine wpAnyH_take (i := 29) (v := ?_) rfl (by kernel_rfl) (by kernel_rfl) (by kernel_rfl) (fun _ _ _ h => h) (Or.inl ⟨by rfl, (by intro w hSw; go_simp; try with_reducible rfl)⟩) (by assumption) ?_
  simp only [Act.put, List.getElem_toArray, List.getElem_cons_zero, List.getElem_cons_succ, List.setIfInBounds_toArray, List.set_cons_zero, List.set_cons_succ]
  refine wpAnyH_ready (rs := [27]) (by kernel_rfl) (by simp) ?_
  refine AllReadyH.cons rfl (fun K hK => ?_) AllReadyH.nil
  go_simp
  go_at_call 16
  refine (SU.out _).mono ?_
  rintro e w17 ⟨rfl, h8⟩
  have hL := InB.trans hHeld (h8)
  refine hK.out _ _ hL (fun hHeld => ?_)
  clear h8 hL
  clear hK K
  refine wpAnyH_take (i := 30) (v := ?_) rfl (by kernel_rfl) (by kernel_rfl) (by kernel_rfl) (fun _ _ _ h => h) (Or.inl ⟨by rfl, (by intro w hSw; go_simp; try with_reducible rfl)⟩) (by assumption) ?_
  simp only [Act.put, List.getElem_toArray, List.getElem_cons_zero, List.getElem_cons_succ, List.setIfInBounds_toArray, List.set_cons_zero, List.set_cons_succ]
  refine wpAnyH_take (i := 31) (v := ?_) rfl (by kernel_rfl) (by kernel_rfl) (by kernel_rfl) (fun _ _ _ h => h) (Or.inl ⟨by rfl, (by intro w hSw; go_simp; try with_reducible rfl)⟩) (by assumption) ?_
  simp only [Act.put, List.getElem_toArray, List.getElem_cons_zero, List.getElem_cons_succ, List.setIfInBounds_toArray, List.set_cons_zero, List.set_cons_succ]
  refine wpAnyH_take (i := 32) (v := ?_) rfl (by kernel_rfl) (by kernel_rfl) (by kernel_rfl) (fun _ _ _ h => h) (Or.inl ⟨by rfl, (by intro w hSw; go_simp; try with_reducible rfl)⟩) (by assumption) ?_
  simp only [Act.put, List.getElem_toArray, List.getElem_cons_zero, List.getElem_cons_succ, List.setIfInBounds_toArray, List.set_cons_zero, List.set_cons_succ]
  refine wpAnyH_take (i := 33) (v := ?_) rfl (by kernel_rfl) (by kernel_rfl) (by kernel_rfl) (fun _ _ _ h => h) (Or.inl ⟨by rfl, (by intro w hSw; go_simp; try with_reducible rfl)⟩) (by assumption) ?_
  simp only [Act.put, List.getElem_toArray, List.getElem_cons_zero, List.getElem_cons_succ, List.setIfInBounds_toArray, List.set_cons_zero, List.set_cons_succ]
  refine wpAnyH_take (i := 35) (v := vecA C) rfl (by kernel_rfl) (by kernel_rfl) (by kernel_rfl) (fun _ _ _ h => h) (Or.inl ⟨by rfl, (by intro w hSw; exact exec_vload (by rfl) (by rfl) (U2.out.inB hSw))⟩) (by assumption) ?_
  simp only [Act.put, List.getElem_toArray, List.getElem_cons_zero, List.getElem_cons_succ, List.setIfInBounds_toArray, List.set_cons_zero, List.set_cons_succ]
  refine wpAnyH_ready (rs := [34]) (by kernel_rfl) (by simp) ?_
  refine AllReadyH.cons rfl (fun K hK => ?_) AllReadyH.nil
  go_simp
  go_at_call 17
  refine (OF.out _ _ _ (Rws.below U3.out hHeld.below)).mono ?_
  rintro e w18 ⟨rfl, h8⟩
  have hL := InB.trans hHeld (h8.below)
  have F2 := Lib.hid hL
  refine hK.out _ _ hL (fun hHeld => ?_)
  clear h8 hL
  clear hK K
  refine wpAnyH_take (i := 36) (v := ?_) rfl (by kernel_rfl) (by kernel_rfl) (by kernel_rfl) (fun _ _ _ h => h) (Or.inl ⟨by rfl, (by intro w hSw; go_simp; try with_reducible rfl)⟩) (by assumption) ?_
  simp only [Act.put, List.getElem_toArray, List.getElem_cons_zero, List.getElem_cons_succ, List.setIfInBounds_toArray, List.set_cons_zero, List.set_cons_succ]
  refine wpAnyH_take (i := 37) (v := ?_) rfl (by kernel_rfl) (by kernel_rfl) (by kernel_rfl) (fun _ _ _ h => h) (Or.inl ⟨by rfl, (by intro w hSw; go_simp; try with_reducible rfl)⟩) (by assumption) ?_
  simp only [Act.put, List.getElem_toArray, List.getElem_cons_zero, List.getElem_cons_succ, List.setIfInBounds_toArray, List.set_cons_zero, List.set_cons_succ]
  refine wpAnyH_take (i := 38) (v := ?_) rfl (by kernel_rfl) (by kernel_rfl) (by kernel_rfl) (fun _ _ _ h => h) (Or.inl ⟨by rfl, (by intro w hSw; go_simp; try with_reducible rfl)⟩) (by assumption) ?_
  simp only [Act.put, List.getElem_toArray, List.getElem_cons_zero, List.getElem_cons_succ, List.setIfInBounds_toArray, List.set_cons_zero, List.set_cons_succ]
  refine wpAnyH_done (by kernel_rfl) ?_ _
  have LQ := Lib.hid (L3.out.trans (F2.out.below.mono L3.out.size))
  go_wp2_with fail
  go_ret
  exact ⟨rfl, LQ.out⟩
end Go.Proofs.Ytlgaljlbjbfdgaa
