/- VecTwo out of the contracts. -/
import Derived.Test.YtlgaljlbjbfdgaaVecAwk
import Derived.Test.YtlgaljlbjbfdgaaVecRef
import Derived.Test.YtlgaljlbjbfdgaaVecEq
set_option linter.unusedSimpArgs false
set_option linter.unusedVariables false
namespace Go.Proofs.Ytlgaljlbjbfdgaa
open Go.RowKit Go.Sort

set_option maxRecDepth 100000 in
set_option maxHeartbeats 12800000 in
theorem vtwo_walk (Z : VecOk) {w : World} {a b : List Int} (x : Ver.V) (ha : a.length = 65) (hb : b.length = 65) (hx : Ver.Bd x) : Calls Try.prog 5 #[vecA a, vecA b, verA x] w fun e w' => e = .returned (.bool true) ∧ Below w.heap.size w w' := by
  have mixed : Try.prog.follows .mixedOrders = true := by kernel_rfl
  have hz := vecZero
  have hlj : (Vec.join a b).length = 65 := Vec.make_len _
  have hlm : (Vec.meet a b).length = 65 := Vec.make_len _
  have AW := Lib.hid (fun W => vec_awake Z W)
  have JO := Lib.hid (fun W => Z.join (w := W) ha hb)
  have ME := Lib.hid (fun W => Z.meet (w := W) ha hb)
  have JB := Lib.hid (fun W => Z.join (w := W) hb ha)
  have MB := Lib.hid (fun W => Z.meet (w := W) hb ha)
  rw [Vec.join_comm b a] at JB
  rw [Vec.meet_comm b a] at MB
  have RA := Lib.hid (fun W => ref_vhas W x ha)
  have RB := Lib.hid (fun W => ref_vhas W x hb)
  have HJ := Lib.hid (fun W => Z.has (w := W) x hlj hx)
  have HM := Lib.hid (fun W => Z.has (w := W) x hlm hx)
  have PJ := Lib.hid (fun W => ref_vplain W hlj)
  have PM := Lib.hid (fun W => ref_vplain W hlm)
  have e1 : decide (Vec.Plain (Vec.join a b)) = true := decide_eq_true (Vec.join_plain a b)
  have e2 : decide (Vec.Plain (Vec.meet a b)) = true := decide_eq_true (Vec.meet_plain a b)
  rw [e1] at PJ
  rw [e2] at PM
  have e3 : decide (Vec.Has (Vec.join a b) x) = (decide (Vec.Has a x) || decide (Vec.Has b x)) := by rw [Bool.eq_iff_iff]; simp [Vec.has_join]
  have e4 : decide (Vec.Has (Vec.meet a b) x) = (decide (Vec.Has a x) && decide (Vec.Has b x)) := by rw [Bool.eq_iff_iff]; simp [Vec.has_meet]
  have hE1 : ∀ W, (Op.equalIn 10000 23 (vecA (Vec.join a b)) (vecA (Vec.join a b))).run Try.prog W = .ok true W := fun W => by
    have := vec_eq hlj hlj W
    rwa [decide_eq_true rfl] at this
  have hE2 : ∀ W, (Op.equalIn 10000 23 (vecA (Vec.meet a b)) (vecA (Vec.meet a b))).run Try.prog W = .ok true W := fun W => by
    have := vec_eq hlm hlm W
    rwa [decide_eq_true rfl] at this
  have hcase : ∃ p q rj rm, p = decide (Vec.Has a x) ∧ q = decide (Vec.Has b x) ∧ rj = decide (Vec.Has (Vec.join a b) x) ∧ rm = decide (Vec.Has (Vec.meet a b) x) ∧ ((p = true ∧ rj = true ∧ rm = q) ∨ (p = false ∧ rj = q ∧ rm = false)) := by
    refine ⟨_, _, _, _, rfl, rfl, rfl, rfl, ?_⟩
    rw [e3, e4]
    cases decide (Vec.Has a x) <;> simp
  obtain ⟨p, q, rj, rm, hp, hq, hrj, hrm, hcase⟩ := hcase
  rw [← hp] at RA
  rw [← hq] at RB
  rw [← hrj] at HJ
  rw [← hrm] at HM
  have hcase := Lib.hid hcase
  clear hp hq hrj hrm e1 e2 e3 e4
  have start : ∃ W, W = ((w.alloc (.cells (vecR a) 23)).alloc (.cells (vecR b) 23)).alloc (.cells #[.int .i64 x.by_, .int .i64 x.n] 25) ∧ VRow W w.heap.size a ∧ VRow W (w.heap.size + 1) b ∧ Row W (w.heap.size + 1 + 1) 25 #[.int .i64 x.by_, .int .i64 x.n] ∧ Laid w W := by
    refine ⟨_, rfl, ((VRow.made w ha).alloc _).alloc _, ?_, ?_, ((Laid.new w _).alloc _).alloc _⟩
    · have := (VRow.made (w.alloc (.cells (vecR a) 23)) hb).alloc (.cells #[.int .i64 x.by_, .int .i64 x.n] 25)
      rwa [World.size_alloc] at this
    · have := Row.made ((w.alloc (.cells (vecR a) 23)).alloc (.cells (vecR b) 23)) 25 #[.int .i64 x.by_, .int .i64 x.n]
      rwa [World.size_alloc, World.size_alloc] at this
  obtain ⟨W0, hW, r0, r1, r2, hL⟩ := start
  have R0 := Lib.hid r0
  have R1 := Lib.hid r1
  have R2 := Lib.hid r2
  have HL := Lib.hid hL
  have LJ := Lib.hid hlj
  have LM := Lib.hid hlm
  generalize Vec.join a b = J at *
  generalize Vec.meet a b = M at *
  obtain ⟨x1, x2⟩ := x
  simp only at RA RB HJ HM hW R2
  clear ha hb hx r0 r1 r2 hL hlj hlm
  go_enter Try.func5, Try.ntmps5
  go_wp2_with fail
  rw [← hW]
  clear hW
  rename_i KK hKK
  have tail : ∀ (g7 g8 : Nat) (wS : World), Laid W0 wS → VRow wS g7 J → VRow wS g8 M → KK ⟨#[vecA a, vecA b, verA ⟨x1, x2⟩, .pointer (some ⟨w.heap.size, 0, none⟩), .pointer (some ⟨w.heap.size + 1, 0, none⟩), .pointer (some ⟨w.heap.size + 1 + 1, 0, none⟩), .bool false, .pointer (some ⟨g7, 0, none⟩), .pointer (some ⟨g8, 0, none⟩), undef, undef, vecA a, vecA b, vecA J, vecA a, vecA b, vecA M, undef, undef, undef, undef, undef, undef, undef, undef, undef, undef, undef, undef, undef, undef, undef, undef, undef, undef, undef, undef, undef, undef, undef, undef, undef, undef, undef, undef, undef, undef, undef, undef, undef, undef, undef, undef, undef, undef, undef, undef, undef, undef, undef, undef, undef, undef, undef, undef, undef], []⟩ wS := by
    intro g7 g8 wS h1 h2 h3
    refine hKK _ _ ?_
    have V7 := Lib.hid (fun w' (h : InB wS w') => h2.inB h)
    have V8 := Lib.hid (fun w' (h : InB wS w') => h3.inB h)
    have V3 := Lib.hid (fun w' (h : InB wS w') => (R0.out.below h1.below R0.out.inHeap).inB h)
    have V4 := Lib.hid (fun w' (h : InB wS w') => (R1.out.below h1.below R1.out.inHeap).inB h)
    have XC := Lib.hid (fun w' (h : InB wS w') => show w'.cell? ⟨w.heap.size + 1 + 1, 0, none⟩ = some (.int .i64 x1) ∧ w'.cell? ⟨w.heap.size + 1 + 1, 1, none⟩ = some (.int .i64 x2) from by
      have h4 := R2.out.below h1.below R2.out.inHeap
      have := h4.below h.below h4.inHeap
      exact ⟨this.at 0, this.at 1⟩)
    have LS := Lib.hid (HL.out.trans h1).below
    clear h1 h2 h3 hKK
    go_wp2_with fail
    refine wp_region_below (by assumption) (by kernel_rfl) ?_
    repeat ((first
      | (refine wq_skip (by rfl) ?_)
      | (refine wq_vload (by kernel_rfl) _ (by rfl) (by rfl) V3.out ?_)
      | (refine wq_vload (by kernel_rfl) _ (by rfl) (by rfl) V4.out ?_)
      | (refine wq_take (v := ?_) (by kernel_rfl) (by intro w hSw; have hXC := XC.out w hSw; go_simp; first | done | with_reducible rfl) ?_)
      | (refine wq_call (by kernel_rfl) ?hent (fun w hSw => inB_calls hSw (RA.out w)) ?_; (case hent => (intro w hSw; go_simp; done)))
      | (refine wq_call (by kernel_rfl) ?hent (fun w hSw => inB_calls hSw (RB.out w)) ?_; (case hent => (intro w hSw; go_simp; done)))); (try simp only [Act.put, List.getElem_toArray, List.getElem_cons_zero, List.getElem_cons_succ, List.setIfInBounds_toArray, List.set_cons_zero, List.set_cons_succ]))
    refine wq_nil ?_
    intro wq hq
    have V7 := Lib.hid (fun w' (h : InB wq w') => V7.out w' (hq.trans h.below))
    have V8 := Lib.hid (fun w' (h : InB wq w') => V8.out w' (hq.trans h.below))
    have V3 := Lib.hid (fun w' (h : InB wq w') => V3.out w' (hq.trans h.below))
    have V4 := Lib.hid (fun w' (h : InB wq w') => V4.out w' (hq.trans h.below))
    have XC := Lib.hid (fun w' (h : InB wq w') => XC.out w' (hq.trans h.below))
    have LS := Lib.hid (LS.out.trans (hq.below.mono LS.out.size))
    clear hq
    have hcase := hcase.out
    rcases hcase with ⟨rfl, rfl, rfl⟩ | ⟨rfl, rfl, rfl⟩
    all_goals
      go_wp2_with fail
      refine wp_region_below (by assumption) (by kernel_rfl) ?_
      repeat ((first
        | (refine wq_skip (by rfl) ?_)
        | (refine wq_vload (by kernel_rfl) _ (by rfl) (by rfl) V7.out ?_)
        | (refine wq_vload (by kernel_rfl) _ (by rfl) (by rfl) V8.out ?_)
        | (refine wq_vload (by kernel_rfl) _ (by rfl) (by rfl) V3.out ?_)
        | (refine wq_vload (by kernel_rfl) _ (by rfl) (by rfl) V4.out ?_)
        | (refine wq_take (v := ?_) (by kernel_rfl) (by intro w hSw; have hXC := XC.out w hSw; go_simp; first | done | with_reducible rfl) ?_)
        | (refine wq_call (by kernel_rfl) ?hent (fun w hSw => inB_laid hSw (HJ.out w)) ?_; (case hent => (intro w hSw; go_simp; done)))
        | (refine wq_call (by kernel_rfl) ?hent (fun w hSw => inB_laid hSw (HM.out w)) ?_; (case hent => (intro w hSw; go_simp; done)))
        | (refine wq_call (by kernel_rfl) ?hent (fun w hSw => inB_laid hSw (JB.out w)) ?_; (case hent => (intro w hSw; go_simp; done)))
        | (refine wq_call (by kernel_rfl) ?hent (fun w hSw => inB_laid hSw (MB.out w)) ?_; (case hent => (intro w hSw; go_simp; done)))
        | (refine wq_call (by kernel_rfl) ?hent (fun w hSw => inB_calls hSw (AW.out w)) ?_; (case hent => (intro w hSw; go_simp; done)))
        | (refine wq_call (by kernel_rfl) ?hent (fun w hSw => inB_calls hSw (PJ.out w)) ?_; (case hent => (intro w hSw; go_simp; done)))
        | (refine wq_call (by kernel_rfl) ?hent (fun w hSw => inB_calls hSw (PM.out w)) ?_; (case hent => (intro w hSw; go_simp; done)))); (try simp only [Act.put, List.getElem_toArray, List.getElem_cons_zero, List.getElem_cons_succ, List.setIfInBounds_toArray, List.set_cons_zero, List.set_cons_succ]))
      refine wq_nil ?_
      intro wq hq
      have LQ := Lib.hid (LS.out.trans (hq.below.mono LS.out.size))
      clear hq
      go_wp2_with fail
      go_ret
      exact ⟨rfl, LQ.out⟩
  have Tail := Lib.hid tail
  clear tail hKK hcase
  refine wp_region_tail (n := 8) (S := (fun w' : World => Laid W0 w')) (by kernel_rfl) (by kernel_rfl) (by rfl) ((Laid.refl W0).drew) (fun hHeld => ?_)
  generalize W0.drew = wd at *
  refine wpAnyH_take (i := 0) (v := vecA a) rfl (by kernel_rfl) (by kernel_rfl) (by kernel_rfl) (fun _ _ _ h => h) (Or.inl ⟨by rfl, (by intro w hSw; exact exec_vload (by rfl) (by rfl) (R0.out.below (Laid.below hSw) R0.out.inHeap))⟩) (by assumption) ?_
  simp only [Act.put, List.getElem_toArray, List.getElem_cons_zero, List.getElem_cons_succ, List.setIfInBounds_toArray, List.set_cons_zero, List.set_cons_succ]
  refine wpAnyH_take (i := 1) (v := vecA b) rfl (by kernel_rfl) (by kernel_rfl) (by kernel_rfl) (fun _ _ _ h => h) (Or.inl ⟨by rfl, (by intro w hSw; exact exec_vload (by rfl) (by rfl) (R1.out.below (Laid.below hSw) R1.out.inHeap))⟩) (by assumption) ?_
  simp only [Act.put, List.getElem_toArray, List.getElem_cons_zero, List.getElem_cons_succ, List.setIfInBounds_toArray, List.set_cons_zero, List.set_cons_succ]
  refine wpAnyH_take (i := 3) (v := vecA a) rfl (by kernel_rfl) (by kernel_rfl) (by kernel_rfl) (fun _ _ _ h => h) (Or.inl ⟨by rfl, (by intro w hSw; exact exec_vload (by rfl) (by rfl) (R0.out.below (Laid.below hSw) R0.out.inHeap))⟩) (by assumption) ?_
  simp only [Act.put, List.getElem_toArray, List.getElem_cons_zero, List.getElem_cons_succ, List.setIfInBounds_toArray, List.set_cons_zero, List.set_cons_succ]
  refine wpAnyH_take (i := 4) (v := vecA b) rfl (by kernel_rfl) (by kernel_rfl) (by kernel_rfl) (fun _ _ _ h => h) (Or.inl ⟨by rfl, (by intro w hSw; exact exec_vload (by rfl) (by rfl) (R1.out.below (Laid.below hSw) R1.out.inHeap))⟩) (by assumption) ?_
  simp only [Act.put, List.getElem_toArray, List.getElem_cons_zero, List.getElem_cons_succ, List.setIfInBounds_toArray, List.set_cons_zero, List.set_cons_succ]
  refine wpAnyH_ready (rs := [2, 6, 7]) (by kernel_rfl) (by simp) ?_
  refine (AllReadyH.cons rfl (fun K hK => ?_) (AllReadyH.cons rfl (fun K hK => ?_) (AllReadyH.cons rfl (fun K hK => ?_) AllReadyH.nil)))
  · go_simp
    go_at_call 22
    refine (JO.out _).mono ?_
    rintro e w101 ⟨rfl, h8⟩
    have hL := Laid.trans hHeld h8
    refine hK.out _ _ hL (fun hHeld => ?_)
    clear h8 hL
    clear hK K
    refine wpAnyH_ready (rs := [5, 6, 7]) (by kernel_rfl) (by simp) ?_
    refine (AllReadyH.cons rfl (fun K hK => ?_) (AllReadyH.cons rfl (fun K hK => ?_) (AllReadyH.cons rfl (fun K hK => ?_) AllReadyH.nil)))
    · go_simp
      go_at_call 23
      refine (ME.out _).mono ?_
      rintro e w102 ⟨rfl, h8⟩
      have hL := Laid.trans hHeld h8
      refine hK.out _ _ hL (fun hHeld => ?_)
      clear h8 hL
      clear hK K
      refine wpAnyH_ready (rs := [6, 7]) (by kernel_rfl) (by simp) ?_
      refine (AllReadyH.cons rfl (fun K hK => ?_) (AllReadyH.cons rfl (fun K hK => ?_) AllReadyH.nil))
      · refine step_valloc rfl (by rfl) ?_
        rintro g7 w103 h7 h8 h9
        have hL := Laid.trans hHeld h9
        have G7 : Hid (W0.heap.size ≤ g7) := Lib.hid (by have := Laid.size hHeld; omega)
        have V7 := Lib.hid h8
        refine hK.out _ _ hL (fun hHeld => ?_)
        simp only [Act.put, List.getElem_toArray, List.getElem_cons_zero, List.getElem_cons_succ, List.setIfInBounds_toArray, List.set_cons_zero, List.set_cons_succ]
        clear hL h7 h8 h9
        clear hK K
        refine wpAnyH_ready (rs := [7]) (by kernel_rfl) (by simp) ?_
        refine (AllReadyH.cons rfl (fun K hK => ?_) AllReadyH.nil)
        refine step_valloc rfl (by rfl) ?_
        rintro g8 w104 h7 h8 h9
        have hL := Laid.trans hHeld h9
        have G8 : Hid (W0.heap.size ≤ g8) := Lib.hid (by have := Laid.size hHeld; omega)
        have N78 : Hid (g7 ≠ g8) := Lib.hid (by have := V7.out.inHeap; omega)
        have V7 := Lib.hid (V7.out.below h9.below V7.out.inHeap)
        have V8 := Lib.hid h8
        refine hK.out _ _ hL (fun hHeld => ?_)
        simp only [Act.put, List.getElem_toArray, List.getElem_cons_zero, List.getElem_cons_succ, List.setIfInBounds_toArray, List.set_cons_zero, List.set_cons_succ]
        clear hL h7 h8 h9
        clear hK K
        refine wpAnyH_done (by kernel_rfl) ?_ _
        have hHeld1 := hHeld
        refine wpAny_of_held (S := fun _ => True) _ _ _ _ ?_
        have hHeld : True := trivial
        refine wpAnyH_ready (rs := [8]) (by kernel_rfl) (by simp) ?_
        refine AllReadyH.cons rfl (fun K hK => ?_) AllReadyH.nil
        refine step_vstore (.tmp 7) (.tmp 13) rfl (by rfl) (by rfl) (by rfl) V7.out LJ.out ?_
        have L0 := Lib.hid (hHeld1.set G7.out (vecR J))
        have V8 := Lib.hid (V8.out.setElsewhere (c := g7) (by first | exact N78.out | exact (fun e => N87.out e.symm)) (vecR J))
        have V7 := Lib.hid (V7.out.set J LJ.out)
        refine hK.out _ _ trivial (fun hHeld => ?_)
        clear hK K
        refine wpAnyH_ready (rs := [9]) (by kernel_rfl) (by simp) ?_
        refine AllReadyH.cons rfl (fun K hK => ?_) AllReadyH.nil
        refine step_vstore (.tmp 8) (.tmp 16) rfl (by rfl) (by rfl) (by rfl) V8.out LM.out ?_
        have L0 := Lib.hid (L0.out.set G8.out (vecR M))
        have V7 := Lib.hid (V7.out.setElsewhere (c := g8) (by first | exact N87.out | exact (fun e => N78.out e.symm)) (vecR M))
        have V8 := Lib.hid (V8.out.set M LM.out)
        refine hK.out _ _ trivial (fun hHeld => ?_)
        clear hK K
        refine wpAnyH_done (by kernel_rfl) ?_ _
        exact Tail.out g7 g8 _ L0.out V7.out V8.out
      · refine step_valloc rfl (by rfl) ?_
        rintro g8 w103 h7 h8 h9
        have hL := Laid.trans hHeld h9
        have G8 : Hid (W0.heap.size ≤ g8) := Lib.hid (by have := Laid.size hHeld; omega)
        have V8 := Lib.hid h8
        refine hK.out _ _ hL (fun hHeld => ?_)
        simp only [Act.put, List.getElem_toArray, List.getElem_cons_zero, List.getElem_cons_succ, List.setIfInBounds_toArray, List.set_cons_zero, List.set_cons_succ]
        clear hL h7 h8 h9
        clear hK K
        refine wpAnyH_ready (rs := [6]) (by kernel_rfl) (by simp) ?_
        refine (AllReadyH.cons rfl (fun K hK => ?_) AllReadyH.nil)
        refine step_valloc rfl (by rfl) ?_
        rintro g7 w104 h7 h8 h9
        have hL := Laid.trans hHeld h9
        have G7 : Hid (W0.heap.size ≤ g7) := Lib.hid (by have := Laid.size hHeld; omega)
        have N87 : Hid (g8 ≠ g7) := Lib.hid (by have := V8.out.inHeap; omega)
        have V8 := Lib.hid (V8.out.below h9.below V8.out.inHeap)
        have V7 := Lib.hid h8
        refine hK.out _ _ hL (fun hHeld => ?_)
        simp only [Act.put, List.getElem_toArray, List.getElem_cons_zero, List.getElem_cons_succ, List.setIfInBounds_toArray, List.set_cons_zero, List.set_cons_succ]
        clear hL h7 h8 h9
        clear hK K
        refine wpAnyH_done (by kernel_rfl) ?_ _
        have hHeld1 := hHeld
        refine wpAny_of_held (S := fun _ => True) _ _ _ _ ?_
        have hHeld : True := trivial
        refine wpAnyH_ready (rs := [8]) (by kernel_rfl) (by simp) ?_
        refine AllReadyH.cons rfl (fun K hK => ?_) AllReadyH.nil
        refine step_vstore (.tmp 7) (.tmp 13) rfl (by rfl) (by rfl) (by rfl) V7.out LJ.out ?_
        have L0 := Lib.hid (hHeld1.set G7.out (vecR J))
        have V8 := Lib.hid (V8.out.setElsewhere (c := g7) (by first | exact N78.out | exact (fun e => N87.out e.symm)) (vecR J))
        have V7 := Lib.hid (V7.out.set J LJ.out)
        refine hK.out _ _ trivial (fun hHeld => ?_)
        clear hK K
        refine wpAnyH_ready (rs := [9]) (by kernel_rfl) (by simp) ?_
        refine AllReadyH.cons rfl (fun K hK => ?_) AllReadyH.nil
        refine step_vstore (.tmp 8) (.tmp 16) rfl (by rfl) (by rfl) (by rfl) V8.out LM.out ?_
        have L0 := Lib.hid (L0.out.set G8.out (vecR M))
        have V7 := Lib.hid (V7.out.setElsewhere (c := g8) (by first | exact N87.out | exact (fun e => N78.out e.symm)) (vecR M))
        have V8 := Lib.hid (V8.out.set M LM.out)
        refine hK.out _ _ trivial (fun hHeld => ?_)
        clear hK K
        refine wpAnyH_done (by kernel_rfl) ?_ _
        exact Tail.out g7 g8 _ L0.out V7.out V8.out
    · refine step_valloc rfl (by rfl) ?_
      rintro g7 w102 h7 h8 h9
      have hL := Laid.trans hHeld h9
      have G7 : Hid (W0.heap.size ≤ g7) := Lib.hid (by have := Laid.size hHeld; omega)
      have V7 := Lib.hid h8
      refine hK.out _ _ hL (fun hHeld => ?_)
      simp only [Act.put, List.getElem_toArray, List.getElem_cons_zero, List.getElem_cons_succ, List.setIfInBounds_toArray, List.set_cons_zero, List.set_cons_succ]
      clear hL h7 h8 h9
      clear hK K
      refine wpAnyH_ready (rs := [5, 7]) (by kernel_rfl) (by simp) ?_
      refine (AllReadyH.cons rfl (fun K hK => ?_) (AllReadyH.cons rfl (fun K hK => ?_) AllReadyH.nil))
      · go_simp
        go_at_call 23
        refine (ME.out _).mono ?_
        rintro e w103 ⟨rfl, h8⟩
        have hL := Laid.trans hHeld h8
        have V7 := Lib.hid (V7.out.below h8.below V7.out.inHeap)
        refine hK.out _ _ hL (fun hHeld => ?_)
        clear h8 hL
        clear hK K
        refine wpAnyH_ready (rs := [7]) (by kernel_rfl) (by simp) ?_
        refine (AllReadyH.cons rfl (fun K hK => ?_) AllReadyH.nil)
        refine step_valloc rfl (by rfl) ?_
        rintro g8 w104 h7 h8 h9
        have hL := Laid.trans hHeld h9
        have G8 : Hid (W0.heap.size ≤ g8) := Lib.hid (by have := Laid.size hHeld; omega)
        have N78 : Hid (g7 ≠ g8) := Lib.hid (by have := V7.out.inHeap; omega)
        have V7 := Lib.hid (V7.out.below h9.below V7.out.inHeap)
        have V8 := Lib.hid h8
        refine hK.out _ _ hL (fun hHeld => ?_)
        simp only [Act.put, List.getElem_toArray, List.getElem_cons_zero, List.getElem_cons_succ, List.setIfInBounds_toArray, List.set_cons_zero, List.set_cons_succ]
        clear hL h7 h8 h9
        clear hK K
        refine wpAnyH_done (by kernel_rfl) ?_ _
        have hHeld1 := hHeld
        refine wpAny_of_held (S := fun _ => True) _ _ _ _ ?_
        have hHeld : True := trivial
        refine wpAnyH_ready (rs := [8]) (by kernel_rfl) (by simp) ?_
        refine AllReadyH.cons rfl (fun K hK => ?_) AllReadyH.nil
        refine step_vstore (.tmp 7) (.tmp 13) rfl (by rfl) (by rfl) (by rfl) V7.out LJ.out ?_
        have L0 := Lib.hid (hHeld1.set G7.out (vecR J))
        have V8 := Lib.hid (V8.out.setElsewhere (c := g7) (by first | exact N78.out | exact (fun e => N87.out e.symm)) (vecR J))
        have V7 := Lib.hid (V7.out.set J LJ.out)
        refine hK.out _ _ trivial (fun hHeld => ?_)
        clear hK K
        refine wpAnyH_ready (rs := [9]) (by kernel_rfl) (by simp) ?_
        refine AllReadyH.cons rfl (fun K hK => ?_) AllReadyH.nil
        refine step_vstore (.tmp 8) (.tmp 16) rfl (by rfl) (by rfl) (by rfl) V8.out LM.out ?_
        have L0 := Lib.hid (L0.out.set G8.out (vecR M))
        have V7 := Lib.hid (V7.out.setElsewhere (c := g8) (by first | exact N87.out | exact (fun e => N78.out e.symm)) (vecR M))
        have V8 := Lib.hid (V8.out.set M LM.out)
        refine hK.out _ _ trivial (fun hHeld => ?_)
        clear hK K
        refine wpAnyH_done (by kernel_rfl) ?_ _
        exact Tail.out g7 g8 _ L0.out V7.out V8.out
      · refine step_valloc rfl (by rfl) ?_
        rintro g8 w103 h7 h8 h9
        have hL := Laid.trans hHeld h9
        have G8 : Hid (W0.heap.size ≤ g8) := Lib.hid (by have := Laid.size hHeld; omega)
        have N78 : Hid (g7 ≠ g8) := Lib.hid (by have := V7.out.inHeap; omega)
        have V7 := Lib.hid (V7.out.below h9.below V7.out.inHeap)
        have V8 := Lib.hid h8
        refine hK.out _ _ hL (fun hHeld => ?_)
        simp only [Act.put, List.getElem_toArray, List.getElem_cons_zero, List.getElem_cons_succ, List.setIfInBounds_toArray, List.set_cons_zero, List.set_cons_succ]
        clear hL h7 h8 h9
        clear hK K
        refine wpAnyH_ready (rs := [5]) (by kernel_rfl) (by simp) ?_
        refine (AllReadyH.cons rfl (fun K hK => ?_) AllReadyH.nil)
        go_simp
        go_at_call 23
        refine (ME.out _).mono ?_
        rintro e w104 ⟨rfl, h8⟩
        have hL := Laid.trans hHeld h8
        have V7 := Lib.hid (V7.out.below h8.below V7.out.inHeap)
        have V8 := Lib.hid (V8.out.below h8.below V8.out.inHeap)
        refine hK.out _ _ hL (fun hHeld => ?_)
        clear h8 hL
        clear hK K
        refine wpAnyH_done (by kernel_rfl) ?_ _
        have hHeld1 := hHeld
        refine wpAny_of_held (S := fun _ => True) _ _ _ _ ?_
        have hHeld : True := trivial
        refine wpAnyH_ready (rs := [8]) (by kernel_rfl) (by simp) ?_
        refine AllReadyH.cons rfl (fun K hK => ?_) AllReadyH.nil
        refine step_vstore (.tmp 7) (.tmp 13) rfl (by rfl) (by rfl) (by rfl) V7.out LJ.out ?_
        have L0 := Lib.hid (hHeld1.set G7.out (vecR J))
        have V8 := Lib.hid (V8.out.setElsewhere (c := g7) (by first | exact N78.out | exact (fun e => N87.out e.symm)) (vecR J))
        have V7 := Lib.hid (V7.out.set J LJ.out)
        refine hK.out _ _ trivial (fun hHeld => ?_)
        clear hK K
        refine wpAnyH_ready (rs := [9]) (by kernel_rfl) (by simp) ?_
        refine AllReadyH.cons rfl (fun K hK => ?_) AllReadyH.nil
        refine step_vstore (.tmp 8) (.tmp 16) rfl (by rfl) (by rfl) (by rfl) V8.out LM.out ?_
        have L0 := Lib.hid (L0.out.set G8.out (vecR M))
        have V7 := Lib.hid (V7.out.setElsewhere (c := g8) (by first | exact N87.out | exact (fun e => N78.out e.symm)) (vecR M))
        have V8 := Lib.hid (V8.out.set M LM.out)
        refine hK.out _ _ trivial (fun hHeld => ?_)
        clear hK K
        refine wpAnyH_done (by kernel_rfl) ?_ _
        exact Tail.out g7 g8 _ L0.out V7.out V8.out
    · refine step_valloc rfl (by rfl) ?_
      rintro g8 w102 h7 h8 h9
      have hL := Laid.trans hHeld h9
      have G8 : Hid (W0.heap.size ≤ g8) := Lib.hid (by have := Laid.size hHeld; omega)
      have V8 := Lib.hid h8
      refine hK.out _ _ hL (fun hHeld => ?_)
      simp only [Act.put, List.getElem_toArray, List.getElem_cons_zero, List.getElem_cons_succ, List.setIfInBounds_toArray, List.set_cons_zero, List.set_cons_succ]
      clear hL h7 h8 h9
      clear hK K
      refine wpAnyH_ready (rs := [5, 6]) (by kernel_rfl) (by simp) ?_
      refine (AllReadyH.cons rfl (fun K hK => ?_) (AllReadyH.cons rfl (fun K hK => ?_) AllReadyH.nil))
      · go_simp
        go_at_call 23
        refine (ME.out _).mono ?_
        rintro e w103 ⟨rfl, h8⟩
        have hL := Laid.trans hHeld h8
        have V8 := Lib.hid (V8.out.below h8.below V8.out.inHeap)
        refine hK.out _ _ hL (fun hHeld => ?_)
        clear h8 hL
        clear hK K
        refine wpAnyH_ready (rs := [6]) (by kernel_rfl) (by simp) ?_
        refine (AllReadyH.cons rfl (fun K hK => ?_) AllReadyH.nil)
        refine step_valloc rfl (by rfl) ?_
        rintro g7 w104 h7 h8 h9
        have hL := Laid.trans hHeld h9
        have G7 : Hid (W0.heap.size ≤ g7) := Lib.hid (by have := Laid.size hHeld; omega)
        have N87 : Hid (g8 ≠ g7) := Lib.hid (by have := V8.out.inHeap; omega)
        have V8 := Lib.hid (V8.out.below h9.below V8.out.inHeap)
        have V7 := Lib.hid h8
        refine hK.out _ _ hL (fun hHeld => ?_)
        simp only [Act.put, List.getElem_toArray, List.getElem_cons_zero, List.getElem_cons_succ, List.setIfInBounds_toArray, List.set_cons_zero, List.set_cons_succ]
        clear hL h7 h8 h9
        clear hK K
        refine wpAnyH_done (by kernel_rfl) ?_ _
        have hHeld1 := hHeld
        refine wpAny_of_held (S := fun _ => True) _ _ _ _ ?_
        have hHeld : True := trivial
        refine wpAnyH_ready (rs := [8]) (by kernel_rfl) (by simp) ?_
        refine AllReadyH.cons rfl (fun K hK => ?_) AllReadyH.nil
        refine step_vstore (.tmp 7) (.tmp 13) rfl (by rfl) (by rfl) (by rfl) V7.out LJ.out ?_
        have L0 := Lib.hid (hHeld1.set G7.out (vecR J))
        have V8 := Lib.hid (V8.out.setElsewhere (c := g7) (by first | exact N78.out | exact (fun e => N87.out e.symm)) (vecR J))
        have V7 := Lib.hid (V7.out.set J LJ.out)
        refine hK.out _ _ trivial (fun hHeld => ?_)
        clear hK K
        refine wpAnyH_ready (rs := [9]) (by kernel_rfl) (by simp) ?_
        refine AllReadyH.cons rfl (fun K hK => ?_) AllReadyH.nil
        refine step_vstore (.tmp 8) (.tmp 16) rfl (by rfl) (by rfl) (by rfl) V8.out LM.out ?_
        have L0 := Lib.hid (L0.out.set G8.out (vecR M))
        have V7 := Lib.hid (V7.out.setElsewhere (c := g8) (by first | exact N87.out | exact (fun e => N78.out e.symm)) (vecR M))
        have V8 := Lib.hid (V8.out.set M LM.out)
        refine hK.out _ _ trivial (fun hHeld => ?_)
        clear hK K
        refine wpAnyH_done (by kernel_rfl) ?_ _
        exact Tail.out g7 g8 _ L0.out V7.out V8.out
      · refine step_valloc rfl (by rfl) ?_
        rintro g7 w103 h7 h8 h9
        have hL := Laid.trans hHeld h9
        have G7 : Hid (W0.heap.size ≤ g7) := Lib.hid (by have := Laid.size hHeld; omega)
        have N87 : Hid (g8 ≠ g7) := Lib.hid (by have := V8.out.inHeap; omega)
        have V8 := Lib.hid (V8.out.below h9.below V8.out.inHeap)
        have V7 := Lib.hid h8
        refine hK.out _ _ hL (fun hHeld => ?_)
        simp only [Act.put, List.getElem_toArray, List.getElem_cons_zero, List.getElem_cons_succ, List.setIfInBounds_toArray, List.set_cons_zero, List.set_cons_succ]
        clear hL h7 h8 h9
        clear hK K
        refine wpAnyH_ready (rs := [5]) (by kernel_rfl) (by simp) ?_
        refine (AllReadyH.cons rfl (fun K hK => ?_) AllReadyH.nil)
        go_simp
        go_at_call 23
        refine (ME.out _).mono ?_
        rintro e w104 ⟨rfl, h8⟩
        have hL := Laid.trans hHeld h8
        have V8 := Lib.hid (V8.out.below h8.below V8.out.inHeap)
        have V7 := Lib.hid (V7.out.below h8.below V7.out.inHeap)
        refine hK.out _ _ hL (fun hHeld => ?_)
        clear h8 hL
        clear hK K
        refine wpAnyH_done (by kernel_rfl) ?_ _
        have hHeld1 := hHeld
        refine wpAny_of_held (S := fun _ => True) _ _ _ _ ?_
        have hHeld : True := trivial
        refine wpAnyH_ready (rs := [8]) (by kernel_rfl) (by simp) ?_
        refine AllReadyH.cons rfl (fun K hK => ?_) AllReadyH.nil
        refine step_vstore (.tmp 7) (.tmp 13) rfl (by rfl) (by rfl) (by rfl) V7.out LJ.out ?_
        have L0 := Lib.hid (hHeld1.set G7.out (vecR J))
        have V8 := Lib.hid (V8.out.setElsewhere (c := g7) (by first | exact N78.out | exact (fun e => N87.out e.symm)) (vecR J))
        have V7 := Lib.hid (V7.out.set J LJ.out)
        refine hK.out _ _ trivial (fun hHeld => ?_)
        clear hK K
        refine wpAnyH_ready (rs := [9]) (by kernel_rfl) (by simp) ?_
        refine AllReadyH.cons rfl (fun K hK => ?_) AllReadyH.nil
        refine step_vstore (.tmp 8) (.tmp 16) rfl (by rfl) (by rfl) (by rfl) V8.out LM.out ?_
        have L0 := Lib.hid (L0.out.set G8.out (vecR M))
        have V7 := Lib.hid (V7.out.setElsewhere (c := g8) (by first | exact N87.out | exact (fun e => N78.out e.symm)) (vecR M))
        have V8 := Lib.hid (V8.out.set M LM.out)
        refine hK.out _ _ trivial (fun hHeld => ?_)
        clear hK K
        refine wpAnyH_done (by kernel_rfl) ?_ _
        exact Tail.out g7 g8 _ L0.out V7.out V8.out
  · refine step_valloc rfl (by rfl) ?_
    rintro g7 w101 h7 h8 h9
    have hL := Laid.trans hHeld h9
    have G7 : Hid (W0.heap.size ≤ g7) := Lib.hid (by have := Laid.size hHeld; omega)
    have V7 := Lib.hid h8
    refine hK.out _ _ hL (fun hHeld => ?_)
    simp only [Act.put, List.getElem_toArray, List.getElem_cons_zero, List.getElem_cons_succ, List.setIfInBounds_toArray, List.set_cons_zero, List.set_cons_succ]
    clear hL h7 h8 h9
    clear hK K
    refine wpAnyH_ready (rs := [2, 7]) (by kernel_rfl) (by simp) ?_
    refine (AllReadyH.cons rfl (fun K hK => ?_) (AllReadyH.cons rfl (fun K hK => ?_) AllReadyH.nil))
    · go_simp
      go_at_call 22
      refine (JO.out _).mono ?_
      rintro e w102 ⟨rfl, h8⟩
      have hL := Laid.trans hHeld h8
      have V7 := Lib.hid (V7.out.below h8.below V7.out.inHeap)
      refine hK.out _ _ hL (fun hHeld => ?_)
      clear h8 hL
      clear hK K
      refine wpAnyH_ready (rs := [5, 7]) (by kernel_rfl) (by simp) ?_
      refine (AllReadyH.cons rfl (fun K hK => ?_) (AllReadyH.cons rfl (fun K hK => ?_) AllReadyH.nil))
      · go_simp
        go_at_call 23
        refine (ME.out _).mono ?_
        rintro e w103 ⟨rfl, h8⟩
        have hL := Laid.trans hHeld h8
        have V7 := Lib.hid (V7.out.below h8.below V7.out.inHeap)
        refine hK.out _ _ hL (fun hHeld => ?_)
        clear h8 hL
        clear hK K
        refine wpAnyH_ready (rs := [7]) (by kernel_rfl) (by simp) ?_
        refine (AllReadyH.cons rfl (fun K hK => ?_) AllReadyH.nil)
        refine step_valloc rfl (by rfl) ?_
        rintro g8 w104 h7 h8 h9
        have hL := Laid.trans hHeld h9
        have G8 : Hid (W0.heap.size ≤ g8) := Lib.hid (by have := Laid.size hHeld; omega)
        have N78 : Hid (g7 ≠ g8) := Lib.hid (by have := V7.out.inHeap; omega)
        have V7 := Lib.hid (V7.out.below h9.below V7.out.inHeap)
        have V8 := Lib.hid h8
        refine hK.out _ _ hL (fun hHeld => ?_)
        simp only [Act.put, List.getElem_toArray, List.getElem_cons_zero, List.getElem_cons_succ, List.setIfInBounds_toArray, List.set_cons_zero, List.set_cons_succ]
        clear hL h7 h8 h9
        clear hK K
        refine wpAnyH_done (by kernel_rfl) ?_ _
        have hHeld1 := hHeld
        refine wpAny_of_held (S := fun _ => True) _ _ _ _ ?_
        have hHeld : True := trivial
        refine wpAnyH_ready (rs := [8]) (by kernel_rfl) (by simp) ?_
        refine AllReadyH.cons rfl (fun K hK => ?_) AllReadyH.nil
        refine step_vstore (.tmp 7) (.tmp 13) rfl (by rfl) (by rfl) (by rfl) V7.out LJ.out ?_
        have L0 := Lib.hid (hHeld1.set G7.out (vecR J))
        have V8 := Lib.hid (V8.out.setElsewhere (c := g7) (by first | exact N78.out | exact (fun e => N87.out e.symm)) (vecR J))
        have V7 := Lib.hid (V7.out.set J LJ.out)
        refine hK.out _ _ trivial (fun hHeld => ?_)
        clear hK K
        refine wpAnyH_ready (rs := [9]) (by kernel_rfl) (by simp) ?_
        refine AllReadyH.cons rfl (fun K hK => ?_) AllReadyH.nil
        refine step_vstore (.tmp 8) (.tmp 16) rfl (by rfl) (by rfl) (by rfl) V8.out LM.out ?_
        have L0 := Lib.hid (L0.out.set G8.out (vecR M))
        have V7 := Lib.hid (V7.out.setElsewhere (c := g8) (by first | exact N87.out | exact (fun e => N78.out e.symm)) (vecR M))
        have V8 := Lib.hid (V8.out.set M LM.out)
        refine hK.out _ _ trivial (fun hHeld => ?_)
        clear hK K
        refine wpAnyH_done (by kernel_rfl) ?_ _
        exact Tail.out g7 g8 _ L0.out V7.out V8.out
      · refine step_valloc rfl (by rfl) ?_
        rintro g8 w103 h7 h8 h9
        have hL := Laid.trans hHeld h9
        have G8 : Hid (W0.heap.size ≤ g8) := Lib.hid (by have := Laid.size hHeld; omega)
        have N78 : Hid (g7 ≠ g8) := Lib.hid (by have := V7.out.inHeap; omega)
        have V7 := Lib.hid (V7.out.below h9.below V7.out.inHeap)
        have V8 := Lib.hid h8
        refine hK.out _ _ hL (fun hHeld => ?_)
        simp only [Act.put, List.getElem_toArray, List.getElem_cons_zero, List.getElem_cons_succ, List.setIfInBounds_toArray, List.set_cons_zero, List.set_cons_succ]
        clear hL h7 h8 h9
        clear hK K
        refine wpAnyH_ready (rs := [5]) (by kernel_rfl) (by simp) ?_
        refine (AllReadyH.cons rfl (fun K hK => ?_) AllReadyH.nil)
        go_simp
        go_at_call 23
        refine (ME.out _).mono ?_
        rintro e w104 ⟨rfl, h8⟩
        have hL := Laid.trans hHeld h8
        have V7 := Lib.hid (V7.out.below h8.below V7.out.inHeap)
        have V8 := Lib.hid (V8.out.below h8.below V8.out.inHeap)
        refine hK.out _ _ hL (fun hHeld => ?_)
        clear h8 hL
        clear hK K
        refine wpAnyH_done (by kernel_rfl) ?_ _
        have hHeld1 := hHeld
        refine wpAny_of_held (S := fun _ => True) _ _ _ _ ?_
        have hHeld : True := trivial
        refine wpAnyH_ready (rs := [8]) (by kernel_rfl) (by simp) ?_
        refine AllReadyH.cons rfl (fun K hK => ?_) AllReadyH.nil
        refine step_vstore (.tmp 7) (.tmp 13) rfl (by rfl) (by rfl) (by rfl) V7.out LJ.out ?_
        have L0 := Lib.hid (hHeld1.set G7.out (vecR J))
        have V8 := Lib.hid (V8.out.setElsewhere (c := g7) (by first | exact N78.out | exact (fun e => N87.out e.symm)) (vecR J))
        have V7 := Lib.hid (V7.out.set J LJ.out)
        refine hK.out _ _ trivial (fun hHeld => ?_)
        clear hK K
        refine wpAnyH_ready (rs := [9]) (by kernel_rfl) (by simp) ?_
        refine AllReadyH.cons rfl (fun K hK => ?_) AllReadyH.nil
        refine step_vstore (.tmp 8) (.tmp 16) rfl (by rfl) (by rfl) (by rfl) V8.out LM.out ?_
        have L0 := Lib.hid (L0.out.set G8.out (vecR M))
        have V7 := Lib.hid (V7.out.setElsewhere (c := g8) (by first | exact N87.out | exact (fun e => N78.out e.symm)) (vecR M))
        have V8 := Lib.hid (V8.out.set M LM.out)
        refine hK.out _ _ trivial (fun hHeld => ?_)
        clear hK K
        refine wpAnyH_done (by kernel_rfl) ?_ _
        exact Tail.out g7 g8 _ L0.out V7.out V8.out
    · refine step_valloc rfl (by rfl) ?_
      rintro g8 w102 h7 h8 h9
      have hL := Laid.trans hHeld h9
      have G8 : Hid (W0.heap.size ≤ g8) := Lib.hid (by have := Laid.size hHeld; omega)
      have N78 : Hid (g7 ≠ g8) := Lib.hid (by have := V7.out.inHeap; omega)
      have V7 := Lib.hid (V7.out.below h9.below V7.out.inHeap)
      have V8 := Lib.hid h8
      refine hK.out _ _ hL (fun hHeld => ?_)
      simp only [Act.put, List.getElem_toArray, List.getElem_cons_zero, List.getElem_cons_succ, List.setIfInBounds_toArray, List.set_cons_zero, List.set_cons_succ]
      clear hL h7 h8 h9
      clear hK K
      refine wpAnyH_ready (rs := [2]) (by kernel_rfl) (by simp) ?_
      refine (AllReadyH.cons rfl (fun K hK => ?_) AllReadyH.nil)
      go_simp
      go_at_call 22
      refine (JO.out _).mono ?_
      rintro e w103 ⟨rfl, h8⟩
      have hL := Laid.trans hHeld h8
      have V7 := Lib.hid (V7.out.below h8.below V7.out.inHeap)
      have V8 := Lib.hid (V8.out.below h8.below V8.out.inHeap)
      refine hK.out _ _ hL (fun hHeld => ?_)
      clear h8 hL
      clear hK K
      refine wpAnyH_ready (rs := [5]) (by kernel_rfl) (by simp) ?_
      refine (AllReadyH.cons rfl (fun K hK => ?_) AllReadyH.nil)
      go_simp
      go_at_call 23
      refine (ME.out _).mono ?_
      rintro e w104 ⟨rfl, h8⟩
      have hL := Laid.trans hHeld h8
      have V7 := Lib.hid (V7.out.below h8.below V7.out.inHeap)
      have V8 := Lib.hid (V8.out.below h8.below V8.out.inHeap)
      refine hK.out _ _ hL (fun hHeld => ?_)
      clear h8 hL
      clear hK K
      refine wpAnyH_done (by kernel_rfl) ?_ _
      have hHeld1 := hHeld
      refine wpAny_of_held (S := fun _ => True) _ _ _ _ ?_
      have hHeld : True := trivial
      refine wpAnyH_ready (rs := [8]) (by kernel_rfl) (by simp) ?_
      refine AllReadyH.cons rfl (fun K hK => ?_) AllReadyH.nil
      refine step_vstore (.tmp 7) (.tmp 13) rfl (by rfl) (by rfl) (by rfl) V7.out LJ.out ?_
      have L0 := Lib.hid (hHeld1.set G7.out (vecR J))
      have V8 := Lib.hid (V8.out.setElsewhere (c := g7) (by first | exact N78.out | exact (fun e => N87.out e.symm)) (vecR J))
      have V7 := Lib.hid (V7.out.set J LJ.out)
      refine hK.out _ _ trivial (fun hHeld => ?_)
      clear hK K
      refine wpAnyH_ready (rs := [9]) (by kernel_rfl) (by simp) ?_
      refine AllReadyH.cons rfl (fun K hK => ?_) AllReadyH.nil
      refine step_vstore (.tmp 8) (.tmp 16) rfl (by rfl) (by rfl) (by rfl) V8.out LM.out ?_
      have L0 := Lib.hid (L0.out.set G8.out (vecR M))
      have V7 := Lib.hid (V7.out.setElsewhere (c := g8) (by first | exact N87.out | exact (fun e => N78.out e.symm)) (vecR M))
      have V8 := Lib.hid (V8.out.set M LM.out)
      refine hK.out _ _ trivial (fun hHeld => ?_)
      clear hK K
      refine wpAnyH_done (by kernel_rfl) ?_ _
      exact Tail.out g7 g8 _ L0.out V7.out V8.out
  · refine step_valloc rfl (by rfl) ?_
    rintro g8 w101 h7 h8 h9
    have hL := Laid.trans hHeld h9
    have G8 : Hid (W0.heap.size ≤ g8) := Lib.hid (by have := Laid.size hHeld; omega)
    have V8 := Lib.hid h8
    refine hK.out _ _ hL (fun hHeld => ?_)
    simp only [Act.put, List.getElem_toArray, List.getElem_cons_zero, List.getElem_cons_succ, List.setIfInBounds_toArray, List.set_cons_zero, List.set_cons_succ]
    clear hL h7 h8 h9
    clear hK K
    refine wpAnyH_ready (rs := [2, 6]) (by kernel_rfl) (by simp) ?_
    refine (AllReadyH.cons rfl (fun K hK => ?_) (AllReadyH.cons rfl (fun K hK => ?_) AllReadyH.nil))
    · go_simp
      go_at_call 22
      refine (JO.out _).mono ?_
      rintro e w102 ⟨rfl, h8⟩
      have hL := Laid.trans hHeld h8
      have V8 := Lib.hid (V8.out.below h8.below V8.out.inHeap)
      refine hK.out _ _ hL (fun hHeld => ?_)
      clear h8 hL
      clear hK K
      refine wpAnyH_ready (rs := [5, 6]) (by kernel_rfl) (by simp) ?_
      refine (AllReadyH.cons rfl (fun K hK => ?_) (AllReadyH.cons rfl (fun K hK => ?_) AllReadyH.nil))
      · go_simp
        go_at_call 23
        refine (ME.out _).mono ?_
        rintro e w103 ⟨rfl, h8⟩
        have hL := Laid.trans hHeld h8
        have V8 := Lib.hid (V8.out.below h8.below V8.out.inHeap)
        refine hK.out _ _ hL (fun hHeld => ?_)
        clear h8 hL
        clear hK K
        refine wpAnyH_ready (rs := [6]) (by kernel_rfl) (by simp) ?_
        refine (AllReadyH.cons rfl (fun K hK => ?_) AllReadyH.nil)
        refine step_valloc rfl (by rfl) ?_
        rintro g7 w104 h7 h8 h9
        have hL := Laid.trans hHeld h9
        have G7 : Hid (W0.heap.size ≤ g7) := Lib.hid (by have := Laid.size hHeld; omega)
        have N87 : Hid (g8 ≠ g7) := Lib.hid (by have := V8.out.inHeap; omega)
        have V8 := Lib.hid (V8.out.below h9.below V8.out.inHeap)
        have V7 := Lib.hid h8
        refine hK.out _ _ hL (fun hHeld => ?_)
        simp only [Act.put, List.getElem_toArray, List.getElem_cons_zero, List.getElem_cons_succ, List.setIfInBounds_toArray, List.set_cons_zero, List.set_cons_succ]
        clear hL h7 h8 h9
        clear hK K
        refine wpAnyH_done (by kernel_rfl) ?_ _
        have hHeld1 := hHeld
        refine wpAny_of_held (S := fun _ => True) _ _ _ _ ?_
        have hHeld : True := trivial
        refine wpAnyH_ready (rs := [8]) (by kernel_rfl) (by simp) ?_
        refine AllReadyH.cons rfl (fun K hK => ?_) AllReadyH.nil
        refine step_vstore (.tmp 7) (.tmp 13) rfl (by rfl) (by rfl) (by rfl) V7.out LJ.out ?_
        have L0 := Lib.hid (hHeld1.set G7.out (vecR J))
        have V8 := Lib.hid (V8.out.setElsewhere (c := g7) (by first | exact N78.out | exact (fun e => N87.out e.symm)) (vecR J))
        have V7 := Lib.hid (V7.out.set J LJ.out)
        refine hK.out _ _ trivial (fun hHeld => ?_)
        clear hK K
        refine wpAnyH_ready (rs := [9]) (by kernel_rfl) (by simp) ?_
        refine AllReadyH.cons rfl (fun K hK => ?_) AllReadyH.nil
        refine step_vstore (.tmp 8) (.tmp 16) rfl (by rfl) (by rfl) (by rfl) V8.out LM.out ?_
        have L0 := Lib.hid (L0.out.set G8.out (vecR M))
        have V7 := Lib.hid (V7.out.setElsewhere (c := g8) (by first | exact N87.out | exact (fun e => N78.out e.symm)) (vecR M))
        have V8 := Lib.hid (V8.out.set M LM.out)
        refine hK.out _ _ trivial (fun hHeld => ?_)
        clear hK K
        refine wpAnyH_done (by kernel_rfl) ?_ _
        exact Tail.out g7 g8 _ L0.out V7.out V8.out
      · refine step_valloc rfl (by rfl) ?_
        rintro g7 w103 h7 h8 h9
        have hL := Laid.trans hHeld h9
        have G7 : Hid (W0.heap.size ≤ g7) := Lib.hid (by have := Laid.size hHeld; omega)
        have N87 : Hid (g8 ≠ g7) := Lib.hid (by have := V8.out.inHeap; omega)
        have V8 := Lib.hid (V8.out.below h9.below V8.out.inHeap)
        have V7 := Lib.hid h8
        refine hK.out _ _ hL (fun hHeld => ?_)
        simp only [Act.put, List.getElem_toArray, List.getElem_cons_zero, List.getElem_cons_succ, List.setIfInBounds_toArray, List.set_cons_zero, List.set_cons_succ]
        clear hL h7 h8 h9
        clear hK K
        refine wpAnyH_ready (rs := [5]) (by kernel_rfl) (by simp) ?_
        refine (AllReadyH.cons rfl (fun K hK => ?_) AllReadyH.nil)
        go_simp
        go_at_call 23
        refine (ME.out _).mono ?_
        rintro e w104 ⟨rfl, h8⟩
        have hL := Laid.trans hHeld h8
        have V8 := Lib.hid (V8.out.below h8.below V8.out.inHeap)
        have V7 := Lib.hid (V7.out.below h8.below V7.out.inHeap)
        refine hK.out _ _ hL (fun hHeld => ?_)
        clear h8 hL
        clear hK K
        refine wpAnyH_done (by kernel_rfl) ?_ _
        have hHeld1 := hHeld
        refine wpAny_of_held (S := fun _ => True) _ _ _ _ ?_
        have hHeld : True := trivial
        refine wpAnyH_ready (rs := [8]) (by kernel_rfl) (by simp) ?_
        refine AllReadyH.cons rfl (fun K hK => ?_) AllReadyH.nil
        refine step_vstore (.tmp 7) (.tmp 13) rfl (by rfl) (by rfl) (by rfl) V7.out LJ.out ?_
        have L0 := Lib.hid (hHeld1.set G7.out (vecR J))
        have V8 := Lib.hid (V8.out.setElsewhere (c := g7) (by first | exact N78.out | exact (fun e => N87.out e.symm)) (vecR J))
        have V7 := Lib.hid (V7.out.set J LJ.out)
        refine hK.out _ _ trivial (fun hHeld => ?_)
        clear hK K
        refine wpAnyH_ready (rs := [9]) (by kernel_rfl) (by simp) ?_
        refine AllReadyH.cons rfl (fun K hK => ?_) AllReadyH.nil
        refine step_vstore (.tmp 8) (.tmp 16) rfl (by rfl) (by rfl) (by rfl) V8.out LM.out ?_
        have L0 := Lib.hid (L0.out.set G8.out (vecR M))
        have V7 := Lib.hid (V7.out.setElsewhere (c := g8) (by first | exact N87.out | exact (fun e => N78.out e.symm)) (vecR M))
        have V8 := Lib.hid (V8.out.set M LM.out)
        refine hK.out _ _ trivial (fun hHeld => ?_)
        clear hK K
        refine wpAnyH_done (by kernel_rfl) ?_ _
        exact Tail.out g7 g8 _ L0.out V7.out V8.out
    · refine step_valloc rfl (by rfl) ?_
      rintro g7 w102 h7 h8 h9
      have hL := Laid.trans hHeld h9
      have G7 : Hid (W0.heap.size ≤ g7) := Lib.hid (by have := Laid.size hHeld; omega)
      have N87 : Hid (g8 ≠ g7) := Lib.hid (by have := V8.out.inHeap; omega)
      have V8 := Lib.hid (V8.out.below h9.below V8.out.inHeap)
      have V7 := Lib.hid h8
      refine hK.out _ _ hL (fun hHeld => ?_)
      simp only [Act.put, List.getElem_toArray, List.getElem_cons_zero, List.getElem_cons_succ, List.setIfInBounds_toArray, List.set_cons_zero, List.set_cons_succ]
      clear hL h7 h8 h9
      clear hK K
      refine wpAnyH_ready (rs := [2]) (by kernel_rfl) (by simp) ?_
      refine (AllReadyH.cons rfl (fun K hK => ?_) AllReadyH.nil)
      go_simp
      go_at_call 22
      refine (JO.out _).mono ?_
      rintro e w103 ⟨rfl, h8⟩
      have hL := Laid.trans hHeld h8
      have V8 := Lib.hid (V8.out.below h8.below V8.out.inHeap)
      have V7 := Lib.hid (V7.out.below h8.below V7.out.inHeap)
      refine hK.out _ _ hL (fun hHeld => ?_)
      clear h8 hL
      clear hK K
      refine wpAnyH_ready (rs := [5]) (by kernel_rfl) (by simp) ?_
      refine (AllReadyH.cons rfl (fun K hK => ?_) AllReadyH.nil)
      go_simp
      go_at_call 23
      refine (ME.out _).mono ?_
      rintro e w104 ⟨rfl, h8⟩
      have hL := Laid.trans hHeld h8
      have V8 := Lib.hid (V8.out.below h8.below V8.out.inHeap)
      have V7 := Lib.hid (V7.out.below h8.below V7.out.inHeap)
      refine hK.out _ _ hL (fun hHeld => ?_)
      clear h8 hL
      clear hK K
      refine wpAnyH_done (by kernel_rfl) ?_ _
      have hHeld1 := hHeld
      refine wpAny_of_held (S := fun _ => True) _ _ _ _ ?_
      have hHeld : True := trivial
      refine wpAnyH_ready (rs := [8]) (by kernel_rfl) (by simp) ?_
      refine AllReadyH.cons rfl (fun K hK => ?_) AllReadyH.nil
      refine step_vstore (.tmp 7) (.tmp 13) rfl (by rfl) (by rfl) (by rfl) V7.out LJ.out ?_
      have L0 := Lib.hid (hHeld1.set G7.out (vecR J))
      have V8 := Lib.hid (V8.out.setElsewhere (c := g7) (by first | exact N78.out | exact (fun e => N87.out e.symm)) (vecR J))
      have V7 := Lib.hid (V7.out.set J LJ.out)
      refine hK.out _ _ trivial (fun hHeld => ?_)
      clear hK K
      refine wpAnyH_ready (rs := [9]) (by kernel_rfl) (by simp) ?_
      refine AllReadyH.cons rfl (fun K hK => ?_) AllReadyH.nil
      refine step_vstore (.tmp 8) (.tmp 16) rfl (by rfl) (by rfl) (by rfl) V8.out LM.out ?_
      have L0 := Lib.hid (L0.out.set G8.out (vecR M))
      have V7 := Lib.hid (V7.out.setElsewhere (c := g8) (by first | exact N87.out | exact (fun e => N78.out e.symm)) (vecR M))
      have V8 := Lib.hid (V8.out.set M LM.out)
      refine hK.out _ _ trivial (fun hHeld => ?_)
      clear hK K
      refine wpAnyH_done (by kernel_rfl) ?_ _
      exact Tail.out g7 g8 _ L0.out V7.out V8.out
end Go.Proofs.Ytlgaljlbjbfdgaa
