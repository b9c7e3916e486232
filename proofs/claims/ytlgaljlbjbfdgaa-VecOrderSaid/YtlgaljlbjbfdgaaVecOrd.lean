/- VecOrder out of the contracts. -/
import Derived.Test.YtlgaljlbjbfdgaaVecAwk
import Derived.Test.YtlgaljlbjbfdgaaVecRef
import Derived.Test.YtlgaljlbjbfdgaaVecEq
set_option linter.unusedSimpArgs false
set_option linter.unusedVariables false
namespace Go.Proofs.Ytlgaljlbjbfdgaa
open Go.RowKit Go.Sort

set_option maxRecDepth 100000 in
set_option maxHeartbeats 25600000 in
theorem vorder_walk (Z : VecOk) {w : World} {a b c : List Int} (ha : a.length = 65) (hb : b.length = 65) (hc : c.length = 65) : Calls Try.prog 6 #[vecA a, vecA b, vecA c] w fun e w' => e = .returned (.bool true) ∧ Below w.heap.size w w' := by
  have mixed : Try.prog.follows .mixedOrders = true := by kernel_rfl
  have hz := vecZero
  have hlj : (Vec.join a b).length = 65 := Vec.make_len _
  have hlm : (Vec.meet a b).length = 65 := Vec.make_len _
  have AW := Lib.hid (fun W => vec_awake Z W)
  have JO := Lib.hid (fun W => Z.join (w := W) ha hb)
  have ME := Lib.hid (fun W => Z.meet (w := W) ha hb)
  have CLA := Lib.hid (fun W => Z.clean (w := W) ha)
  have CLB := Lib.hid (fun W => Z.clean (w := W) hb)
  have CAB := Lib.hid (fun W => Z.covers (w := W) ha hb)
  have CBA := Lib.hid (fun W => Z.covers (w := W) hb ha)
  have RAB := Lib.hid (fun W => ref_vcovers W ha hb)
  have RBA := Lib.hid (fun W => ref_vcovers W hb ha)
  have CCA := Lib.hid (fun W => Z.covers (w := W) hc ha)
  have CCB := Lib.hid (fun W => Z.covers (w := W) hc hb)
  have CJA := Lib.hid (fun W => Z.covers (w := W) hlj ha)
  have CJB := Lib.hid (fun W => Z.covers (w := W) hlj hb)
  have CAM := Lib.hid (fun W => Z.covers (w := W) ha hlm)
  have CBM := Lib.hid (fun W => Z.covers (w := W) hb hlm)
  have CCJ := Lib.hid (fun W => Z.covers (w := W) hc hlj)
  have CBC := Lib.hid (fun W => Z.covers (w := W) hb hc)
  have CAC := Lib.hid (fun W => Z.covers (w := W) ha hc)
  rw [decide_eq_true (Vec.join_left a b)] at CJA
  rw [decide_eq_true (Vec.join_right a b)] at CJB
  rw [decide_eq_true (Vec.meet_left a b)] at CAM
  rw [decide_eq_true (Vec.meet_right a b)] at CBM
  have hE := fun W => vec_eq (Vec.clean_len a) (Vec.clean_len b) W
  have hcase : ∃ p q e s t cj bc ac : Bool, p = decide (Vec.Covers a b) ∧ q = decide (Vec.Covers b a) ∧ e = decide (Vec.clean a = Vec.clean b) ∧ s = decide (Vec.Covers c a) ∧ t = decide (Vec.Covers c b) ∧ cj = decide (Vec.Covers c (Vec.join a b)) ∧ bc = decide (Vec.Covers b c) ∧ ac = decide (Vec.Covers a c) ∧
      ((p = true ∧ e = q) ∨ (p = false ∧ e = false)) ∧ ((s = true ∧ cj = t) ∨ (s = false ∧ cj = false)) ∧ ((p = true ∧ bc = true ∧ ac = true) ∨ (p = true ∧ bc = false) ∨ p = false) := by
    refine ⟨_, _, _, _, _, _, _, _, rfl, rfl, rfl, rfl, rfl, rfl, rfl, rfl, ?_, ?_, ?_⟩
    · by_cases h : Vec.Covers a b
      · exact Or.inl ⟨decide_eq_true h, by rw [decide_eq_decide, ← Vec.covers_anti]; exact ⟨fun k => k.2, fun k => ⟨h, k⟩⟩⟩
      · exact Or.inr ⟨decide_eq_false h, decide_eq_false (fun k => h ((Vec.covers_anti a b).2 k).1)⟩
    · by_cases h : Vec.Covers c a
      · exact Or.inl ⟨decide_eq_true h, by rw [decide_eq_decide, Vec.join_least]; exact ⟨fun k => k.2, fun k => ⟨h, k⟩⟩⟩
      · exact Or.inr ⟨decide_eq_false h, decide_eq_false (fun k => h ((Vec.join_least a b c).1 k).1)⟩
    · by_cases h : Vec.Covers a b
      · by_cases k : Vec.Covers b c
        · exact Or.inl ⟨decide_eq_true h, decide_eq_true k, decide_eq_true (Vec.covers_trans h k)⟩
        · exact Or.inr (Or.inl ⟨decide_eq_true h, decide_eq_false k⟩)
      · exact Or.inr (Or.inr (decide_eq_false h))
  obtain ⟨p, q, e, s, t, cj, bc, ac, hp, hq, he, hs, ht, hcj, hbc, hac, hc1, hc2, hc3⟩ := hcase
  rw [← hp] at CAB RAB
  rw [← hq] at CBA RBA
  rw [← he] at hE
  rw [← hs] at CCA
  rw [← ht] at CCB
  rw [← hcj] at CCJ
  rw [← hbc] at CBC
  rw [← hac] at CAC
  have C1 := Lib.hid hc1
  have C2 := Lib.hid hc2
  have C3 := Lib.hid hc3
  clear hp hq he hs ht hcj hbc hac hc1 hc2 hc3
  have start : ∃ W, W = ((w.alloc (.cells (vecR a) 23)).alloc (.cells (vecR b) 23)).alloc (.cells (vecR c) 23) ∧ VRow W w.heap.size a ∧ VRow W (w.heap.size + 1) b ∧ VRow W (w.heap.size + 1 + 1) c ∧ Laid w W := by
    refine ⟨_, rfl, ((VRow.made w ha).alloc _).alloc _, ?_, ?_, ((Laid.new w _).alloc _).alloc _⟩
    · have := (VRow.made (w.alloc (.cells (vecR a) 23)) hb).alloc (.cells (vecR c) 23)
      rwa [World.size_alloc] at this
    · have := VRow.made ((w.alloc (.cells (vecR a) 23)).alloc (.cells (vecR b) 23)) hc
      rwa [World.size_alloc, World.size_alloc] at this
  obtain ⟨W00, hW, r0, r1, r2, hL⟩ := start
  have V3 := Lib.hid (fun w' (h : InB W00 w') => r0.inB h)
  have V4 := Lib.hid (fun w' (h : InB W00 w') => r1.inB h)
  have V5 := Lib.hid (fun w' (h : InB W00 w') => r2.inB h)
  have LS : Hid (InB w W00) := Lib.hid hL.below
  have LJ := Lib.hid hlj
  have LM := Lib.hid hlm
  generalize Vec.join a b = J at *
  generalize Vec.meet a b = M at *
  generalize Vec.clean a = CA at *
  generalize Vec.clean b = CB at *
  clear ha hb hc r0 r1 r2 hL hlj hlm
  go_enter Try.func6, Try.ntmps6
  go_wp2_with fail
  rw [← hW]
  clear hW
  refine wp_region_below (by assumption) (by kernel_rfl) ?_
  repeat ((first
    | (refine wq_skip (by rfl) ?_)
    | (refine wq_vload (by kernel_rfl) _ (by rfl) (by rfl) V3.out ?_)
    | (refine wq_vload (by kernel_rfl) _ (by rfl) (by rfl) V4.out ?_)
    | (refine wq_take (v := ?_) (by kernel_rfl) (by intro w hSw; go_simp; first | done | with_reducible rfl) ?_)
    | (refine wq_call (by kernel_rfl) ?hent (fun w hSw => inB_laid hSw (CAB.out w)) ?_; (case hent => (intro w hSw; go_simp; done)))
    | (refine wq_call (by kernel_rfl) ?hent (fun w hSw => inB_laid hSw (CBA.out w)) ?_; (case hent => (intro w hSw; go_simp; done)))); (try simp only [Act.put, List.getElem_toArray, List.getElem_cons_zero, List.getElem_cons_succ, List.setIfInBounds_toArray, List.set_cons_zero, List.set_cons_succ]))
  refine wq_nil ?_
  intro wq hq
  have H1 : Hid (InB W00 wq) := Lib.hid hq
  clear hq
  go_wp2_with fail
  rename_i K2 hK2
  have tail2 : ∀ (t18 t19 t20 t21 t22 t23 t24 t25 t26 t27 t28 t29 t30 t31 t32 t33 t34 t35 t36 t37 t38 t39 t40 : Value) (W0 : World), InB W00 W0 → K2 ⟨#[vecA a, vecA b, vecA c, .pointer (some ⟨w.heap.size, 0, none⟩), .pointer (some ⟨w.heap.size + 1, 0, none⟩), .pointer (some ⟨w.heap.size + 1 + 1, 0, none⟩), .bool false, .bool p, .bool q, undef, undef, undef, vecA a, vecA b, .bool p, vecA b, vecA a, .bool q, t18, t19, t20, t21, t22, t23, t24, t25, t26, t27, t28, t29, t30, t31, t32, t33, t34, t35, t36, t37, t38, t39, t40, .bool false, undef, undef, undef, undef, undef, undef, undef, undef, undef, undef, undef, undef, undef, undef, undef, undef, undef, undef, undef, undef, undef, undef, undef, undef, undef, undef, undef, undef, undef, undef, undef, undef, undef, undef, undef, undef, undef, undef, undef, undef, undef, undef, undef, undef, undef, undef, undef, undef, undef, undef, undef, undef, undef, undef, undef, undef, undef], []⟩ W0 := by
    intro t18 t19 t20 t21 t22 t23 t24 t25 t26 t27 t28 t29 t30 t31 t32 t33 t34 t35 t36 t37 t38 t39 t40 W0 h1
    refine hK2 _ _ ?_
    have V3 := Lib.hid (fun w' (h : InB W0 w') => V3.out w' (h1.trans h.below))
    have V4 := Lib.hid (fun w' (h : InB W0 w') => V4.out w' (h1.trans h.below))
    have V5 := Lib.hid (fun w' (h : InB W0 w') => V5.out w' (h1.trans h.below))
    have LS := Lib.hid (LS.out.trans h1.below)
    clear h1 hK2
    go_wp2_with fail
    rename_i KK hKK
    have tail : ∀ (g9 g10 : Nat) (wS : World), Laid W0 wS → VRow wS g9 J → VRow wS g10 M → KK ⟨#[vecA a, vecA b, vecA c, .pointer (some ⟨w.heap.size, 0, none⟩), .pointer (some ⟨w.heap.size + 1, 0, none⟩), .pointer (some ⟨w.heap.size + 1 + 1, 0, none⟩), .bool false, .bool p, .bool q, .pointer (some ⟨g9, 0, none⟩), .pointer (some ⟨g10, 0, none⟩), undef, vecA a, vecA b, .bool p, vecA b, vecA a, .bool q, t18, t19, t20, t21, t22, t23, t24, t25, t26, t27, t28, t29, t30, t31, t32, t33, t34, t35, t36, t37, t38, t39, t40, .bool false, vecA a, vecA b, vecA J, vecA a, vecA b, vecA M, undef, undef, undef, undef, undef, undef, undef, undef, undef, undef, undef, undef, undef, undef, undef, undef, undef, undef, undef, undef, undef, undef, undef, undef, undef, undef, undef, undef, undef, undef, undef, undef, undef, undef, undef, undef, undef, undef, undef, undef, undef, undef, undef, undef, undef, undef, undef, undef, undef, undef, undef], []⟩ wS := by
      intro g9 g10 wS h1 h2 h3
      refine hKK _ _ ?_
      have H0 := Lib.hid (InB.refl wS)
      have V9 := Lib.hid (fun w' (h : InB wS w') => h2.inB h)
      have V10 := Lib.hid (fun w' (h : InB wS w') => h3.inB h)
      have V3 := Lib.hid (fun w' (h : InB wS w') => V3.out w' (InB.trans h1.below h.below))
      have V4 := Lib.hid (fun w' (h : InB wS w') => V4.out w' (InB.trans h1.below h.below))
      have V5 := Lib.hid (fun w' (h : InB wS w') => V5.out w' (InB.trans h1.below h.below))
      have LS := Lib.hid (LS.out.trans h1.below)
      clear h1 h2 h3 hKK
      have hc2 := C2.out
      have hc3 := C3.out
      rcases hc2 with ⟨rfl, rfl⟩ | ⟨rfl, rfl⟩
      · rcases hc3 with ⟨rfl, rfl, rfl⟩ | ⟨rfl, rfl⟩ | rfl
        · go_wp2_with (first | refine wpList_vload (by rfl) _ (by rfl) (by rfl) (V3.out _ H0.out) ?_ | refine wpList_vload (by rfl) _ (by rfl) (by rfl) (V4.out _ H0.out) ?_ | refine wpList_vload (by rfl) _ (by rfl) (by rfl) (V5.out _ H0.out) ?_ | refine wpList_vload (by rfl) _ (by rfl) (by rfl) (V9.out _ H0.out) ?_ | refine wpList_vload (by rfl) _ (by rfl) (by rfl) (V10.out _ H0.out) ?_)
          refine (CCA.out _).mono ?_
          rintro e w200 ⟨rfl, h8⟩
          have H1 := Lib.hid (H0.out.trans h8.below)
          clear h8
          go_wp2_with (first | refine wpList_vload (by rfl) _ (by rfl) (by rfl) (V3.out _ H1.out) ?_ | refine wpList_vload (by rfl) _ (by rfl) (by rfl) (V4.out _ H1.out) ?_ | refine wpList_vload (by rfl) _ (by rfl) (by rfl) (V5.out _ H1.out) ?_ | refine wpList_vload (by rfl) _ (by rfl) (by rfl) (V9.out _ H1.out) ?_ | refine wpList_vload (by rfl) _ (by rfl) (by rfl) (V10.out _ H1.out) ?_)
          refine (CCB.out _).mono ?_
          rintro e w201 ⟨rfl, h8⟩
          have H2 := Lib.hid (H1.out.trans h8.below)
          clear h8
          go_wp2_with (first | refine wpList_vload (by rfl) _ (by rfl) (by rfl) (V3.out _ H2.out) ?_ | refine wpList_vload (by rfl) _ (by rfl) (by rfl) (V4.out _ H2.out) ?_ | refine wpList_vload (by rfl) _ (by rfl) (by rfl) (V5.out _ H2.out) ?_ | refine wpList_vload (by rfl) _ (by rfl) (by rfl) (V9.out _ H2.out) ?_ | refine wpList_vload (by rfl) _ (by rfl) (by rfl) (V10.out _ H2.out) ?_)
          refine (AW.out _).mono ?_
          rintro e w202 ⟨rfl, h8⟩
          have H3 := Lib.hid (H2.out.trans h8)
          clear h8
          go_wp2_with (first | refine wpList_vload (by rfl) _ (by rfl) (by rfl) (V3.out _ H3.out) ?_ | refine wpList_vload (by rfl) _ (by rfl) (by rfl) (V4.out _ H3.out) ?_ | refine wpList_vload (by rfl) _ (by rfl) (by rfl) (V5.out _ H3.out) ?_ | refine wpList_vload (by rfl) _ (by rfl) (by rfl) (V9.out _ H3.out) ?_ | refine wpList_vload (by rfl) _ (by rfl) (by rfl) (V10.out _ H3.out) ?_)
          refine (CJA.out _).mono ?_
          rintro e w203 ⟨rfl, h8⟩
          have H4 := Lib.hid (H3.out.trans h8.below)
          clear h8
          go_wp2_with (first | refine wpList_vload (by rfl) _ (by rfl) (by rfl) (V3.out _ H4.out) ?_ | refine wpList_vload (by rfl) _ (by rfl) (by rfl) (V4.out _ H4.out) ?_ | refine wpList_vload (by rfl) _ (by rfl) (by rfl) (V5.out _ H4.out) ?_ | refine wpList_vload (by rfl) _ (by rfl) (by rfl) (V9.out _ H4.out) ?_ | refine wpList_vload (by rfl) _ (by rfl) (by rfl) (V10.out _ H4.out) ?_)
          refine (CJB.out _).mono ?_
          rintro e w204 ⟨rfl, h8⟩
          have H5 := Lib.hid (H4.out.trans h8.below)
          clear h8
          go_wp2_with (first | refine wpList_vload (by rfl) _ (by rfl) (by rfl) (V3.out _ H5.out) ?_ | refine wpList_vload (by rfl) _ (by rfl) (by rfl) (V4.out _ H5.out) ?_ | refine wpList_vload (by rfl) _ (by rfl) (by rfl) (V5.out _ H5.out) ?_ | refine wpList_vload (by rfl) _ (by rfl) (by rfl) (V9.out _ H5.out) ?_ | refine wpList_vload (by rfl) _ (by rfl) (by rfl) (V10.out _ H5.out) ?_)
          refine (CAM.out _).mono ?_
          rintro e w205 ⟨rfl, h8⟩
          have H6 := Lib.hid (H5.out.trans h8.below)
          clear h8
          go_wp2_with (first | refine wpList_vload (by rfl) _ (by rfl) (by rfl) (V3.out _ H6.out) ?_ | refine wpList_vload (by rfl) _ (by rfl) (by rfl) (V4.out _ H6.out) ?_ | refine wpList_vload (by rfl) _ (by rfl) (by rfl) (V5.out _ H6.out) ?_ | refine wpList_vload (by rfl) _ (by rfl) (by rfl) (V9.out _ H6.out) ?_ | refine wpList_vload (by rfl) _ (by rfl) (by rfl) (V10.out _ H6.out) ?_)
          refine (CBM.out _).mono ?_
          rintro e w206 ⟨rfl, h8⟩
          have H7 := Lib.hid (H6.out.trans h8.below)
          clear h8
          go_wp2_with (first | refine wpList_vload (by rfl) _ (by rfl) (by rfl) (V3.out _ H7.out) ?_ | refine wpList_vload (by rfl) _ (by rfl) (by rfl) (V4.out _ H7.out) ?_ | refine wpList_vload (by rfl) _ (by rfl) (by rfl) (V5.out _ H7.out) ?_ | refine wpList_vload (by rfl) _ (by rfl) (by rfl) (V9.out _ H7.out) ?_ | refine wpList_vload (by rfl) _ (by rfl) (by rfl) (V10.out _ H7.out) ?_)
          refine (CCJ.out _).mono ?_
          rintro e w207 ⟨rfl, h8⟩
          have H8 := Lib.hid (H7.out.trans h8.below)
          clear h8
          go_wp2_with (first | refine wpList_vload (by rfl) _ (by rfl) (by rfl) (V3.out _ H8.out) ?_ | refine wpList_vload (by rfl) _ (by rfl) (by rfl) (V4.out _ H8.out) ?_ | refine wpList_vload (by rfl) _ (by rfl) (by rfl) (V5.out _ H8.out) ?_ | refine wpList_vload (by rfl) _ (by rfl) (by rfl) (V9.out _ H8.out) ?_ | refine wpList_vload (by rfl) _ (by rfl) (by rfl) (V10.out _ H8.out) ?_)
          refine (CBC.out _).mono ?_
          rintro e w208 ⟨rfl, h8⟩
          have H9 := Lib.hid (H8.out.trans h8.below)
          clear h8
          go_wp2_with (first | refine wpList_vload (by rfl) _ (by rfl) (by rfl) (V3.out _ H9.out) ?_ | refine wpList_vload (by rfl) _ (by rfl) (by rfl) (V4.out _ H9.out) ?_ | refine wpList_vload (by rfl) _ (by rfl) (by rfl) (V5.out _ H9.out) ?_ | refine wpList_vload (by rfl) _ (by rfl) (by rfl) (V9.out _ H9.out) ?_ | refine wpList_vload (by rfl) _ (by rfl) (by rfl) (V10.out _ H9.out) ?_)
          refine (CAC.out _).mono ?_
          rintro e w209 ⟨rfl, h8⟩
          have H10 := Lib.hid (H9.out.trans h8.below)
          clear h8
          have LQ := Lib.hid (LS.out.trans H10.out.below)
          go_wp2_with fail
          go_ret
          exact ⟨rfl, LQ.out⟩
        · go_wp2_with (first | refine wpList_vload (by rfl) _ (by rfl) (by rfl) (V3.out _ H0.out) ?_ | refine wpList_vload (by rfl) _ (by rfl) (by rfl) (V4.out _ H0.out) ?_ | refine wpList_vload (by rfl) _ (by rfl) (by rfl) (V5.out _ H0.out) ?_ | refine wpList_vload (by rfl) _ (by rfl) (by rfl) (V9.out _ H0.out) ?_ | refine wpList_vload (by rfl) _ (by rfl) (by rfl) (V10.out _ H0.out) ?_)
          refine (CCA.out _).mono ?_
          rintro e w200 ⟨rfl, h8⟩
          have H1 := Lib.hid (H0.out.trans h8.below)
          clear h8
          go_wp2_with (first | refine wpList_vload (by rfl) _ (by rfl) (by rfl) (V3.out _ H1.out) ?_ | refine wpList_vload (by rfl) _ (by rfl) (by rfl) (V4.out _ H1.out) ?_ | refine wpList_vload (by rfl) _ (by rfl) (by rfl) (V5.out _ H1.out) ?_ | refine wpList_vload (by rfl) _ (by rfl) (by rfl) (V9.out _ H1.out) ?_ | refine wpList_vload (by rfl) _ (by rfl) (by rfl) (V10.out _ H1.out) ?_)
          refine (CCB.out _).mono ?_
          rintro e w201 ⟨rfl, h8⟩
          have H2 := Lib.hid (H1.out.trans h8.below)
          clear h8
          go_wp2_with (first | refine wpList_vload (by rfl) _ (by rfl) (by rfl) (V3.out _ H2.out) ?_ | refine wpList_vload (by rfl) _ (by rfl) (by rfl) (V4.out _ H2.out) ?_ | refine wpList_vload (by rfl) _ (by rfl) (by rfl) (V5.out _ H2.out) ?_ | refine wpList_vload (by rfl) _ (by rfl) (by rfl) (V9.out _ H2.out) ?_ | refine wpList_vload (by rfl) _ (by rfl) (by rfl) (V10.out _ H2.out) ?_)
          refine (AW.out _).mono ?_
          rintro e w202 ⟨rfl, h8⟩
          have H3 := Lib.hid (H2.out.trans h8)
          clear h8
          go_wp2_with (first | refine wpList_vload (by rfl) _ (by rfl) (by rfl) (V3.out _ H3.out) ?_ | refine wpList_vload (by rfl) _ (by rfl) (by rfl) (V4.out _ H3.out) ?_ | refine wpList_vload (by rfl) _ (by rfl) (by rfl) (V5.out _ H3.out) ?_ | refine wpList_vload (by rfl) _ (by rfl) (by rfl) (V9.out _ H3.out) ?_ | refine wpList_vload (by rfl) _ (by rfl) (by rfl) (V10.out _ H3.out) ?_)
          refine (CJA.out _).mono ?_
          rintro e w203 ⟨rfl, h8⟩
          have H4 := Lib.hid (H3.out.trans h8.below)
          clear h8
          go_wp2_with (first | refine wpList_vload (by rfl) _ (by rfl) (by rfl) (V3.out _ H4.out) ?_ | refine wpList_vload (by rfl) _ (by rfl) (by rfl) (V4.out _ H4.out) ?_ | refine wpList_vload (by rfl) _ (by rfl) (by rfl) (V5.out _ H4.out) ?_ | refine wpList_vload (by rfl) _ (by rfl) (by rfl) (V9.out _ H4.out) ?_ | refine wpList_vload (by rfl) _ (by rfl) (by rfl) (V10.out _ H4.out) ?_)
          refine (CJB.out _).mono ?_
          rintro e w204 ⟨rfl, h8⟩
          have H5 := Lib.hid (H4.out.trans h8.below)
          clear h8
          go_wp2_with (first | refine wpList_vload (by rfl) _ (by rfl) (by rfl) (V3.out _ H5.out) ?_ | refine wpList_vload (by rfl) _ (by rfl) (by rfl) (V4.out _ H5.out) ?_ | refine wpList_vload (by rfl) _ (by rfl) (by rfl) (V5.out _ H5.out) ?_ | refine wpList_vload (by rfl) _ (by rfl) (by rfl) (V9.out _ H5.out) ?_ | refine wpList_vload (by rfl) _ (by rfl) (by rfl) (V10.out _ H5.out) ?_)
          refine (CAM.out _).mono ?_
          rintro e w205 ⟨rfl, h8⟩
          have H6 := Lib.hid (H5.out.trans h8.below)
          clear h8
          go_wp2_with (first | refine wpList_vload (by rfl) _ (by rfl) (by rfl) (V3.out _ H6.out) ?_ | refine wpList_vload (by rfl) _ (by rfl) (by rfl) (V4.out _ H6.out) ?_ | refine wpList_vload (by rfl) _ (by rfl) (by rfl) (V5.out _ H6.out) ?_ | refine wpList_vload (by rfl) _ (by rfl) (by rfl) (V9.out _ H6.out) ?_ | refine wpList_vload (by rfl) _ (by rfl) (by rfl) (V10.out _ H6.out) ?_)
          refine (CBM.out _).mono ?_
          rintro e w206 ⟨rfl, h8⟩
          have H7 := Lib.hid (H6.out.trans h8.below)
          clear h8
          go_wp2_with (first | refine wpList_vload (by rfl) _ (by rfl) (by rfl) (V3.out _ H7.out) ?_ | refine wpList_vload (by rfl) _ (by rfl) (by rfl) (V4.out _ H7.out) ?_ | refine wpList_vload (by rfl) _ (by rfl) (by rfl) (V5.out _ H7.out) ?_ | refine wpList_vload (by rfl) _ (by rfl) (by rfl) (V9.out _ H7.out) ?_ | refine wpList_vload (by rfl) _ (by rfl) (by rfl) (V10.out _ H7.out) ?_)
          refine (CCJ.out _).mono ?_
          rintro e w207 ⟨rfl, h8⟩
          have H8 := Lib.hid (H7.out.trans h8.below)
          clear h8
          go_wp2_with (first | refine wpList_vload (by rfl) _ (by rfl) (by rfl) (V3.out _ H8.out) ?_ | refine wpList_vload (by rfl) _ (by rfl) (by rfl) (V4.out _ H8.out) ?_ | refine wpList_vload (by rfl) _ (by rfl) (by rfl) (V5.out _ H8.out) ?_ | refine wpList_vload (by rfl) _ (by rfl) (by rfl) (V9.out _ H8.out) ?_ | refine wpList_vload (by rfl) _ (by rfl) (by rfl) (V10.out _ H8.out) ?_)
          refine (CBC.out _).mono ?_
          rintro e w208 ⟨rfl, h8⟩
          have H9 := Lib.hid (H8.out.trans h8.below)
          clear h8
          have LQ := Lib.hid (LS.out.trans H9.out.below)
          go_wp2_with fail
          go_ret
          exact ⟨rfl, LQ.out⟩
        · go_wp2_with (first | refine wpList_vload (by rfl) _ (by rfl) (by rfl) (V3.out _ H0.out) ?_ | refine wpList_vload (by rfl) _ (by rfl) (by rfl) (V4.out _ H0.out) ?_ | refine wpList_vload (by rfl) _ (by rfl) (by rfl) (V5.out _ H0.out) ?_ | refine wpList_vload (by rfl) _ (by rfl) (by rfl) (V9.out _ H0.out) ?_ | refine wpList_vload (by rfl) _ (by rfl) (by rfl) (V10.out _ H0.out) ?_)
          refine (CCA.out _).mono ?_
          rintro e w200 ⟨rfl, h8⟩
          have H1 := Lib.hid (H0.out.trans h8.below)
          clear h8
          go_wp2_with (first | refine wpList_vload (by rfl) _ (by rfl) (by rfl) (V3.out _ H1.out) ?_ | refine wpList_vload (by rfl) _ (by rfl) (by rfl) (V4.out _ H1.out) ?_ | refine wpList_vload (by rfl) _ (by rfl) (by rfl) (V5.out _ H1.out) ?_ | refine wpList_vload (by rfl) _ (by rfl) (by rfl) (V9.out _ H1.out) ?_ | refine wpList_vload (by rfl) _ (by rfl) (by rfl) (V10.out _ H1.out) ?_)
          refine (CCB.out _).mono ?_
          rintro e w201 ⟨rfl, h8⟩
          have H2 := Lib.hid (H1.out.trans h8.below)
          clear h8
          go_wp2_with (first | refine wpList_vload (by rfl) _ (by rfl) (by rfl) (V3.out _ H2.out) ?_ | refine wpList_vload (by rfl) _ (by rfl) (by rfl) (V4.out _ H2.out) ?_ | refine wpList_vload (by rfl) _ (by rfl) (by rfl) (V5.out _ H2.out) ?_ | refine wpList_vload (by rfl) _ (by rfl) (by rfl) (V9.out _ H2.out) ?_ | refine wpList_vload (by rfl) _ (by rfl) (by rfl) (V10.out _ H2.out) ?_)
          refine (AW.out _).mono ?_
          rintro e w202 ⟨rfl, h8⟩
          have H3 := Lib.hid (H2.out.trans h8)
          clear h8
          go_wp2_with (first | refine wpList_vload (by rfl) _ (by rfl) (by rfl) (V3.out _ H3.out) ?_ | refine wpList_vload (by rfl) _ (by rfl) (by rfl) (V4.out _ H3.out) ?_ | refine wpList_vload (by rfl) _ (by rfl) (by rfl) (V5.out _ H3.out) ?_ | refine wpList_vload (by rfl) _ (by rfl) (by rfl) (V9.out _ H3.out) ?_ | refine wpList_vload (by rfl) _ (by rfl) (by rfl) (V10.out _ H3.out) ?_)
          refine (CJA.out _).mono ?_
          rintro e w203 ⟨rfl, h8⟩
          have H4 := Lib.hid (H3.out.trans h8.below)
          clear h8
          go_wp2_with (first | refine wpList_vload (by rfl) _ (by rfl) (by rfl) (V3.out _ H4.out) ?_ | refine wpList_vload (by rfl) _ (by rfl) (by rfl) (V4.out _ H4.out) ?_ | refine wpList_vload (by rfl) _ (by rfl) (by rfl) (V5.out _ H4.out) ?_ | refine wpList_vload (by rfl) _ (by rfl) (by rfl) (V9.out _ H4.out) ?_ | refine wpList_vload (by rfl) _ (by rfl) (by rfl) (V10.out _ H4.out) ?_)
          refine (CJB.out _).mono ?_
          rintro e w204 ⟨rfl, h8⟩
          have H5 := Lib.hid (H4.out.trans h8.below)
          clear h8
          go_wp2_with (first | refine wpList_vload (by rfl) _ (by rfl) (by rfl) (V3.out _ H5.out) ?_ | refine wpList_vload (by rfl) _ (by rfl) (by rfl) (V4.out _ H5.out) ?_ | refine wpList_vload (by rfl) _ (by rfl) (by rfl) (V5.out _ H5.out) ?_ | refine wpList_vload (by rfl) _ (by rfl) (by rfl) (V9.out _ H5.out) ?_ | refine wpList_vload (by rfl) _ (by rfl) (by rfl) (V10.out _ H5.out) ?_)
          refine (CAM.out _).mono ?_
          rintro e w205 ⟨rfl, h8⟩
          have H6 := Lib.hid (H5.out.trans h8.below)
          clear h8
          go_wp2_with (first | refine wpList_vload (by rfl) _ (by rfl) (by rfl) (V3.out _ H6.out) ?_ | refine wpList_vload (by rfl) _ (by rfl) (by rfl) (V4.out _ H6.out) ?_ | refine wpList_vload (by rfl) _ (by rfl) (by rfl) (V5.out _ H6.out) ?_ | refine wpList_vload (by rfl) _ (by rfl) (by rfl) (V9.out _ H6.out) ?_ | refine wpList_vload (by rfl) _ (by rfl) (by rfl) (V10.out _ H6.out) ?_)
          refine (CBM.out _).mono ?_
          rintro e w206 ⟨rfl, h8⟩
          have H7 := Lib.hid (H6.out.trans h8.below)
          clear h8
          go_wp2_with (first | refine wpList_vload (by rfl) _ (by rfl) (by rfl) (V3.out _ H7.out) ?_ | refine wpList_vload (by rfl) _ (by rfl) (by rfl) (V4.out _ H7.out) ?_ | refine wpList_vload (by rfl) _ (by rfl) (by rfl) (V5.out _ H7.out) ?_ | refine wpList_vload (by rfl) _ (by rfl) (by rfl) (V9.out _ H7.out) ?_ | refine wpList_vload (by rfl) _ (by rfl) (by rfl) (V10.out _ H7.out) ?_)
          refine (CCJ.out _).mono ?_
          rintro e w207 ⟨rfl, h8⟩
          have H8 := Lib.hid (H7.out.trans h8.below)
          clear h8
          have LQ := Lib.hid (LS.out.trans H8.out.below)
          go_wp2_with fail
          go_ret
          exact ⟨rfl, LQ.out⟩
      · rcases hc3 with ⟨rfl, rfl, rfl⟩ | ⟨rfl, rfl⟩ | rfl
        · go_wp2_with (first | refine wpList_vload (by rfl) _ (by rfl) (by rfl) (V3.out _ H0.out) ?_ | refine wpList_vload (by rfl) _ (by rfl) (by rfl) (V4.out _ H0.out) ?_ | refine wpList_vload (by rfl) _ (by rfl) (by rfl) (V5.out _ H0.out) ?_ | refine wpList_vload (by rfl) _ (by rfl) (by rfl) (V9.out _ H0.out) ?_ | refine wpList_vload (by rfl) _ (by rfl) (by rfl) (V10.out _ H0.out) ?_)
          refine (CCA.out _).mono ?_
          rintro e w200 ⟨rfl, h8⟩
          have H1 := Lib.hid (H0.out.trans h8.below)
          clear h8
          go_wp2_with (first | refine wpList_vload (by rfl) _ (by rfl) (by rfl) (V3.out _ H1.out) ?_ | refine wpList_vload (by rfl) _ (by rfl) (by rfl) (V4.out _ H1.out) ?_ | refine wpList_vload (by rfl) _ (by rfl) (by rfl) (V5.out _ H1.out) ?_ | refine wpList_vload (by rfl) _ (by rfl) (by rfl) (V9.out _ H1.out) ?_ | refine wpList_vload (by rfl) _ (by rfl) (by rfl) (V10.out _ H1.out) ?_)
          refine (AW.out _).mono ?_
          rintro e w201 ⟨rfl, h8⟩
          have H2 := Lib.hid (H1.out.trans h8)
          clear h8
          go_wp2_with (first | refine wpList_vload (by rfl) _ (by rfl) (by rfl) (V3.out _ H2.out) ?_ | refine wpList_vload (by rfl) _ (by rfl) (by rfl) (V4.out _ H2.out) ?_ | refine wpList_vload (by rfl) _ (by rfl) (by rfl) (V5.out _ H2.out) ?_ | refine wpList_vload (by rfl) _ (by rfl) (by rfl) (V9.out _ H2.out) ?_ | refine wpList_vload (by rfl) _ (by rfl) (by rfl) (V10.out _ H2.out) ?_)
          refine (CJA.out _).mono ?_
          rintro e w202 ⟨rfl, h8⟩
          have H3 := Lib.hid (H2.out.trans h8.below)
          clear h8
          go_wp2_with (first | refine wpList_vload (by rfl) _ (by rfl) (by rfl) (V3.out _ H3.out) ?_ | refine wpList_vload (by rfl) _ (by rfl) (by rfl) (V4.out _ H3.out) ?_ | refine wpList_vload (by rfl) _ (by rfl) (by rfl) (V5.out _ H3.out) ?_ | refine wpList_vload (by rfl) _ (by rfl) (by rfl) (V9.out _ H3.out) ?_ | refine wpList_vload (by rfl) _ (by rfl) (by rfl) (V10.out _ H3.out) ?_)
          refine (CJB.out _).mono ?_
          rintro e w203 ⟨rfl, h8⟩
          have H4 := Lib.hid (H3.out.trans h8.below)
          clear h8
          go_wp2_with (first | refine wpList_vload (by rfl) _ (by rfl) (by rfl) (V3.out _ H4.out) ?_ | refine wpList_vload (by rfl) _ (by rfl) (by rfl) (V4.out _ H4.out) ?_ | refine wpList_vload (by rfl) _ (by rfl) (by rfl) (V5.out _ H4.out) ?_ | refine wpList_vload (by rfl) _ (by rfl) (by rfl) (V9.out _ H4.out) ?_ | refine wpList_vload (by rfl) _ (by rfl) (by rfl) (V10.out _ H4.out) ?_)
          refine (CAM.out _).mono ?_
          rintro e w204 ⟨rfl, h8⟩
          have H5 := Lib.hid (H4.out.trans h8.below)
          clear h8
          go_wp2_with (first | refine wpList_vload (by rfl) _ (by rfl) (by rfl) (V3.out _ H5.out) ?_ | refine wpList_vload (by rfl) _ (by rfl) (by rfl) (V4.out _ H5.out) ?_ | refine wpList_vload (by rfl) _ (by rfl) (by rfl) (V5.out _ H5.out) ?_ | refine wpList_vload (by rfl) _ (by rfl) (by rfl) (V9.out _ H5.out) ?_ | refine wpList_vload (by rfl) _ (by rfl) (by rfl) (V10.out _ H5.out) ?_)
          refine (CBM.out _).mono ?_
          rintro e w205 ⟨rfl, h8⟩
          have H6 := Lib.hid (H5.out.trans h8.below)
          clear h8
          go_wp2_with (first | refine wpList_vload (by rfl) _ (by rfl) (by rfl) (V3.out _ H6.out) ?_ | refine wpList_vload (by rfl) _ (by rfl) (by rfl) (V4.out _ H6.out) ?_ | refine wpList_vload (by rfl) _ (by rfl) (by rfl) (V5.out _ H6.out) ?_ | refine wpList_vload (by rfl) _ (by rfl) (by rfl) (V9.out _ H6.out) ?_ | refine wpList_vload (by rfl) _ (by rfl) (by rfl) (V10.out _ H6.out) ?_)
          refine (CCJ.out _).mono ?_
          rintro e w206 ⟨rfl, h8⟩
          have H7 := Lib.hid (H6.out.trans h8.below)
          clear h8
          go_wp2_with (first | refine wpList_vload (by rfl) _ (by rfl) (by rfl) (V3.out _ H7.out) ?_ | refine wpList_vload (by rfl) _ (by rfl) (by rfl) (V4.out _ H7.out) ?_ | refine wpList_vload (by rfl) _ (by rfl) (by rfl) (V5.out _ H7.out) ?_ | refine wpList_vload (by rfl) _ (by rfl) (by rfl) (V9.out _ H7.out) ?_ | refine wpList_vload (by rfl) _ (by rfl) (by rfl) (V10.out _ H7.out) ?_)
          refine (CBC.out _).mono ?_
          rintro e w207 ⟨rfl, h8⟩
          have H8 := Lib.hid (H7.out.trans h8.below)
          clear h8
          go_wp2_with (first | refine wpList_vload (by rfl) _ (by rfl) (by rfl) (V3.out _ H8.out) ?_ | refine wpList_vload (by rfl) _ (by rfl) (by rfl) (V4.out _ H8.out) ?_ | refine wpList_vload (by rfl) _ (by rfl) (by rfl) (V5.out _ H8.out) ?_ | refine wpList_vload (by rfl) _ (by rfl) (by rfl) (V9.out _ H8.out) ?_ | refine wpList_vload (by rfl) _ (by rfl) (by rfl) (V10.out _ H8.out) ?_)
          refine (CAC.out _).mono ?_
          rintro e w208 ⟨rfl, h8⟩
          have H9 := Lib.hid (H8.out.trans h8.below)
          clear h8
          have LQ := Lib.hid (LS.out.trans H9.out.below)
          go_wp2_with fail
          go_ret
          exact ⟨rfl, LQ.out⟩
        · go_wp2_with (first | refine wpList_vload (by rfl) _ (by rfl) (by rfl) (V3.out _ H0.out) ?_ | refine wpList_vload (by rfl) _ (by rfl) (by rfl) (V4.out _ H0.out) ?_ | refine wpList_vload (by rfl) _ (by rfl) (by rfl) (V5.out _ H0.out) ?_ | refine wpList_vload (by rfl) _ (by rfl) (by rfl) (V9.out _ H0.out) ?_ | refine wpList_vload (by rfl) _ (by rfl) (by rfl) (V10.out _ H0.out) ?_)
          refine (CCA.out _).mono ?_
          rintro e w200 ⟨rfl, h8⟩
          have H1 := Lib.hid (H0.out.trans h8.below)
          clear h8
          go_wp2_with (first | refine wpList_vload (by rfl) _ (by rfl) (by rfl) (V3.out _ H1.out) ?_ | refine wpList_vload (by rfl) _ (by rfl) (by rfl) (V4.out _ H1.out) ?_ | refine wpList_vload (by rfl) _ (by rfl) (by rfl) (V5.out _ H1.out) ?_ | refine wpList_vload (by rfl) _ (by rfl) (by rfl) (V9.out _ H1.out) ?_ | refine wpList_vload (by rfl) _ (by rfl) (by rfl) (V10.out _ H1.out) ?_)
          refine (AW.out _).mono ?_
          rintro e w201 ⟨rfl, h8⟩
          have H2 := Lib.hid (H1.out.trans h8)
          clear h8
          go_wp2_with (first | refine wpList_vload (by rfl) _ (by rfl) (by rfl) (V3.out _ H2.out) ?_ | refine wpList_vload (by rfl) _ (by rfl) (by rfl) (V4.out _ H2.out) ?_ | refine wpList_vload (by rfl) _ (by rfl) (by rfl) (V5.out _ H2.out) ?_ | refine wpList_vload (by rfl) _ (by rfl) (by rfl) (V9.out _ H2.out) ?_ | refine wpList_vload (by rfl) _ (by rfl) (by rfl) (V10.out _ H2.out) ?_)
          refine (CJA.out _).mono ?_
          rintro e w202 ⟨rfl, h8⟩
          have H3 := Lib.hid (H2.out.trans h8.below)
          clear h8
          go_wp2_with (first | refine wpList_vload (by rfl) _ (by rfl) (by rfl) (V3.out _ H3.out) ?_ | refine wpList_vload (by rfl) _ (by rfl) (by rfl) (V4.out _ H3.out) ?_ | refine wpList_vload (by rfl) _ (by rfl) (by rfl) (V5.out _ H3.out) ?_ | refine wpList_vload (by rfl) _ (by rfl) (by rfl) (V9.out _ H3.out) ?_ | refine wpList_vload (by rfl) _ (by rfl) (by rfl) (V10.out _ H3.out) ?_)
          refine (CJB.out _).mono ?_
          rintro e w203 ⟨rfl, h8⟩
          have H4 := Lib.hid (H3.out.trans h8.below)
          clear h8
          go_wp2_with (first | refine wpList_vload (by rfl) _ (by rfl) (by rfl) (V3.out _ H4.out) ?_ | refine wpList_vload (by rfl) _ (by rfl) (by rfl) (V4.out _ H4.out) ?_ | refine wpList_vload (by rfl) _ (by rfl) (by rfl) (V5.out _ H4.out) ?_ | refine wpList_vload (by rfl) _ (by rfl) (by rfl) (V9.out _ H4.out) ?_ | refine wpList_vload (by rfl) _ (by rfl) (by rfl) (V10.out _ H4.out) ?_)
          refine (CAM.out _).mono ?_
          rintro e w204 ⟨rfl, h8⟩
          have H5 := Lib.hid (H4.out.trans h8.below)
          clear h8
          go_wp2_with (first | refine wpList_vload (by rfl) _ (by rfl) (by rfl) (V3.out _ H5.out) ?_ | refine wpList_vload (by rfl) _ (by rfl) (by rfl) (V4.out _ H5.out) ?_ | refine wpList_vload (by rfl) _ (by rfl) (by rfl) (V5.out _ H5.out) ?_ | refine wpList_vload (by rfl) _ (by rfl) (by rfl) (V9.out _ H5.out) ?_ | refine wpList_vload (by rfl) _ (by rfl) (by rfl) (V10.out _ H5.out) ?_)
          refine (CBM.out _).mono ?_
          rintro e w205 ⟨rfl, h8⟩
          have H6 := Lib.hid (H5.out.trans h8.below)
          clear h8
          go_wp2_with (first | refine wpList_vload (by rfl) _ (by rfl) (by rfl) (V3.out _ H6.out) ?_ | refine wpList_vload (by rfl) _ (by rfl) (by rfl) (V4.out _ H6.out) ?_ | refine wpList_vload (by rfl) _ (by rfl) (by rfl) (V5.out _ H6.out) ?_ | refine wpList_vload (by rfl) _ (by rfl) (by rfl) (V9.out _ H6.out) ?_ | refine wpList_vload (by rfl) _ (by rfl) (by rfl) (V10.out _ H6.out) ?_)
          refine (CCJ.out _).mono ?_
          rintro e w206 ⟨rfl, h8⟩
          have H7 := Lib.hid (H6.out.trans h8.below)
          clear h8
          go_wp2_with (first | refine wpList_vload (by rfl) _ (by rfl) (by rfl) (V3.out _ H7.out) ?_ | refine wpList_vload (by rfl) _ (by rfl) (by rfl) (V4.out _ H7.out) ?_ | refine wpList_vload (by rfl) _ (by rfl) (by rfl) (V5.out _ H7.out) ?_ | refine wpList_vload (by rfl) _ (by rfl) (by rfl) (V9.out _ H7.out) ?_ | refine wpList_vload (by rfl) _ (by rfl) (by rfl) (V10.out _ H7.out) ?_)
          refine (CBC.out _).mono ?_
          rintro e w207 ⟨rfl, h8⟩
          have H8 := Lib.hid (H7.out.trans h8.below)
          clear h8
          have LQ := Lib.hid (LS.out.trans H8.out.below)
          go_wp2_with fail
          go_ret
          exact ⟨rfl, LQ.out⟩
        · go_wp2_with (first | refine wpList_vload (by rfl) _ (by rfl) (by rfl) (V3.out _ H0.out) ?_ | refine wpList_vload (by rfl) _ (by rfl) (by rfl) (V4.out _ H0.out) ?_ | refine wpList_vload (by rfl) _ (by rfl) (by rfl) (V5.out _ H0.out) ?_ | refine wpList_vload (by rfl) _ (by rfl) (by rfl) (V9.out _ H0.out) ?_ | refine wpList_vload (by rfl) _ (by rfl) (by rfl) (V10.out _ H0.out) ?_)
          refine (CCA.out _).mono ?_
          rintro e w200 ⟨rfl, h8⟩
          have H1 := Lib.hid (H0.out.trans h8.below)
          clear h8
          go_wp2_with (first | refine wpList_vload (by rfl) _ (by rfl) (by rfl) (V3.out _ H1.out) ?_ | refine wpList_vload (by rfl) _ (by rfl) (by rfl) (V4.out _ H1.out) ?_ | refine wpList_vload (by rfl) _ (by rfl) (by rfl) (V5.out _ H1.out) ?_ | refine wpList_vload (by rfl) _ (by rfl) (by rfl) (V9.out _ H1.out) ?_ | refine wpList_vload (by rfl) _ (by rfl) (by rfl) (V10.out _ H1.out) ?_)
          refine (AW.out _).mono ?_
          rintro e w201 ⟨rfl, h8⟩
          have H2 := Lib.hid (H1.out.trans h8)
          clear h8
          go_wp2_with (first | refine wpList_vload (by rfl) _ (by rfl) (by rfl) (V3.out _ H2.out) ?_ | refine wpList_vload (by rfl) _ (by rfl) (by rfl) (V4.out _ H2.out) ?_ | refine wpList_vload (by rfl) _ (by rfl) (by rfl) (V5.out _ H2.out) ?_ | refine wpList_vload (by rfl) _ (by rfl) (by rfl) (V9.out _ H2.out) ?_ | refine wpList_vload (by rfl) _ (by rfl) (by rfl) (V10.out _ H2.out) ?_)
          refine (CJA.out _).mono ?_
          rintro e w202 ⟨rfl, h8⟩
          have H3 := Lib.hid (H2.out.trans h8.below)
          clear h8
          go_wp2_with (first | refine wpList_vload (by rfl) _ (by rfl) (by rfl) (V3.out _ H3.out) ?_ | refine wpList_vload (by rfl) _ (by rfl) (by rfl) (V4.out _ H3.out) ?_ | refine wpList_vload (by rfl) _ (by rfl) (by rfl) (V5.out _ H3.out) ?_ | refine wpList_vload (by rfl) _ (by rfl) (by rfl) (V9.out _ H3.out) ?_ | refine wpList_vload (by rfl) _ (by rfl) (by rfl) (V10.out _ H3.out) ?_)
          refine (CJB.out _).mono ?_
          rintro e w203 ⟨rfl, h8⟩
          have H4 := Lib.hid (H3.out.trans h8.below)
          clear h8
          go_wp2_with (first | refine wpList_vload (by rfl) _ (by rfl) (by rfl) (V3.out _ H4.out) ?_ | refine wpList_vload (by rfl) _ (by rfl) (by rfl) (V4.out _ H4.out) ?_ | refine wpList_vload (by rfl) _ (by rfl) (by rfl) (V5.out _ H4.out) ?_ | refine wpList_vload (by rfl) _ (by rfl) (by rfl) (V9.out _ H4.out) ?_ | refine wpList_vload (by rfl) _ (by rfl) (by rfl) (V10.out _ H4.out) ?_)
          refine (CAM.out _).mono ?_
          rintro e w204 ⟨rfl, h8⟩
          have H5 := Lib.hid (H4.out.trans h8.below)
          clear h8
          go_wp2_with (first | refine wpList_vload (by rfl) _ (by rfl) (by rfl) (V3.out _ H5.out) ?_ | refine wpList_vload (by rfl) _ (by rfl) (by rfl) (V4.out _ H5.out) ?_ | refine wpList_vload (by rfl) _ (by rfl) (by rfl) (V5.out _ H5.out) ?_ | refine wpList_vload (by rfl) _ (by rfl) (by rfl) (V9.out _ H5.out) ?_ | refine wpList_vload (by rfl) _ (by rfl) (by rfl) (V10.out _ H5.out) ?_)
          refine (CBM.out _).mono ?_
          rintro e w205 ⟨rfl, h8⟩
          have H6 := Lib.hid (H5.out.trans h8.below)
          clear h8
          go_wp2_with (first | refine wpList_vload (by rfl) _ (by rfl) (by rfl) (V3.out _ H6.out) ?_ | refine wpList_vload (by rfl) _ (by rfl) (by rfl) (V4.out _ H6.out) ?_ | refine wpList_vload (by rfl) _ (by rfl) (by rfl) (V5.out _ H6.out) ?_ | refine wpList_vload (by rfl) _ (by rfl) (by rfl) (V9.out _ H6.out) ?_ | refine wpList_vload (by rfl) _ (by rfl) (by rfl) (V10.out _ H6.out) ?_)
          refine (CCJ.out _).mono ?_
          rintro e w206 ⟨rfl, h8⟩
          have H7 := Lib.hid (H6.out.trans h8.below)
          clear h8
          have LQ := Lib.hid (LS.out.trans H7.out.below)
          go_wp2_with fail
          go_ret
          exact ⟨rfl, LQ.out⟩
    have Tail := Lib.hid tail
    clear tail hKK
    refine wp_region_tail (n := 8) (S := (fun w' : World => Laid W0 w')) (by kernel_rfl) (by kernel_rfl) (by rfl) ((Laid.refl W0).drew) (fun hHeld => ?_)
    generalize W0.drew = wd at *
    refine wpAnyH_take (i := 0) (v := vecA a) rfl (by kernel_rfl) (by kernel_rfl) (by kernel_rfl) (fun _ _ _ h => h) (Or.inl ⟨by rfl, (by intro w hSw; exact exec_vload (by rfl) (by rfl) (V3.out _ (Laid.below hSw)))⟩) (by assumption) ?_
    simp only [Act.put, List.getElem_toArray, List.getElem_cons_zero, List.getElem_cons_succ, List.setIfInBounds_toArray, List.set_cons_zero, List.set_cons_succ]
    refine wpAnyH_take (i := 1) (v := vecA b) rfl (by kernel_rfl) (by kernel_rfl) (by kernel_rfl) (fun _ _ _ h => h) (Or.inl ⟨by rfl, (by intro w hSw; exact exec_vload (by rfl) (by rfl) (V4.out _ (Laid.below hSw)))⟩) (by assumption) ?_
    simp only [Act.put, List.getElem_toArray, List.getElem_cons_zero, List.getElem_cons_succ, List.setIfInBounds_toArray, List.set_cons_zero, List.set_cons_succ]
    refine wpAnyH_take (i := 3) (v := vecA a) rfl (by kernel_rfl) (by kernel_rfl) (by kernel_rfl) (fun _ _ _ h => h) (Or.inl ⟨by rfl, (by intro w hSw; exact exec_vload (by rfl) (by rfl) (V3.out _ (Laid.below hSw)))⟩) (by assumption) ?_
    simp only [Act.put, List.getElem_toArray, List.getElem_cons_zero, List.getElem_cons_succ, List.setIfInBounds_toArray, List.set_cons_zero, List.set_cons_succ]
    refine wpAnyH_take (i := 4) (v := vecA b) rfl (by kernel_rfl) (by kernel_rfl) (by kernel_rfl) (fun _ _ _ h => h) (Or.inl ⟨by rfl, (by intro w hSw; exact exec_vload (by rfl) (by rfl) (V4.out _ (Laid.below hSw)))⟩) (by assumption) ?_
    simp only [Act.put, List.getElem_toArray, List.getElem_cons_zero, List.getElem_cons_succ, List.setIfInBounds_toArray, List.set_cons_zero, List.set_cons_succ]
    refine wpAnyH_ready (rs := [2, 6, 7]) (by kernel_rfl) (by simp) ?_
    refine (AllReadyH.cons rfl (fun K hK => ?_) (AllReadyH.cons rfl (fun K hK => ?_) (AllReadyH.cons rfl (fun K hK => ?_) AllReadyH.nil)))
    · go_simp
      go_at_call 22
      refine (JO.out _).mono ?_
      rintro e w101 ⟨rfl, h8⟩
      have hL := Laid.trans hHeld h8
      refine hK.out _ _ hL (fun hHeld => ?_)
      clear h8 hL
      clear hK K
      refine wpAnyH_ready (rs := [5, 6, 7]) (by kernel_rfl) (by simp) ?_
      refine (AllReadyH.cons rfl (fun K hK => ?_) (AllReadyH.cons rfl (fun K hK => ?_) (AllReadyH.cons rfl (fun K hK => ?_) AllReadyH.nil)))
      · go_simp
        go_at_call 23
        refine (ME.out _).mono ?_
        rintro e w102 ⟨rfl, h8⟩
        have hL := Laid.trans hHeld h8
        refine hK.out _ _ hL (fun hHeld => ?_)
        clear h8 hL
        clear hK K
        refine wpAnyH_ready (rs := [6, 7]) (by kernel_rfl) (by simp) ?_
        refine (AllReadyH.cons rfl (fun K hK => ?_) (AllReadyH.cons rfl (fun K hK => ?_) AllReadyH.nil))
        · refine step_valloc rfl (by rfl) ?_
          rintro g9 w103 h7 h8 h9
          have hL := Laid.trans hHeld h9
          have G9 : Hid (W0.heap.size ≤ g9) := Lib.hid (by have := Laid.size hHeld; omega)
          have V9 := Lib.hid h8
          refine hK.out _ _ hL (fun hHeld => ?_)
          simp only [Act.put, List.getElem_toArray, List.getElem_cons_zero, List.getElem_cons_succ, List.setIfInBounds_toArray, List.set_cons_zero, List.set_cons_succ]
          clear hL h7 h8 h9
          clear hK K
          refine wpAnyH_ready (rs := [7]) (by kernel_rfl) (by simp) ?_
          refine (AllReadyH.cons rfl (fun K hK => ?_) AllReadyH.nil)
          refine step_valloc rfl (by rfl) ?_
          rintro g10 w104 h7 h8 h9
          have hL := Laid.trans hHeld h9
          have G10 : Hid (W0.heap.size ≤ g10) := Lib.hid (by have := Laid.size hHeld; omega)
          have N910 : Hid (g9 ≠ g10) := Lib.hid (by have := V9.out.inHeap; omega)
          have V9 := Lib.hid (V9.out.below h9.below V9.out.inHeap)
          have V10 := Lib.hid h8
          refine hK.out _ _ hL (fun hHeld => ?_)
          simp only [Act.put, List.getElem_toArray, List.getElem_cons_zero, List.getElem_cons_succ, List.setIfInBounds_toArray, List.set_cons_zero, List.set_cons_succ]
          clear hL h7 h8 h9
          clear hK K
          refine wpAnyH_done (by kernel_rfl) ?_ _
          have hHeld1 := hHeld
          refine wpAny_of_held (S := fun _ => True) _ _ _ _ ?_
          have hHeld : True := trivial
          refine wpAnyH_ready (rs := [8]) (by kernel_rfl) (by simp) ?_
          refine AllReadyH.cons rfl (fun K hK => ?_) AllReadyH.nil
          refine step_vstore (.tmp 9) (.tmp 44) rfl (by rfl) (by rfl) (by rfl) V9.out LJ.out ?_
          have L0 := Lib.hid (hHeld1.set G9.out (vecR J))
          have V10 := Lib.hid (V10.out.setElsewhere (c := g9) (by first | exact N910.out | exact (fun e => N109.out e.symm)) (vecR J))
          have V9 := Lib.hid (V9.out.set J LJ.out)
          refine hK.out _ _ trivial (fun hHeld => ?_)
          clear hK K
          refine wpAnyH_ready (rs := [9]) (by kernel_rfl) (by simp) ?_
          refine AllReadyH.cons rfl (fun K hK => ?_) AllReadyH.nil
          refine step_vstore (.tmp 10) (.tmp 47) rfl (by rfl) (by rfl) (by rfl) V10.out LM.out ?_
          have L0 := Lib.hid (L0.out.set G10.out (vecR M))
          have V9 := Lib.hid (V9.out.setElsewhere (c := g10) (by first | exact N109.out | exact (fun e => N910.out e.symm)) (vecR M))
          have V10 := Lib.hid (V10.out.set M LM.out)
          refine hK.out _ _ trivial (fun hHeld => ?_)
          clear hK K
          refine wpAnyH_done (by kernel_rfl) ?_ _
          exact Tail.out g9 g10 _ L0.out V9.out V10.out
        · refine step_valloc rfl (by rfl) ?_
          rintro g10 w103 h7 h8 h9
          have hL := Laid.trans hHeld h9
          have G10 : Hid (W0.heap.size ≤ g10) := Lib.hid (by have := Laid.size hHeld; omega)
          have V10 := Lib.hid h8
          refine hK.out _ _ hL (fun hHeld => ?_)
          simp only [Act.put, List.getElem_toArray, List.getElem_cons_zero, List.getElem_cons_succ, List.setIfInBounds_toArray, List.set_cons_zero, List.set_cons_succ]
          clear hL h7 h8 h9
          clear hK K
          refine wpAnyH_ready (rs := [6]) (by kernel_rfl) (by simp) ?_
          refine (AllReadyH.cons rfl (fun K hK => ?_) AllReadyH.nil)
          refine step_valloc rfl (by rfl) ?_
          rintro g9 w104 h7 h8 h9
          have hL := Laid.trans hHeld h9
          have G9 : Hid (W0.heap.size ≤ g9) := Lib.hid (by have := Laid.size hHeld; omega)
          have N109 : Hid (g10 ≠ g9) := Lib.hid (by have := V10.out.inHeap; omega)
          have V10 := Lib.hid (V10.out.below h9.below V10.out.inHeap)
          have V9 := Lib.hid h8
          refine hK.out _ _ hL (fun hHeld => ?_)
          simp only [Act.put, List.getElem_toArray, List.getElem_cons_zero, List.getElem_cons_succ, List.setIfInBounds_toArray, List.set_cons_zero, List.set_cons_succ]
          clear hL h7 h8 h9
          clear hK K
          refine wpAnyH_done (by kernel_rfl) ?_ _
          have hHeld1 := hHeld
          refine wpAny_of_held (S := fun _ => True) _ _ _ _ ?_
          have hHeld : True := trivial
          refine wpAnyH_ready (rs := [8]) (by kernel_rfl) (by simp) ?_
          refine AllReadyH.cons rfl (fun K hK => ?_) AllReadyH.nil
          refine step_vstore (.tmp 9) (.tmp 44) rfl (by rfl) (by rfl) (by rfl) V9.out LJ.out ?_
          have L0 := Lib.hid (hHeld1.set G9.out (vecR J))
          have V10 := Lib.hid (V10.out.setElsewhere (c := g9) (by first | exact N910.out | exact (fun e => N109.out e.symm)) (vecR J))
          have V9 := Lib.hid (V9.out.set J LJ.out)
          refine hK.out _ _ trivial (fun hHeld => ?_)
          clear hK K
          refine wpAnyH_ready (rs := [9]) (by kernel_rfl) (by simp) ?_
          refine AllReadyH.cons rfl (fun K hK => ?_) AllReadyH.nil
          refine step_vstore (.tmp 10) (.tmp 47) rfl (by rfl) (by rfl) (by rfl) V10.out LM.out ?_
          have L0 := Lib.hid (L0.out.set G10.out (vecR M))
          have V9 := Lib.hid (V9.out.setElsewhere (c := g10) (by first | exact N109.out | exact (fun e => N910.out e.symm)) (vecR M))
          have V10 := Lib.hid (V10.out.set M LM.out)
          refine hK.out _ _ trivial (fun hHeld => ?_)
          clear hK K
          refine wpAnyH_done (by kernel_rfl) ?_ _
          exact Tail.out g9 g10 _ L0.out V9.out V10.out
      · refine step_valloc rfl (by rfl) ?_
        rintro g9 w102 h7 h8 h9
        have hL := Laid.trans hHeld h9
        have G9 : Hid (W0.heap.size ≤ g9) := Lib.hid (by have := Laid.size hHeld; omega)
        have V9 := Lib.hid h8
        refine hK.out _ _ hL (fun hHeld => ?_)
        simp only [Act.put, List.getElem_toArray, List.getElem_cons_zero, List.getElem_cons_succ, List.setIfInBounds_toArray, List.set_cons_zero, List.set_cons_succ]
        clear hL h7 h8 h9
        clear hK K
        refine wpAnyH_ready (rs := [5, 7]) (by kernel_rfl) (by simp) ?_
        refine (AllReadyH.cons rfl (fun K hK => ?_) (AllReadyH.cons rfl (fun K hK => ?_) AllReadyH.nil))
        · go_simp
          go_at_call 23
          refine (ME.out _).mono ?_
          rintro e w103 ⟨rfl, h8⟩
          have hL := Laid.trans hHeld h8
          have V9 := Lib.hid (V9.out.below h8.below V9.out.inHeap)
          refine hK.out _ _ hL (fun hHeld => ?_)
          clear h8 hL
          clear hK K
          refine wpAnyH_ready (rs := [7]) (by kernel_rfl) (by simp) ?_
          refine (AllReadyH.cons rfl (fun K hK => ?_) AllReadyH.nil)
          refine step_valloc rfl (by rfl) ?_
          rintro g10 w104 h7 h8 h9
          have hL := Laid.trans hHeld h9
          have G10 : Hid (W0.heap.size ≤ g10) := Lib.hid (by have := Laid.size hHeld; omega)
          have N910 : Hid (g9 ≠ g10) := Lib.hid (by have := V9.out.inHeap; omega)
          have V9 := Lib.hid (V9.out.below h9.below V9.out.inHeap)
          have V10 := Lib.hid h8
          refine hK.out _ _ hL (fun hHeld => ?_)
          simp only [Act.put, List.getElem_toArray, List.getElem_cons_zero, List.getElem_cons_succ, List.setIfInBounds_toArray, List.set_cons_zero, List.set_cons_succ]
          clear hL h7 h8 h9
          clear hK K
          refine wpAnyH_done (by kernel_rfl) ?_ _
          have hHeld1 := hHeld
          refine wpAny_of_held (S := fun _ => True) _ _ _ _ ?_
          have hHeld : True := trivial
          refine wpAnyH_ready (rs := [8]) (by kernel_rfl) (by simp) ?_
          refine AllReadyH.cons rfl (fun K hK => ?_) AllReadyH.nil
          refine step_vstore (.tmp 9) (.tmp 44) rfl (by rfl) (by rfl) (by rfl) V9.out LJ.out ?_
          have L0 := Lib.hid (hHeld1.set G9.out (vecR J))
          have V10 := Lib.hid (V10.out.setElsewhere (c := g9) (by first | exact N910.out | exact (fun e => N109.out e.symm)) (vecR J))
          have V9 := Lib.hid (V9.out.set J LJ.out)
          refine hK.out _ _ trivial (fun hHeld => ?_)
          clear hK K
          refine wpAnyH_ready (rs := [9]) (by kernel_rfl) (by simp) ?_
          refine AllReadyH.cons rfl (fun K hK => ?_) AllReadyH.nil
          refine step_vstore (.tmp 10) (.tmp 47) rfl (by rfl) (by rfl) (by rfl) V10.out LM.out ?_
          have L0 := Lib.hid (L0.out.set G10.out (vecR M))
          have V9 := Lib.hid (V9.out.setElsewhere (c := g10) (by first | exact N109.out | exact (fun e => N910.out e.symm)) (vecR M))
          have V10 := Lib.hid (V10.out.set M LM.out)
          refine hK.out _ _ trivial (fun hHeld => ?_)
          clear hK K
          refine wpAnyH_done (by kernel_rfl) ?_ _
          exact Tail.out g9 g10 _ L0.out V9.out V10.out
        · refine step_valloc rfl (by rfl) ?_
          rintro g10 w103 h7 h8 h9
          have hL := Laid.trans hHeld h9
          have G10 : Hid (W0.heap.size ≤ g10) := Lib.hid (by have := Laid.size hHeld; omega)
          have N910 : Hid (g9 ≠ g10) := Lib.hid (by have := V9.out.inHeap; omega)
          have V9 := Lib.hid (V9.out.below h9.below V9.out.inHeap)
          have V10 := Lib.hid h8
          refine hK.out _ _ hL (fun hHeld => ?_)
          simp only [Act.put, List.getElem_toArray, List.getElem_cons_zero, List.getElem_cons_succ, List.setIfInBounds_toArray, List.set_cons_zero, List.set_cons_succ]
          clear hL h7 h8 h9
          clear hK K
          refine wpAnyH_ready (rs := [5]) (by kernel_rfl) (by simp) ?_
          refine (AllReadyH.cons rfl (fun K hK => ?_) AllReadyH.nil)
          go_simp
          go_at_call 23
          refine (ME.out _).mono ?_
          rintro e w104 ⟨rfl, h8⟩
          have hL := Laid.trans hHeld h8
          have V9 := Lib.hid (V9.out.below h8.below V9.out.inHeap)
          have V10 := Lib.hid (V10.out.below h8.below V10.out.inHeap)
          refine hK.out _ _ hL (fun hHeld => ?_)
          clear h8 hL
          clear hK K
          refine wpAnyH_done (by kernel_rfl) ?_ _
          have hHeld1 := hHeld
          refine wpAny_of_held (S := fun _ => True) _ _ _ _ ?_
          have hHeld : True := trivial
          refine wpAnyH_ready (rs := [8]) (by kernel_rfl) (by simp) ?_
          refine AllReadyH.cons rfl (fun K hK => ?_) AllReadyH.nil
          refine step_vstore (.tmp 9) (.tmp 44) rfl (by rfl) (by rfl) (by rfl) V9.out LJ.out ?_
          have L0 := Lib.hid (hHeld1.set G9.out (vecR J))
          have V10 := Lib.hid (V10.out.setElsewhere (c := g9) (by first | exact N910.out | exact (fun e => N109.out e.symm)) (vecR J))
          have V9 := Lib.hid (V9.out.set J LJ.out)
          refine hK.out _ _ trivial (fun hHeld => ?_)
          clear hK K
          refine wpAnyH_ready (rs := [9]) (by kernel_rfl) (by simp) ?_
          refine AllReadyH.cons rfl (fun K hK => ?_) AllReadyH.nil
          refine step_vstore (.tmp 10) (.tmp 47) rfl (by rfl) (by rfl) (by rfl) V10.out LM.out ?_
          have L0 := Lib.hid (L0.out.set G10.out (vecR M))
          have V9 := Lib.hid (V9.out.setElsewhere (c := g10) (by first | exact N109.out | exact (fun e => N910.out e.symm)) (vecR M))
          have V10 := Lib.hid (V10.out.set M LM.out)
          refine hK.out _ _ trivial (fun hHeld => ?_)
          clear hK K
          refine wpAnyH_done (by kernel_rfl) ?_ _
          exact Tail.out g9 g10 _ L0.out V9.out V10.out
      · refine step_valloc rfl (by rfl) ?_
        rintro g10 w102 h7 h8 h9
        have hL := Laid.trans hHeld h9
        have G10 : Hid (W0.heap.size ≤ g10) := Lib.hid (by have := Laid.size hHeld; omega)
        have V10 := Lib.hid h8
        refine hK.out _ _ hL (fun hHeld => ?_)
        simp only [Act.put, List.getElem_toArray, List.getElem_cons_zero, List.getElem_cons_succ, List.setIfInBounds_toArray, List.set_cons_zero, List.set_cons_succ]
        clear hL h7 h8 h9
        clear hK K
        refine wpAnyH_ready (rs := [5, 6]) (by kernel_rfl) (by simp) ?_
        refine (AllReadyH.cons rfl (fun K hK => ?_) (AllReadyH.cons rfl (fun K hK => ?_) AllReadyH.nil))
        · go_simp
          go_at_call 23
          refine (ME.out _).mono ?_
          rintro e w103 ⟨rfl, h8⟩
          have hL := Laid.trans hHeld h8
          have V10 := Lib.hid (V10.out.below h8.below V10.out.inHeap)
          refine hK.out _ _ hL (fun hHeld => ?_)
          clear h8 hL
          clear hK K
          refine wpAnyH_ready (rs := [6]) (by kernel_rfl) (by simp) ?_
          refine (AllReadyH.cons rfl (fun K hK => ?_) AllReadyH.nil)
          refine step_valloc rfl (by rfl) ?_
          rintro g9 w104 h7 h8 h9
          have hL := Laid.trans hHeld h9
          have G9 : Hid (W0.heap.size ≤ g9) := Lib.hid (by have := Laid.size hHeld; omega)
          have N109 : Hid (g10 ≠ g9) := Lib.hid (by have := V10.out.inHeap; omega)
          have V10 := Lib.hid (V10.out.below h9.below V10.out.inHeap)
          have V9 := Lib.hid h8
          refine hK.out _ _ hL (fun hHeld => ?_)
          simp only [Act.put, List.getElem_toArray, List.getElem_cons_zero, List.getElem_cons_succ, List.setIfInBounds_toArray, List.set_cons_zero, List.set_cons_succ]
          clear hL h7 h8 h9
          clear hK K
          refine wpAnyH_done (by kernel_rfl) ?_ _
          have hHeld1 := hHeld
          refine wpAny_of_held (S := fun _ => True) _ _ _ _ ?_
          have hHeld : True := trivial
          refine wpAnyH_ready (rs := [8]) (by kernel_rfl) (by simp) ?_
          refine AllReadyH.cons rfl (fun K hK => ?_) AllReadyH.nil
          refine step_vstore (.tmp 9) (.tmp 44) rfl (by rfl) (by rfl) (by rfl) V9.out LJ.out ?_
          have L0 := Lib.hid (hHeld1.set G9.out (vecR J))
          have V10 := Lib.hid (V10.out.setElsewhere (c := g9) (by first | exact N910.out | exact (fun e => N109.out e.symm)) (vecR J))
          have V9 := Lib.hid (V9.out.set J LJ.out)
          refine hK.out _ _ trivial (fun hHeld => ?_)
          clear hK K
          refine wpAnyH_ready (rs := [9]) (by kernel_rfl) (by simp) ?_
          refine AllReadyH.cons rfl (fun K hK => ?_) AllReadyH.nil
          refine step_vstore (.tmp 10) (.tmp 47) rfl (by rfl) (by rfl) (by rfl) V10.out LM.out ?_
          have L0 := Lib.hid (L0.out.set G10.out (vecR M))
          have V9 := Lib.hid (V9.out.setElsewhere (c := g10) (by first | exact N109.out | exact (fun e => N910.out e.symm)) (vecR M))
          have V10 := Lib.hid (V10.out.set M LM.out)
          refine hK.out _ _ trivial (fun hHeld => ?_)
          clear hK K
          refine wpAnyH_done (by kernel_rfl) ?_ _
          exact Tail.out g9 g10 _ L0.out V9.out V10.out
        · refine step_valloc rfl (by rfl) ?_
          rintro g9 w103 h7 h8 h9
          have hL := Laid.trans hHeld h9
          have G9 : Hid (W0.heap.size ≤ g9) := Lib.hid (by have := Laid.size hHeld; omega)
          have N109 : Hid (g10 ≠ g9) := Lib.hid (by have := V10.out.inHeap; omega)
          have V10 := Lib.hid (V10.out.below h9.below V10.out.inHeap)
          have V9 := Lib.hid h8
          refine hK.out _ _ hL (fun hHeld => ?_)
          simp only [Act.put, List.getElem_toArray, List.getElem_cons_zero, List.getElem_cons_succ, List.setIfInBounds_toArray, List.set_cons_zero, List.set_cons_succ]
          clear hL h7 h8 h9
          clear hK K
          refine wpAnyH_ready (rs := [5]) (by kernel_rfl) (by simp) ?_
          refine (AllReadyH.cons rfl (fun K hK => ?_) AllReadyH.nil)
          go_simp
          go_at_call 23
          refine (ME.out _).mono ?_
          rintro e w104 ⟨rfl, h8⟩
          have hL := Laid.trans hHeld h8
          have V10 := Lib.hid (V10.out.below h8.below V10.out.inHeap)
          have V9 := Lib.hid (V9.out.below h8.below V9.out.inHeap)
          refine hK.out _ _ hL (fun hHeld => ?_)
          clear h8 hL
          clear hK K
          refine wpAnyH_done (by kernel_rfl) ?_ _
          have hHeld1 := hHeld
          refine wpAny_of_held (S := fun _ => True) _ _ _ _ ?_
          have hHeld : True := trivial
          refine wpAnyH_ready (rs := [8]) (by kernel_rfl) (by simp) ?_
          refine AllReadyH.cons rfl (fun K hK => ?_) AllReadyH.nil
          refine step_vstore (.tmp 9) (.tmp 44) rfl (by rfl) (by rfl) (by rfl) V9.out LJ.out ?_
          have L0 := Lib.hid (hHeld1.set G9.out (vecR J))
          have V10 := Lib.hid (V10.out.setElsewhere (c := g9) (by first | exact N910.out | exact (fun e => N109.out e.symm)) (vecR J))
          have V9 := Lib.hid (V9.out.set J LJ.out)
          refine hK.out _ _ trivial (fun hHeld => ?_)
          clear hK K
          refine wpAnyH_ready (rs := [9]) (by kernel_rfl) (by simp) ?_
          refine AllReadyH.cons rfl (fun K hK => ?_) AllReadyH.nil
          refine step_vstore (.tmp 10) (.tmp 47) rfl (by rfl) (by rfl) (by rfl) V10.out LM.out ?_
          have L0 := Lib.hid (L0.out.set G10.out (vecR M))
          have V9 := Lib.hid (V9.out.setElsewhere (c := g10) (by first | exact N109.out | exact (fun e => N910.out e.symm)) (vecR M))
          have V10 := Lib.hid (V10.out.set M LM.out)
          refine hK.out _ _ trivial (fun hHeld => ?_)
          clear hK K
          refine wpAnyH_done (by kernel_rfl) ?_ _
          exact Tail.out g9 g10 _ L0.out V9.out V10.out
    · refine step_valloc rfl (by rfl) ?_
      rintro g9 w101 h7 h8 h9
      have hL := Laid.trans hHeld h9
      have G9 : Hid (W0.heap.size ≤ g9) := Lib.hid (by have := Laid.size hHeld; omega)
      have V9 := Lib.hid h8
      refine hK.out _ _ hL (fun hHeld => ?_)
      simp only [Act.put, List.getElem_toArray, List.getElem_cons_zero, List.getElem_cons_succ, List.setIfInBounds_toArray, List.set_cons_zero, List.set_cons_succ]
      clear hL h7 h8 h9
      clear hK K
      refine wpAnyH_ready (rs := [2, 7]) (by kernel_rfl) (by simp) ?_
      refine (AllReadyH.cons rfl (fun K hK => ?_) (AllReadyH.cons rfl (fun K hK => ?_) AllReadyH.nil))
      · go_simp
        go_at_call 22
        refine (JO.out _).mono ?_
        rintro e w102 ⟨rfl, h8⟩
        have hL := Laid.trans hHeld h8
        have V9 := Lib.hid (V9.out.below h8.below V9.out.inHeap)
        refine hK.out _ _ hL (fun hHeld => ?_)
        clear h8 hL
        clear hK K
        refine wpAnyH_ready (rs := [5, 7]) (by kernel_rfl) (by simp) ?_
        refine (AllReadyH.cons rfl (fun K hK => ?_) (AllReadyH.cons rfl (fun K hK => ?_) AllReadyH.nil))
        · go_simp
          go_at_call 23
          refine (ME.out _).mono ?_
          rintro e w103 ⟨rfl, h8⟩
          have hL := Laid.trans hHeld h8
          have V9 := Lib.hid (V9.out.below h8.below V9.out.inHeap)
          refine hK.out _ _ hL (fun hHeld => ?_)
          clear h8 hL
          clear hK K
          refine wpAnyH_ready (rs := [7]) (by kernel_rfl) (by simp) ?_
          refine (AllReadyH.cons rfl (fun K hK => ?_) AllReadyH.nil)
          refine step_valloc rfl (by rfl) ?_
          rintro g10 w104 h7 h8 h9
          have hL := Laid.trans hHeld h9
          have G10 : Hid (W0.heap.size ≤ g10) := Lib.hid (by have := Laid.size hHeld; omega)
          have N910 : Hid (g9 ≠ g10) := Lib.hid (by have := V9.out.inHeap; omega)
          have V9 := Lib.hid (V9.out.below h9.below V9.out.inHeap)
          have V10 := Lib.hid h8
          refine hK.out _ _ hL (fun hHeld => ?_)
          simp only [Act.put, List.getElem_toArray, List.getElem_cons_zero, List.getElem_cons_succ, List.setIfInBounds_toArray, List.set_cons_zero, List.set_cons_succ]
          clear hL h7 h8 h9
          clear hK K
          refine wpAnyH_done (by kernel_rfl) ?_ _
          have hHeld1 := hHeld
          refine wpAny_of_held (S := fun _ => True) _ _ _ _ ?_
          have hHeld : True := trivial
          refine wpAnyH_ready (rs := [8]) (by kernel_rfl) (by simp) ?_
          refine AllReadyH.cons rfl (fun K hK => ?_) AllReadyH.nil
          refine step_vstore (.tmp 9) (.tmp 44) rfl (by rfl) (by rfl) (by rfl) V9.out LJ.out ?_
          have L0 := Lib.hid (hHeld1.set G9.out (vecR J))
          have V10 := Lib.hid (V10.out.setElsewhere (c := g9) (by first | exact N910.out | exact (fun e => N109.out e.symm)) (vecR J))
          have V9 := Lib.hid (V9.out.set J LJ.out)
          refine hK.out _ _ trivial (fun hHeld => ?_)
          clear hK K
          refine wpAnyH_ready (rs := [9]) (by kernel_rfl) (by simp) ?_
          refine AllReadyH.cons rfl (fun K hK => ?_) AllReadyH.nil
          refine step_vstore (.tmp 10) (.tmp 47) rfl (by rfl) (by rfl) (by rfl) V10.out LM.out ?_
          have L0 := Lib.hid (L0.out.set G10.out (vecR M))
          have V9 := Lib.hid (V9.out.setElsewhere (c := g10) (by first | exact N109.out | exact (fun e => N910.out e.symm)) (vecR M))
          have V10 := Lib.hid (V10.out.set M LM.out)
          refine hK.out _ _ trivial (fun hHeld => ?_)
          clear hK K
          refine wpAnyH_done (by kernel_rfl) ?_ _
          exact Tail.out g9 g10 _ L0.out V9.out V10.out
        · refine step_valloc rfl (by rfl) ?_
          rintro g10 w103 h7 h8 h9
          have hL := Laid.trans hHeld h9
          have G10 : Hid (W0.heap.size ≤ g10) := Lib.hid (by have := Laid.size hHeld; omega)
          have N910 : Hid (g9 ≠ g10) := Lib.hid (by have := V9.out.inHeap; omega)
          have V9 := Lib.hid (V9.out.below h9.below V9.out.inHeap)
          have V10 := Lib.hid h8
          refine hK.out _ _ hL (fun hHeld => ?_)
          simp only [Act.put, List.getElem_toArray, List.getElem_cons_zero, List.getElem_cons_succ, List.setIfInBounds_toArray, List.set_cons_zero, List.set_cons_succ]
          clear hL h7 h8 h9
          clear hK K
          refine wpAnyH_ready (rs := [5]) (by kernel_rfl) (by simp) ?_
          refine (AllReadyH.cons rfl (fun K hK => ?_) AllReadyH.nil)
          go_simp
          go_at_call 23
          refine (ME.out _).mono ?_
          rintro e w104 ⟨rfl, h8⟩
          have hL := Laid.trans hHeld h8
          have V9 := Lib.hid (V9.out.below h8.below V9.out.inHeap)
          have V10 := Lib.hid (V10.out.below h8.below V10.out.inHeap)
          refine hK.out _ _ hL (fun hHeld => ?_)
          clear h8 hL
          clear hK K
          refine wpAnyH_done (by kernel_rfl) ?_ _
          have hHeld1 := hHeld
          refine wpAny_of_held (S := fun _ => True) _ _ _ _ ?_
          have hHeld : True := trivial
          refine wpAnyH_ready (rs := [8]) (by kernel_rfl) (by simp) ?_
          refine AllReadyH.cons rfl (fun K hK => ?_) AllReadyH.nil
          refine step_vstore (.tmp 9) (.tmp 44) rfl (by rfl) (by rfl) (by rfl) V9.out LJ.out ?_
          have L0 := Lib.hid (hHeld1.set G9.out (vecR J))
          have V10 := Lib.hid (V10.out.setElsewhere (c := g9) (by first | exact N910.out | exact (fun e => N109.out e.symm)) (vecR J))
          have V9 := Lib.hid (V9.out.set J LJ.out)
          refine hK.out _ _ trivial (fun hHeld => ?_)
          clear hK K
          refine wpAnyH_ready (rs := [9]) (by kernel_rfl) (by simp) ?_
          refine AllReadyH.cons rfl (fun K hK => ?_) AllReadyH.nil
          refine step_vstore (.tmp 10) (.tmp 47) rfl (by rfl) (by rfl) (by rfl) V10.out LM.out ?_
          have L0 := Lib.hid (L0.out.set G10.out (vecR M))
          have V9 := Lib.hid (V9.out.setElsewhere (c := g10) (by first | exact N109.out | exact (fun e => N910.out e.symm)) (vecR M))
          have V10 := Lib.hid (V10.out.set M LM.out)
          refine hK.out _ _ trivial (fun hHeld => ?_)
          clear hK K
          refine wpAnyH_done (by kernel_rfl) ?_ _
          exact Tail.out g9 g10 _ L0.out V9.out V10.out
      · refine step_valloc rfl (by rfl) ?_
        rintro g10 w102 h7 h8 h9
        have hL := Laid.trans hHeld h9
        have G10 : Hid (W0.heap.size ≤ g10) := Lib.hid (by have := Laid.size hHeld; omega)
        have N910 : Hid (g9 ≠ g10) := Lib.hid (by have := V9.out.inHeap; omega)
        have V9 := Lib.hid (V9.out.below h9.below V9.out.inHeap)
        have V10 := Lib.hid h8
        refine hK.out _ _ hL (fun hHeld => ?_)
        simp only [Act.put, List.getElem_toArray, List.getElem_cons_zero, List.getElem_cons_succ, List.setIfInBounds_toArray, List.set_cons_zero, List.set_cons_succ]
        clear hL h7 h8 h9
        clear hK K
        refine wpAnyH_ready (rs := [2]) (by kernel_rfl) (by simp) ?_
        refine (AllReadyH.cons rfl (fun K hK => ?_) AllReadyH.nil)
        go_simp
        go_at_call 22
        refine (JO.out _).mono ?_
        rintro e w103 ⟨rfl, h8⟩
        have hL := Laid.trans hHeld h8
        have V9 := Lib.hid (V9.out.below h8.below V9.out.inHeap)
        have V10 := Lib.hid (V10.out.below h8.below V10.out.inHeap)
        refine hK.out _ _ hL (fun hHeld => ?_)
        clear h8 hL
        clear hK K
        refine wpAnyH_ready (rs := [5]) (by kernel_rfl) (by simp) ?_
        refine (AllReadyH.cons rfl (fun K hK => ?_) AllReadyH.nil)
        go_simp
        go_at_call 23
        refine (ME.out _).mono ?_
        rintro e w104 ⟨rfl, h8⟩
        have hL := Laid.trans hHeld h8
        have V9 := Lib.hid (V9.out.below h8.below V9.out.inHeap)
        have V10 := Lib.hid (V10.out.below h8.below V10.out.inHeap)
        refine hK.out _ _ hL (fun hHeld => ?_)
        clear h8 hL
        clear hK K
        refine wpAnyH_done (by kernel_rfl) ?_ _
        have hHeld1 := hHeld
        refine wpAny_of_held (S := fun _ => True) _ _ _ _ ?_
        have hHeld : True := trivial
        refine wpAnyH_ready (rs := [8]) (by kernel_rfl) (by simp) ?_
        refine AllReadyH.cons rfl (fun K hK => ?_) AllReadyH.nil
        refine step_vstore (.tmp 9) (.tmp 44) rfl (by rfl) (by rfl) (by rfl) V9.out LJ.out ?_
        have L0 := Lib.hid (hHeld1.set G9.out (vecR J))
        have V10 := Lib.hid (V10.out.setElsewhere (c := g9) (by first | exact N910.out | exact (fun e => N109.out e.symm)) (vecR J))
        have V9 := Lib.hid (V9.out.set J LJ.out)
        refine hK.out _ _ trivial (fun hHeld => ?_)
        clear hK K
        refine wpAnyH_ready (rs := [9]) (by kernel_rfl) (by simp) ?_
        refine AllReadyH.cons rfl (fun K hK => ?_) AllReadyH.nil
        refine step_vstore (.tmp 10) (.tmp 47) rfl (by rfl) (by rfl) (by rfl) V10.out LM.out ?_
        have L0 := Lib.hid (L0.out.set G10.out (vecR M))
        have V9 := Lib.hid (V9.out.setElsewhere (c := g10) (by first | exact N109.out | exact (fun e => N910.out e.symm)) (vecR M))
        have V10 := Lib.hid (V10.out.set M LM.out)
        refine hK.out _ _ trivial (fun hHeld => ?_)
        clear hK K
        refine wpAnyH_done (by kernel_rfl) ?_ _
        exact Tail.out g9 g10 _ L0.out V9.out V10.out
    · refine step_valloc rfl (by rfl) ?_
      rintro g10 w101 h7 h8 h9
      have hL := Laid.trans hHeld h9
      have G10 : Hid (W0.heap.size ≤ g10) := Lib.hid (by have := Laid.size hHeld; omega)
      have V10 := Lib.hid h8
      refine hK.out _ _ hL (fun hHeld => ?_)
      simp only [Act.put, List.getElem_toArray, List.getElem_cons_zero, List.getElem_cons_succ, List.setIfInBounds_toArray, List.set_cons_zero, List.set_cons_succ]
      clear hL h7 h8 h9
      clear hK K
      refine wpAnyH_ready (rs := [2, 6]) (by kernel_rfl) (by simp) ?_
      refine (AllReadyH.cons rfl (fun K hK => ?_) (AllReadyH.cons rfl (fun K hK => ?_) AllReadyH.nil))
      · go_simp
        go_at_call 22
        refine (JO.out _).mono ?_
        rintro e w102 ⟨rfl, h8⟩
        have hL := Laid.trans hHeld h8
        have V10 := Lib.hid (V10.out.below h8.below V10.out.inHeap)
        refine hK.out _ _ hL (fun hHeld => ?_)
        clear h8 hL
        clear hK K
        refine wpAnyH_ready (rs := [5, 6]) (by kernel_rfl) (by simp) ?_
        refine (AllReadyH.cons rfl (fun K hK => ?_) (AllReadyH.cons rfl (fun K hK => ?_) AllReadyH.nil))
        · go_simp
          go_at_call 23
          refine (ME.out _).mono ?_
          rintro e w103 ⟨rfl, h8⟩
          have hL := Laid.trans hHeld h8
          have V10 := Lib.hid (V10.out.below h8.below V10.out.inHeap)
          refine hK.out _ _ hL (fun hHeld => ?_)
          clear h8 hL
          clear hK K
          refine wpAnyH_ready (rs := [6]) (by kernel_rfl) (by simp) ?_
          refine (AllReadyH.cons rfl (fun K hK => ?_) AllReadyH.nil)
          refine step_valloc rfl (by rfl) ?_
          rintro g9 w104 h7 h8 h9
          have hL := Laid.trans hHeld h9
          have G9 : Hid (W0.heap.size ≤ g9) := Lib.hid (by have := Laid.size hHeld; omega)
          have N109 : Hid (g10 ≠ g9) := Lib.hid (by have := V10.out.inHeap; omega)
          have V10 := Lib.hid (V10.out.below h9.below V10.out.inHeap)
          have V9 := Lib.hid h8
          refine hK.out _ _ hL (fun hHeld => ?_)
          simp only [Act.put, List.getElem_toArray, List.getElem_cons_zero, List.getElem_cons_succ, List.setIfInBounds_toArray, List.set_cons_zero, List.set_cons_succ]
          clear hL h7 h8 h9
          clear hK K
          refine wpAnyH_done (by kernel_rfl) ?_ _
          have hHeld1 := hHeld
          refine wpAny_of_held (S := fun _ => True) _ _ _ _ ?_
          have hHeld : True := trivial
          refine wpAnyH_ready (rs := [8]) (by kernel_rfl) (by simp) ?_
          refine AllReadyH.cons rfl (fun K hK => ?_) AllReadyH.nil
          refine step_vstore (.tmp 9) (.tmp 44) rfl (by rfl) (by rfl) (by rfl) V9.out LJ.out ?_
          have L0 := Lib.hid (hHeld1.set G9.out (vecR J))
          have V10 := Lib.hid (V10.out.setElsewhere (c := g9) (by first | exact N910.out | exact (fun e => N109.out e.symm)) (vecR J))
          have V9 := Lib.hid (V9.out.set J LJ.out)
          refine hK.out _ _ trivial (fun hHeld => ?_)
          clear hK K
          refine wpAnyH_ready (rs := [9]) (by kernel_rfl) (by simp) ?_
          refine AllReadyH.cons rfl (fun K hK => ?_) AllReadyH.nil
          refine step_vstore (.tmp 10) (.tmp 47) rfl (by rfl) (by rfl) (by rfl) V10.out LM.out ?_
          have L0 := Lib.hid (L0.out.set G10.out (vecR M))
          have V9 := Lib.hid (V9.out.setElsewhere (c := g10) (by first | exact N109.out | exact (fun e => N910.out e.symm)) (vecR M))
          have V10 := Lib.hid (V10.out.set M LM.out)
          refine hK.out _ _ trivial (fun hHeld => ?_)
          clear hK K
          refine wpAnyH_done (by kernel_rfl) ?_ _
          exact Tail.out g9 g10 _ L0.out V9.out V10.out
        · refine step_valloc rfl (by rfl) ?_
          rintro g9 w103 h7 h8 h9
          have hL := Laid.trans hHeld h9
          have G9 : Hid (W0.heap.size ≤ g9) := Lib.hid (by have := Laid.size hHeld; omega)
          have N109 : Hid (g10 ≠ g9) := Lib.hid (by have := V10.out.inHeap; omega)
          have V10 := Lib.hid (V10.out.below h9.below V10.out.inHeap)
          have V9 := Lib.hid h8
          refine hK.out _ _ hL (fun hHeld => ?_)
          simp only [Act.put, List.getElem_toArray, List.getElem_cons_zero, List.getElem_cons_succ, List.setIfInBounds_toArray, List.set_cons_zero, List.set_cons_succ]
          clear hL h7 h8 h9
          clear hK K
          refine wpAnyH_ready (rs := [5]) (by kernel_rfl) (by simp) ?_
          refine (AllReadyH.cons rfl (fun K hK => ?_) AllReadyH.nil)
          go_simp
          go_at_call 23
          refine (ME.out _).mono ?_
          rintro e w104 ⟨rfl, h8⟩
          have hL := Laid.trans hHeld h8
          have V10 := Lib.hid (V10.out.below h8.below V10.out.inHeap)
          have V9 := Lib.hid (V9.out.below h8.below V9.out.inHeap)
          refine hK.out _ _ hL (fun hHeld => ?_)
          clear h8 hL
          clear hK K
          refine wpAnyH_done (by kernel_rfl) ?_ _
          have hHeld1 := hHeld
          refine wpAny_of_held (S := fun _ => True) _ _ _ _ ?_
          have hHeld : True := trivial
          refine wpAnyH_ready (rs := [8]) (by kernel_rfl) (by simp) ?_
          refine AllReadyH.cons rfl (fun K hK => ?_) AllReadyH.nil
          refine step_vstore (.tmp 9) (.tmp 44) rfl (by rfl) (by rfl) (by rfl) V9.out LJ.out ?_
          have L0 := Lib.hid (hHeld1.set G9.out (vecR J))
          have V10 := Lib.hid (V10.out.setElsewhere (c := g9) (by first | exact N910.out | exact (fun e => N109.out e.symm)) (vecR J))
          have V9 := Lib.hid (V9.out.set J LJ.out)
          refine hK.out _ _ trivial (fun hHeld => ?_)
          clear hK K
          refine wpAnyH_ready (rs := [9]) (by kernel_rfl) (by simp) ?_
          refine AllReadyH.cons rfl (fun K hK => ?_) AllReadyH.nil
          refine step_vstore (.tmp 10) (.tmp 47) rfl (by rfl) (by rfl) (by rfl) V10.out LM.out ?_
          have L0 := Lib.hid (L0.out.set G10.out (vecR M))
          have V9 := Lib.hid (V9.out.setElsewhere (c := g10) (by first | exact N109.out | exact (fun e => N910.out e.symm)) (vecR M))
          have V10 := Lib.hid (V10.out.set M LM.out)
          refine hK.out _ _ trivial (fun hHeld => ?_)
          clear hK K
          refine wpAnyH_done (by kernel_rfl) ?_ _
          exact Tail.out g9 g10 _ L0.out V9.out V10.out
      · refine step_valloc rfl (by rfl) ?_
        rintro g9 w102 h7 h8 h9
        have hL := Laid.trans hHeld h9
        have G9 : Hid (W0.heap.size ≤ g9) := Lib.hid (by have := Laid.size hHeld; omega)
        have N109 : Hid (g10 ≠ g9) := Lib.hid (by have := V10.out.inHeap; omega)
        have V10 := Lib.hid (V10.out.below h9.below V10.out.inHeap)
        have V9 := Lib.hid h8
        refine hK.out _ _ hL (fun hHeld => ?_)
        simp only [Act.put, List.getElem_toArray, List.getElem_cons_zero, List.getElem_cons_succ, List.setIfInBounds_toArray, List.set_cons_zero, List.set_cons_succ]
        clear hL h7 h8 h9
        clear hK K
        refine wpAnyH_ready (rs := [2]) (by kernel_rfl) (by simp) ?_
        refine (AllReadyH.cons rfl (fun K hK => ?_) AllReadyH.nil)
        go_simp
        go_at_call 22
        refine (JO.out _).mono ?_
        rintro e w103 ⟨rfl, h8⟩
        have hL := Laid.trans hHeld h8
        have V10 := Lib.hid (V10.out.below h8.below V10.out.inHeap)
        have V9 := Lib.hid (V9.out.below h8.below V9.out.inHeap)
        refine hK.out _ _ hL (fun hHeld => ?_)
        clear h8 hL
        clear hK K
        refine wpAnyH_ready (rs := [5]) (by kernel_rfl) (by simp) ?_
        refine (AllReadyH.cons rfl (fun K hK => ?_) AllReadyH.nil)
        go_simp
        go_at_call 23
        refine (ME.out _).mono ?_
        rintro e w104 ⟨rfl, h8⟩
        have hL := Laid.trans hHeld h8
        have V10 := Lib.hid (V10.out.below h8.below V10.out.inHeap)
        have V9 := Lib.hid (V9.out.below h8.below V9.out.inHeap)
        refine hK.out _ _ hL (fun hHeld => ?_)
        clear h8 hL
        clear hK K
        refine wpAnyH_done (by kernel_rfl) ?_ _
        have hHeld1 := hHeld
        refine wpAny_of_held (S := fun _ => True) _ _ _ _ ?_
        have hHeld : True := trivial
        refine wpAnyH_ready (rs := [8]) (by kernel_rfl) (by simp) ?_
        refine AllReadyH.cons rfl (fun K hK => ?_) AllReadyH.nil
        refine step_vstore (.tmp 9) (.tmp 44) rfl (by rfl) (by rfl) (by rfl) V9.out LJ.out ?_
        have L0 := Lib.hid (hHeld1.set G9.out (vecR J))
        have V10 := Lib.hid (V10.out.setElsewhere (c := g9) (by first | exact N910.out | exact (fun e => N109.out e.symm)) (vecR J))
        have V9 := Lib.hid (V9.out.set J LJ.out)
        refine hK.out _ _ trivial (fun hHeld => ?_)
        clear hK K
        refine wpAnyH_ready (rs := [9]) (by kernel_rfl) (by simp) ?_
        refine AllReadyH.cons rfl (fun K hK => ?_) AllReadyH.nil
        refine step_vstore (.tmp 10) (.tmp 47) rfl (by rfl) (by rfl) (by rfl) V10.out LM.out ?_
        have L0 := Lib.hid (L0.out.set G10.out (vecR M))
        have V9 := Lib.hid (V9.out.setElsewhere (c := g10) (by first | exact N109.out | exact (fun e => N910.out e.symm)) (vecR M))
        have V10 := Lib.hid (V10.out.set M LM.out)
        refine hK.out _ _ trivial (fun hHeld => ?_)
        clear hK K
        refine wpAnyH_done (by kernel_rfl) ?_ _
        exact Tail.out g9 g10 _ L0.out V9.out V10.out
  have Tail := Lib.hid tail2
  clear tail2 hK2
  have hc1 := C1.out
  rcases hc1 with ⟨rfl, rfl⟩ | ⟨rfl, rfl⟩
  all_goals
    have V3w := Lib.hid (fun w' (h : InB wq w') => V3.out w' (H1.out.trans h.below))
    have V4w := Lib.hid (fun w' (h : InB wq w') => V4.out w' (H1.out.trans h.below))
    refine wp_region_below (by assumption) (by kernel_rfl) ?_
    repeat ((first
      | (refine wq_skip (by rfl) ?_)
      | (refine wq_vload (by kernel_rfl) _ (by rfl) (by rfl) V3w.out ?_)
      | (refine wq_vload (by kernel_rfl) _ (by rfl) (by rfl) V4w.out ?_)
      | (refine wq_take (v := ?_) (by kernel_rfl) (by intro w hSw; go_simp; first | done | with_reducible rfl) ?_)
      | (refine wq_call (by kernel_rfl) ?hent (fun w hSw => inB_laid hSw (CLA.out w)) ?_; (case hent => (intro w hSw; go_simp; done)))
      | (refine wq_call (by kernel_rfl) ?hent (fun w hSw => inB_laid hSw (CLB.out w)) ?_; (case hent => (intro w hSw; go_simp; done)))
      | (refine wq_call (by kernel_rfl) ?hent (fun w hSw => inB_calls hSw (RAB.out w)) ?_; (case hent => (intro w hSw; go_simp; done)))
      | (refine wq_call (by kernel_rfl) ?hent (fun w hSw => inB_calls hSw (RBA.out w)) ?_; (case hent => (intro w hSw; go_simp; done)))); (try simp only [Act.put, List.getElem_toArray, List.getElem_cons_zero, List.getElem_cons_succ, List.setIfInBounds_toArray, List.set_cons_zero, List.set_cons_succ]))
    refine wq_nil ?_
    intro wq hq
    exact Tail.out _ _ _ _ _ _ _ _ _ _ _ _ _ _ _ _ _ _ _ _ _ _ _ _ (H1.out.trans hq.below)
end Go.Proofs.Ytlgaljlbjbfdgaa
