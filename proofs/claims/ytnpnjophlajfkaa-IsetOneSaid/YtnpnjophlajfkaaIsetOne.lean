/- IsetOne out of the contracts. -/
import Derived.Test.YtnpnjophlajfkaaIsetAwk
import Derived.Test.YtnpnjophlajfkaaIsetCpy
import Derived.Test.YtnpnjophlajfkaaQuietB
set_option linter.unusedSimpArgs false
set_option linter.unusedVariables false
namespace Go.Proofs.Ytnpnjophlajfkaa
open Go.RowKit Go.Sort

set_option maxRecDepth 100000 in
set_option maxHeartbeats 6400000 in
theorem ione_walk (Z : IsetOk) {w : World} {F : Nat → Prop} {v : Value} {l0 : List Ver.V} (x : Ver.V) (h : Vrs w F v l0) (h63 : l0.length ≤ 9223372036854775807) :
    Calls Try.prog 3 #[v, verA x] w fun e w' => e = .returned (.bool true) ∧ Below w.heap.size w w' := by
  have l50 : (l0.take 50).length ≤ 50 := by rw [List.length_take]; omega
  have L0 := Laid.new w (.cells #[.int .i64 x.by_, .int .i64 x.n] 24)
  have FA := Lib.hid (law14_few (h.below L0.below) h63)
  clear h h63
  generalize l0.take 50 = l at *
  have LA : Hid (l.length ≤ 500000) := Lib.hid (by omega)
  have LA2 : Hid (l.length ≤ 1000000) := Lib.hid (by omega)
  have LS : Hid ((Ver.sort l).length ≤ 1000000) := Lib.hid (by have := Ver.sort_len l; omega)
  have LP : Hid ((Iset.put l x).length ≤ 1000000) := Lib.hid (by have := Iset.put_len l x; omega)
  have LD : Hid ((Iset.minus l [x]).length ≤ 1000000) := Lib.hid (by have := Iset.minus_len l [x]; omega)
  have AW := Lib.hid (fun W => iset_awake Z W)
  have HA := Lib.hid (fun (W : World) (y : Value) (k : Vrs W F y l) => Z.has x k LA2.out)
  have RH := Lib.hid (fun (W : World) (y : Value) (k : Vrs W F y l) => (ref_ihas x k (Nat.le_trans LA2.out (by decide))).mono (fun e w' (h : _ ∧ Laid W w') => (⟨h.1, h.2.below⟩ : e = .returned (.bool (decide (x ∈ l))) ∧ Below W.heap.size W w')))
  have PU := Lib.hid (fun (W : World) (y : Value) (k : Vrs W F y l) => Z.put x k LA.out)
  have DR := Lib.hid (fun (W : World) (y : Value) (k : Vrs W F y l) => Z.drop x k LA.out)
  have OF := Lib.hid (fun (W : World) (y : Value) (k : Vrs W F y l) => Z.ofl k LA2.out)
  have RP := Lib.hid (fun (w0 W : World) (y : Value) (k : RowsOwn 24 2 verV w0 (Ver.sort l) y W) => ref_put_both k LS.out x)
  have RD := Lib.hid (fun (W : World) (y z : Value) (G : Nat → Prop) (k : Vrs W F y l) (m : Vrs W G z [x]) => ref_iminus k m LA2.out (by simp))
  have SB := Lib.hid (fun (W : World) (G K : Nat → Prop) (y z : Value) (k : Vrs W G y (Iset.put l x)) (m : Vrs W K z (Ver.put (Ver.sort l) x)) => same_true k m LP.out)
  have SD := Lib.hid (fun (W : World) (G K : Nat → Prop) (y z : Value) (k : Vrs W G y (Iset.drop l x)) (m : Vrs W K z (Iset.minus l [x])) => same_true k m LD.out)
  have XB := Lib.hid (iset_boxed w x.by_ x.n)
  have XM := Lib.hid (fun W => ver_made W 24 x)
  have H0 := Lib.hid L0
  clear l50 L0 LD LP
  generalize Iset.put l x = P at *
  generalize Iset.drop l x = D at *
  generalize Iset.minus l [x] = M at *
  generalize decide (x ∈ l) = r at *
  generalize Ver.put (Ver.sort l) x = PS at *
  obtain ⟨x1, x2⟩ := x
  simp only at FA HA RH PU DR RP XB XM H0
  go_enter Try.func3, Try.ntmps3
  go_wp2_with fail
  refine (FA.out).mono ?_
  rintro e w1 ⟨ul, rfl, rl, rfl⟩
  have R1 := Lib.hid rl
  clear rl FA
  generalize hW1 : w.alloc (.cells #[.int .i64 x1, .int .i64 x2] 24) = w1 at *
  go_wp2_with (at_builtin; refine wp_copied rfl _ _ rfl rfl rfl R1.out LA2.out ?_)
  intro vw w2 h2
  have R2 := Lib.hid (Rws.below R1.out h2.2)
  have Q2 := Lib.hid (h2.rows (fun _ _ => rfl))
  have B2 := Lib.hid h2.2
  clear h2
  go_wp2_with fail
  refine (ref_iof R2.out LA2.out).mono ?_
  rintro e w3 ⟨vs, rfl, h3⟩
  have R3 := Lib.hid (Rws.below R2.out h3.2)
  have Q3 := Lib.hid (Rws.below Q2.out h3.2)
  have O3 := Lib.hid h3
  have B3 := Lib.hid (B2.out.trans (h3.2.mono B2.out.size))
  have XC := Lib.hid (fun W (hW : InB w3 W) => show W.cell? ⟨w.heap.size, 0, none⟩ = some (.int .i64 x1) ∧ W.cell? ⟨w.heap.size, 1, none⟩ = some (.int .i64 x2) from by
    obtain ⟨q0, q1⟩ := XB.out w1 (Laid.refl w1)
    have hb := B3.out.trans (hW.below.mono B3.out.size)
    have hs := World.block_lt_of_cell? w1 _ q0
    exact ⟨(hb.cell (p := ⟨w.heap.size, 0, none⟩) hs).trans q0, (hb.cell (p := ⟨w.heap.size, 1, none⟩) hs).trans q1⟩)
  clear h3 B2 R1 R2 Q2
  go_wp2_with fail
  refine wp_region_held_drew (S := (fun w' : World => InB w3 w')) (by kernel_rfl) ((InB.refl w3).drew) (fun hHeld => ?_)
  refine wpAnyH_take (i := 0) (v := ?_) rfl (by kernel_rfl) (by kernel_rfl) (by kernel_rfl) (fun _ _ _ h => h) (Or.inl ⟨by rfl, (by intro w hSw; go_simp; try with_reducible rfl)⟩) (by assumption) ?_
  simp only [Act.put, List.getElem_toArray, List.getElem_cons_zero, List.getElem_cons_succ, List.setIfInBounds_toArray, List.set_cons_zero, List.set_cons_succ]
  refine wpAnyH_take (i := 1) (v := ?_) rfl (by kernel_rfl) (by kernel_rfl) (by kernel_rfl) (fun _ _ _ h => h) (Or.inl ⟨by rfl, (by intro w hSw; have hXC := XC.out _ hSw; go_simp; try with_reducible rfl)⟩) (by assumption) ?_
  simp only [Act.put, List.getElem_toArray, List.getElem_cons_zero, List.getElem_cons_succ, List.setIfInBounds_toArray, List.set_cons_zero, List.set_cons_succ]
  refine wpAnyH_take (i := 3) (v := ?_) rfl (by kernel_rfl) (by kernel_rfl) (by kernel_rfl) (fun _ _ _ h => h) (Or.inl ⟨by rfl, (by intro w hSw; go_simp; try with_reducible rfl)⟩) (by assumption) ?_
  simp only [Act.put, List.getElem_toArray, List.getElem_cons_zero, List.getElem_cons_succ, List.setIfInBounds_toArray, List.set_cons_zero, List.set_cons_succ]
  refine wpAnyH_take (i := 4) (v := ?_) rfl (by kernel_rfl) (by kernel_rfl) (by kernel_rfl) (fun _ _ _ h => h) (Or.inl ⟨by rfl, (by intro w hSw; have hXC := XC.out _ hSw; go_simp; try with_reducible rfl)⟩) (by assumption) ?_
  simp only [Act.put, List.getElem_toArray, List.getElem_cons_zero, List.getElem_cons_succ, List.setIfInBounds_toArray, List.set_cons_zero, List.set_cons_succ]
  refine wpAnyH_ready (rs := [2]) (by kernel_rfl) (by simp) ?_
  refine AllReadyH.cons rfl (fun K hK => ?_) AllReadyH.nil
  go_simp
  go_at_call 8
  refine (PU.out _ _ (Rws.below R3.out hHeld.below)).mono ?_
  rintro e w4 ⟨vp, rfl, h8, h9⟩
  have hL := InB.trans hHeld h9
  have EP := Lib.hid (h8)
  refine hK.out _ _ hL (fun hHeld => ?_)
  clear h8 hL h9
  clear hK K
  refine wpAnyH_ready (rs := [5]) (by kernel_rfl) (by simp) ?_
  refine AllReadyH.cons rfl (fun K hK => ?_) AllReadyH.nil
  go_simp
  go_at_call 9
  refine (DR.out _ _ (Rws.below R3.out hHeld.below)).mono ?_
  rintro e w5 ⟨vd, rfl, h8, h9⟩
  have hL := InB.trans hHeld h9
  have ED := Lib.hid (h8)
  have EP := Lib.hid (Rws.below EP.out h9)
  refine hK.out _ _ hL (fun hHeld => ?_)
  clear h8 hL h9
  have F5 : Hid (InB w3 w5) := Lib.hid hHeld
  clear hK K
  refine wpAnyH_take (i := 6) (v := ?_) rfl (by kernel_rfl) (by kernel_rfl) (by kernel_rfl) (fun _ _ _ h => h) (Or.inl ⟨by rfl, (by intro w hSw; go_simp; try with_reducible rfl)⟩) (by assumption) ?_
  simp only [Act.put, List.getElem_toArray, List.getElem_cons_zero, List.getElem_cons_succ, List.setIfInBounds_toArray, List.set_cons_zero, List.set_cons_succ]
  refine wpAnyH_take (i := 7) (v := ?_) rfl (by kernel_rfl) (by kernel_rfl) (by kernel_rfl) (fun _ _ _ h => h) (Or.inl ⟨by rfl, (by intro w hSw; go_simp; try with_reducible rfl)⟩) (by assumption) ?_
  simp only [Act.put, List.getElem_toArray, List.getElem_cons_zero, List.getElem_cons_succ, List.setIfInBounds_toArray, List.set_cons_zero, List.set_cons_succ]
  refine wpAnyH_done (by kernel_rfl) ?_ _
  clear hHeld
  have R5 := Lib.hid (Rws.below R3.out F5.out.below)
  have Q5 := Lib.hid (Rws.below Q3.out F5.out.below)
  have O5 := Lib.hid (O3.out.below F5.out.below)
  have XC := Lib.hid (fun W (hW : InB w5 W) => XC.out W (InB.trans F5.out hW.below))
  go_wp2_with fail
  refine wp_region_held_drew (S := (fun w' : World => InB w5 w')) (by kernel_rfl) ((InB.refl w5).drew) (fun hHeld => ?_)
  refine wpAnyH_ready (rs := [0]) (by kernel_rfl) (by simp) ?_
  refine AllReadyH.cons rfl (fun K hK => ?_) AllReadyH.nil
  go_simp
  go_at_call 10
  refine (AW.out _).mono ?_
  rintro e w10 ⟨rfl, h8⟩
  have hL := InB.trans hHeld h8
  refine hK.out _ _ hL (fun hHeld => ?_)
  clear h8 hL
  clear hK K
  refine wpAnyH_take (i := 1) (v := ?_) rfl (by kernel_rfl) (by kernel_rfl) (by kernel_rfl) (fun _ _ _ h => h) (Or.inl ⟨by rfl, (by intro w hSw; go_simp; try with_reducible rfl)⟩) (by assumption) ?_
  simp only [Act.put, List.getElem_toArray, List.getElem_cons_zero, List.getElem_cons_succ, List.setIfInBounds_toArray, List.set_cons_zero, List.set_cons_succ]
  refine wpAnyH_take (i := 2) (v := ?_) rfl (by kernel_rfl) (by kernel_rfl) (by kernel_rfl) (fun _ _ _ h => h) (Or.inl ⟨by rfl, (by intro w hSw; go_simp; try with_reducible rfl)⟩) (by assumption) ?_
  simp only [Act.put, List.getElem_toArray, List.getElem_cons_zero, List.getElem_cons_succ, List.setIfInBounds_toArray, List.set_cons_zero, List.set_cons_succ]
  refine wpAnyH_take (i := 4) (v := ?_) rfl (by kernel_rfl) (by kernel_rfl) (by kernel_rfl) (fun _ _ _ h => h) (Or.inl ⟨by rfl, (by intro w hSw; go_simp; try with_reducible rfl)⟩) (by assumption) ?_
  simp only [Act.put, List.getElem_toArray, List.getElem_cons_zero, List.getElem_cons_succ, List.setIfInBounds_toArray, List.set_cons_zero, List.set_cons_succ]
  refine wpAnyH_ready (rs := [3]) (by kernel_rfl) (by simp) ?_
  refine AllReadyH.cons rfl (fun K hK => ?_) AllReadyH.nil
  go_simp
  go_at_call 12
  refine (OF.out _ _ (Rws.below R5.out hHeld.below)).mono ?_
  rintro e w11 ⟨vo, rfl, h8, h9⟩
  have hL := InB.trans hHeld h9
  have EO := Lib.hid (h8)
  refine hK.out _ _ hL (fun hHeld => ?_)
  clear h8 hL h9
  clear hK K
  refine wpAnyH_ready (rs := [5]) (by kernel_rfl) (by simp) ?_
  refine AllReadyH.cons rfl (fun K hK => ?_) AllReadyH.nil
  go_simp
  go_at_call 11
  refine (same_true EO.out (Rws.below (O5.out.rows (fun _ _ => rfl)) hHeld.below) LS.out).mono ?_
  rintro e w12 ⟨rfl, h8⟩
  have hL := InB.trans hHeld h8
  refine hK.out _ _ hL (fun hHeld => ?_)
  clear h8 hL
  clear hK K
  refine wpAnyH_take (i := 6) (v := ?_) rfl (by kernel_rfl) (by kernel_rfl) (by kernel_rfl) (fun _ _ _ h => h) (Or.inl ⟨by rfl, (by intro w hSw; go_simp; try with_reducible rfl)⟩) (by assumption) ?_
  simp only [Act.put, List.getElem_toArray, List.getElem_cons_zero, List.getElem_cons_succ, List.setIfInBounds_toArray, List.set_cons_zero, List.set_cons_succ]
  refine wpAnyH_take (i := 7) (v := ?_) rfl (by kernel_rfl) (by kernel_rfl) (by kernel_rfl) (fun _ _ _ h => h) (Or.inl ⟨by rfl, (by intro w hSw; go_simp; try with_reducible rfl)⟩) (by assumption) ?_
  simp only [Act.put, List.getElem_toArray, List.getElem_cons_zero, List.getElem_cons_succ, List.setIfInBounds_toArray, List.set_cons_zero, List.set_cons_succ]
  refine wpAnyH_take (i := 8) (v := ?_) rfl (by kernel_rfl) (by kernel_rfl) (by kernel_rfl) (fun _ _ _ h => h) (Or.inl ⟨by rfl, (by intro w hSw; go_simp; try with_reducible rfl)⟩) (by assumption) ?_
  simp only [Act.put, List.getElem_toArray, List.getElem_cons_zero, List.getElem_cons_succ, List.setIfInBounds_toArray, List.set_cons_zero, List.set_cons_succ]
  refine wpAnyH_take (i := 9) (v := ?_) rfl (by kernel_rfl) (by kernel_rfl) (by kernel_rfl) (fun _ _ _ h => h) (Or.inl ⟨by rfl, (by intro w hSw; have hXC := XC.out _ hSw; go_simp; try with_reducible rfl)⟩) (by assumption) ?_
  simp only [Act.put, List.getElem_toArray, List.getElem_cons_zero, List.getElem_cons_succ, List.setIfInBounds_toArray, List.set_cons_zero, List.set_cons_succ]
  refine wpAnyH_take (i := 11) (v := ?_) rfl (by kernel_rfl) (by kernel_rfl) (by kernel_rfl) (fun _ _ _ h => h) (Or.inl ⟨by rfl, (by intro w hSw; go_simp; try with_reducible rfl)⟩) (by assumption) ?_
  simp only [Act.put, List.getElem_toArray, List.getElem_cons_zero, List.getElem_cons_succ, List.setIfInBounds_toArray, List.set_cons_zero, List.set_cons_succ]
  refine wpAnyH_take (i := 12) (v := ?_) rfl (by kernel_rfl) (by kernel_rfl) (by kernel_rfl) (fun _ _ _ h => h) (Or.inl ⟨by rfl, (by intro w hSw; have hXC := XC.out _ hSw; go_simp; try with_reducible rfl)⟩) (by assumption) ?_
  simp only [Act.put, List.getElem_toArray, List.getElem_cons_zero, List.getElem_cons_succ, List.setIfInBounds_toArray, List.set_cons_zero, List.set_cons_succ]
  refine wpAnyH_ready (rs := [10]) (by kernel_rfl) (by simp) ?_
  refine AllReadyH.cons rfl (fun K hK => ?_) AllReadyH.nil
  go_simp
  go_at_call 13
  refine (HA.out _ _ (Rws.below R5.out hHeld.below)).mono ?_
  rintro e w13 ⟨rfl, h8⟩
  have hL := InB.trans hHeld h8
  refine hK.out _ _ hL (fun hHeld => ?_)
  clear h8 hL
  clear hK K
  refine wpAnyH_ready (rs := [13]) (by kernel_rfl) (by simp) ?_
  refine AllReadyH.cons rfl (fun K hK => ?_) AllReadyH.nil
  go_simp
  go_at_call 14
  refine (RH.out _ _ (Rws.below R5.out hHeld.below)).mono ?_
  rintro e w14 ⟨rfl, h8⟩
  have hL := InB.trans hHeld h8
  refine hK.out _ _ hL (fun hHeld => ?_)
  clear h8 hL
  clear hK K
  refine wpAnyH_take (i := 14) (v := ?_) rfl (by kernel_rfl) (by kernel_rfl) (by kernel_rfl) (fun _ _ _ h => h) (Or.inl ⟨by rfl, (by intro w hSw; go_simp; try with_reducible rfl)⟩) (by assumption) ?_
  simp only [Act.put, List.getElem_toArray, List.getElem_cons_zero, List.getElem_cons_succ, List.setIfInBounds_toArray, List.set_cons_zero, List.set_cons_succ]
  refine wpAnyH_take (i := 15) (v := ?_) rfl (by kernel_rfl) (by kernel_rfl) (by kernel_rfl) (fun _ _ _ h => h) (Or.inl ⟨by rfl, (by intro w hSw; go_simp; try with_reducible rfl)⟩) (by assumption) ?_
  simp only [Act.put, List.getElem_toArray, List.getElem_cons_zero, List.getElem_cons_succ, List.setIfInBounds_toArray, List.set_cons_zero, List.set_cons_succ]
  refine wpAnyH_take (i := 16) (v := ?_) rfl (by kernel_rfl) (by kernel_rfl) (by kernel_rfl) (fun _ _ _ h => h) (Or.inl ⟨by rfl, (by intro w hSw; go_simp; try with_reducible rfl)⟩) (by assumption) ?_
  simp only [Act.put, List.getElem_toArray, List.getElem_cons_zero, List.getElem_cons_succ, List.setIfInBounds_toArray, List.set_cons_zero, List.set_cons_succ]
  refine wpAnyH_take (i := 17) (v := ?_) rfl (by kernel_rfl) (by kernel_rfl) (by kernel_rfl) (fun _ _ _ h => h) (Or.inl ⟨by rfl, (by intro w hSw; go_simp; try with_reducible rfl)⟩) (by assumption) ?_
  simp only [Act.put, List.getElem_toArray, List.getElem_cons_zero, List.getElem_cons_succ, List.setIfInBounds_toArray, List.set_cons_zero, List.set_cons_succ]
  refine wpAnyH_take (i := 18) (v := ?_) rfl (by kernel_rfl) (by kernel_rfl) (by kernel_rfl) (fun _ _ _ h => h) (Or.inl ⟨by rfl, (by intro w hSw; go_simp; try with_reducible rfl)⟩) (by assumption) ?_
  simp only [Act.put, List.getElem_toArray, List.getElem_cons_zero, List.getElem_cons_succ, List.setIfInBounds_toArray, List.set_cons_zero, List.set_cons_succ]
  refine wpAnyH_take (i := 19) (v := ?_) rfl (by kernel_rfl) (by kernel_rfl) (by kernel_rfl) (fun _ _ _ h => h) (Or.inl ⟨by rfl, (by intro w hSw; have hXC := XC.out _ hSw; go_simp; try with_reducible rfl)⟩) (by assumption) ?_
  simp only [Act.put, List.getElem_toArray, List.getElem_cons_zero, List.getElem_cons_succ, List.setIfInBounds_toArray, List.set_cons_zero, List.set_cons_succ]
  refine wpAnyH_ready (rs := [20]) (by kernel_rfl) (by simp) ?_
  refine AllReadyH.cons rfl (fun K hK => ?_) AllReadyH.nil
  go_simp
  go_at_call 15
  refine (RP.out _ _ _ (O5.out.below hHeld.below)).mono ?_
  rintro e w15 ⟨vq, rfl, h8, h9⟩
  have hL := InB.trans hHeld h9
  have EQ := Lib.hid (h8.rows (fun _ _ => rfl))
  refine hK.out _ _ hL (fun hHeld => ?_)
  clear h8 h9 hL
  clear hK K
  refine wpAnyH_ready (rs := [21]) (by kernel_rfl) (by simp) ?_
  refine AllReadyH.cons rfl (fun K hK => ?_) AllReadyH.nil
  go_simp
  go_at_call 11
  refine (SB.out _ _ _ _ _ (Rws.below EP.out hHeld.below) EQ.out).mono ?_
  rintro e w16 ⟨rfl, h8⟩
  have hL := InB.trans hHeld h8
  refine hK.out _ _ hL (fun hHeld => ?_)
  clear h8 hL
  clear hK K
  refine wpAnyH_take (i := 22) (v := ?_) rfl (by kernel_rfl) (by kernel_rfl) (by kernel_rfl) (fun _ _ _ h => h) (Or.inl ⟨by rfl, (by intro w hSw; go_simp; try with_reducible rfl)⟩) (by assumption) ?_
  simp only [Act.put, List.getElem_toArray, List.getElem_cons_zero, List.getElem_cons_succ, List.setIfInBounds_toArray, List.set_cons_zero, List.set_cons_succ]
  refine wpAnyH_take (i := 23) (v := ?_) rfl (by kernel_rfl) (by kernel_rfl) (by kernel_rfl) (fun _ _ _ h => h) (Or.inl ⟨by rfl, (by intro w hSw; go_simp; try with_reducible rfl)⟩) (by assumption) ?_
  simp only [Act.put, List.getElem_toArray, List.getElem_cons_zero, List.getElem_cons_succ, List.setIfInBounds_toArray, List.set_cons_zero, List.set_cons_succ]
  refine wpAnyH_take (i := 24) (v := ?_) rfl (by kernel_rfl) (by kernel_rfl) (by kernel_rfl) (fun _ _ _ h => h) (Or.inl ⟨by rfl, (by intro w hSw; go_simp; try with_reducible rfl)⟩) (by assumption) ?_
  simp only [Act.put, List.getElem_toArray, List.getElem_cons_zero, List.getElem_cons_succ, List.setIfInBounds_toArray, List.set_cons_zero, List.set_cons_succ]
  refine wpAnyH_take (i := 25) (v := ?_) rfl (by kernel_rfl) (by kernel_rfl) (by kernel_rfl) (fun _ _ _ h => h) (Or.inl ⟨by rfl, (by intro w hSw; go_simp; try with_reducible rfl)⟩) (by assumption) ?_
  simp only [Act.put, List.getElem_toArray, List.getElem_cons_zero, List.getElem_cons_succ, List.setIfInBounds_toArray, List.set_cons_zero, List.set_cons_succ]
  refine wpAnyH_take (i := 26) (v := ?_) rfl (by kernel_rfl) (by kernel_rfl) (by kernel_rfl) (fun _ _ _ h => h) (Or.inl ⟨by rfl, (by intro w hSw; have hXC := XC.out _ hSw; go_simp; try with_reducible rfl)⟩) (by assumption) ?_
  simp only [Act.put, List.getElem_toArray, List.getElem_cons_zero, List.getElem_cons_succ, List.setIfInBounds_toArray, List.set_cons_zero, List.set_cons_succ]
  refine wpAnyH_ready (rs := [27]) (by kernel_rfl) (by simp) ?_
  refine AllReadyH.cons rfl (fun K hK => ?_) AllReadyH.nil
  go_simp
  have hL := InB.trans hHeld ((Laid.new _ (.cells #[.int .i64 x1, .int .i64 x2] 24)).below)
  have EX := Lib.hid (XM.out w16)
  refine hK.out _ _ hL (fun hHeld => ?_)
  clear hL
  clear hK K
  refine wpAnyH_ready (rs := [28]) (by kernel_rfl) (by simp) ?_
  refine AllReadyH.cons rfl (fun K hK => ?_) AllReadyH.nil
  go_simp
  go_at_call 16
  refine (RD.out _ _ _ _ (Rws.below R5.out hHeld.below) EX.out).mono ?_
  rintro e w17 ⟨vm, rfl, h8⟩
  have hL := InB.trans hHeld h8.2
  have EM := Lib.hid (h8.rows (fun _ _ => rfl))
  refine hK.out _ _ hL (fun hHeld => ?_)
  clear h8 hL
  clear hK K
  refine wpAnyH_ready (rs := [29]) (by kernel_rfl) (by simp) ?_
  refine AllReadyH.cons rfl (fun K hK => ?_) AllReadyH.nil
  go_simp
  go_at_call 11
  refine (SD.out _ _ _ _ _ (Rws.below ED.out hHeld.below) EM.out).mono ?_
  rintro e w18 ⟨rfl, h8⟩
  have hL := InB.trans hHeld h8
  refine hK.out _ _ hL (fun hHeld => ?_)
  clear h8 hL
  clear hK K
  refine wpAnyH_take (i := 30) (v := ?_) rfl (by kernel_rfl) (by kernel_rfl) (by kernel_rfl) (fun _ _ _ h => h) (Or.inl ⟨by rfl, (by intro w hSw; go_simp; try with_reducible rfl)⟩) (by assumption) ?_
  simp only [Act.put, List.getElem_toArray, List.getElem_cons_zero, List.getElem_cons_succ, List.setIfInBounds_toArray, List.set_cons_zero, List.set_cons_succ]
  refine wpAnyH_take (i := 31) (v := ?_) rfl (by kernel_rfl) (by kernel_rfl) (by kernel_rfl) (fun _ _ _ h => h) (Or.inl ⟨by rfl, (by intro w hSw; go_simp; try with_reducible rfl)⟩) (by assumption) ?_
  simp only [Act.put, List.getElem_toArray, List.getElem_cons_zero, List.getElem_cons_succ, List.setIfInBounds_toArray, List.set_cons_zero, List.set_cons_succ]
  refine wpAnyH_take (i := 32) (v := ?_) rfl (by kernel_rfl) (by kernel_rfl) (by kernel_rfl) (fun _ _ _ h => h) (Or.inl ⟨by rfl, (by intro w hSw; go_simp; try with_reducible rfl)⟩) (by assumption) ?_
  simp only [Act.put, List.getElem_toArray, List.getElem_cons_zero, List.getElem_cons_succ, List.setIfInBounds_toArray, List.set_cons_zero, List.set_cons_succ]
  refine wpAnyH_take (i := 33) (v := ?_) rfl (by kernel_rfl) (by kernel_rfl) (by kernel_rfl) (fun _ _ _ h => h) (Or.inl ⟨by rfl, (by intro w hSw; go_simp; try with_reducible rfl)⟩) (by assumption) ?_
  simp only [Act.put, List.getElem_toArray, List.getElem_cons_zero, List.getElem_cons_succ, List.setIfInBounds_toArray, List.set_cons_zero, List.set_cons_succ]
  refine wpAnyH_ready (rs := [34]) (by kernel_rfl) (by simp) ?_
  refine AllReadyH.cons rfl (fun K hK => ?_) AllReadyH.nil
  go_simp
  go_at_call 11
  refine (same_true (Rws.below R5.out hHeld.below) (Rws.below Q5.out hHeld.below) LA2.out).mono ?_
  rintro e w19 ⟨rfl, h8⟩
  have hL := InB.trans hHeld h8
  refine hK.out _ _ hL (fun hHeld => ?_)
  clear h8 hL
  clear hK K
  refine wpAnyH_take (i := 35) (v := ?_) rfl (by kernel_rfl) (by kernel_rfl) (by kernel_rfl) (fun _ _ _ h => h) (Or.inl ⟨by rfl, (by intro w hSw; go_simp; try with_reducible rfl)⟩) (by assumption) ?_
  simp only [Act.put, List.getElem_toArray, List.getElem_cons_zero, List.getElem_cons_succ, List.setIfInBounds_toArray, List.set_cons_zero, List.set_cons_succ]
  refine wpAnyH_take (i := 36) (v := ?_) rfl (by kernel_rfl) (by kernel_rfl) (by kernel_rfl) (fun _ _ _ h => h) (Or.inl ⟨by rfl, (by intro w hSw; go_simp; try with_reducible rfl)⟩) (by assumption) ?_
  simp only [Act.put, List.getElem_toArray, List.getElem_cons_zero, List.getElem_cons_succ, List.setIfInBounds_toArray, List.set_cons_zero, List.set_cons_succ]
  refine wpAnyH_done (by kernel_rfl) ?_ _
  have BX := Lib.hid (H0.out.below.trans ((B3.out.trans ((F5.out.below.trans (hHeld.below.mono F5.out.below.size)).mono B3.out.size)).mono H0.out.below.size))
  clear hHeld
  go_wp2_with fail
  go_ret
  exact ⟨rfl, BX.out⟩
end Go.Proofs.Ytnpnjophlajfkaa
