/- IsetTwo out of the contracts. -/
import Derived.Test.YtnpnjophlajfkaaIsetAwk
import Derived.Test.YtnpnjophlajfkaaIsetCpy
set_option linter.unusedSimpArgs false
set_option linter.unusedVariables false
namespace Go.Proofs.Ytnpnjophlajfkaa
open Go.RowKit Go.Sort

set_option maxRecDepth 100000 in
set_option maxHeartbeats 6400000 in
theorem itwo_walk (Z : IsetOk) {w : World} {F G : Nat → Prop} {u v : Value} {a0 b0 : List Ver.V} (ha : Vrs w F u a0) (hb : Vrs w G v b0) (la : a0.length ≤ 9223372036854775807) (lb : b0.length ≤ 9223372036854775807) :
    Calls Try.prog 4 #[u, v] w fun e w' => e = .returned (.bool true) ∧ Below w.heap.size w w' := by
  have l50a : (a0.take 50).length ≤ 50 := by rw [List.length_take]; omega
  have l50b : (b0.take 50).length ≤ 50 := by rw [List.length_take]; omega
  have FA := Lib.hid (law14_few ha la)
  have FB := Lib.hid (law14_few hb lb)
  clear ha hb la lb
  generalize a0.take 50 = a at *
  generalize b0.take 50 = b at *
  have LA : Hid (a.length ≤ 500000) := Lib.hid (by omega)
  have LB : Hid (b.length ≤ 500000) := Lib.hid (by omega)
  have LA2 : Hid (a.length ≤ 1000000) := Lib.hid (by omega)
  have LB2 : Hid (b.length ≤ 1000000) := Lib.hid (by omega)
  have LJ0 : Hid ((a ++ b).length ≤ 1000000) := Lib.hid (by rw [List.length_append]; omega)
  have LJ : Hid ((Iset.join a b).length ≤ 1000000) := Lib.hid (by have := Iset.join_len a b; omega)
  have LM : Hid ((Iset.meet a b).length ≤ 1000000) := Lib.hid (by have := Iset.meet_len a b; omega)
  have LS : Hid ((Iset.minus a b).length ≤ 1000000) := Lib.hid (by have := Iset.minus_len a b; omega)
  have AB := Lib.hid (Iset.minus_beq a b)
  have BA := Lib.hid (Iset.minus_beq b a)
  have SM := Lib.hid (show decide (Iset.Within a b ∧ Iset.Within b a) = (decide (Iset.Within a b) && decide (Iset.Within b a)) from by simp)
  have AW := Lib.hid (fun W => iset_awake Z W)
  have WI := Lib.hid (fun (W : World) (F G : Nat → Prop) (x y : Value) (h : Vrs W F x a) (k : Vrs W G y b) => Z.within h k LA2.out LB2.out)
  have WJ := Lib.hid (fun (W : World) (F G : Nat → Prop) (x y : Value) (h : Vrs W F x a) (k : Vrs W G y b) => Z.within k h LB2.out LA2.out)
  have SMC := Lib.hid (fun (W : World) (F G : Nat → Prop) (x y : Value) (h : Vrs W F x a) (k : Vrs W G y b) => Z.same h k LA2.out LB2.out)
  rw [SM.out] at SMC
  clear l50a l50b SM
  generalize decide (Iset.Within a b) = p at *
  generalize decide (Iset.Within b a) = q at *
  have B_0 := Lib.hid (Below.refl w.heap.size w)
  go_enter Try.func4, Try.ntmps4
  go_wp2_with fail
  refine (FA.out).mono ?_
  rintro e w1 ⟨ua, rfl, ra, rfl⟩
  go_wp2_with fail
  refine (FB.out).mono ?_
  rintro e w2 ⟨ub, rfl, rb, rfl⟩
  have RA_0 := Lib.hid ra
  have RB_0 := Lib.hid rb
  clear ra rb FA FB
  go_wp2_with (at_builtin; refine wp_copied rfl _ _ rfl rfl rfl RA_0.out LA2.out ?_)
  intro v1 w1 r9
  have B_1 := Lib.hid (B_0.out.trans (r9.2.mono B_0.out.size))
  have RA_1 := Lib.hid (Rws.below RA_0.out r9.2)
  have RB_1 := Lib.hid (Rws.below RB_0.out r9.2)
  have RP_1 := Lib.hid (r9.rows (fun _ _ => rfl))
  clear B_0 RA_0 RB_0
  clear r9
  go_wp2_with (at_builtin; refine wp_copied rfl _ _ rfl rfl rfl RB_1.out LB2.out ?_)
  intro v2 w2 r9
  have B_2 := Lib.hid (B_1.out.trans (r9.2.mono B_1.out.size))
  have RA_2 := Lib.hid (Rws.below RA_1.out r9.2)
  have RB_2 := Lib.hid (Rws.below RB_1.out r9.2)
  have RP_2 := Lib.hid (Rws.below RP_1.out r9.2)
  have RQ_2 := Lib.hid (r9.rows (fun _ _ => rfl))
  clear B_1 RA_1 RB_1 RP_1
  clear r9
  go_wp2_with (at_builtin; refine wp_copied rfl _ _ rfl rfl rfl RA_2.out LA2.out ?_)
  intro v90 w90 r9
  have O9 := Lib.hid r9
  have RB9 := Lib.hid (Rws.below RB_2.out r9.2)
  clear r9
  go_wp2_with (at_builtin; refine wp_added rfl _ _ rfl rfl rfl O9.out RB9.out LJ0.out ?_)
  intro v3 w3 r8 _
  have B_3 := Lib.hid (B_2.out.trans (r8.2.mono B_2.out.size))
  have RA_3 := Lib.hid (Rws.below RA_2.out r8.2)
  have RB_3 := Lib.hid (Rws.below RB_2.out r8.2)
  have RP_3 := Lib.hid (Rws.below RP_2.out r8.2)
  have RQ_3 := Lib.hid (Rws.below RQ_2.out r8.2)
  have RJ0_3 := Lib.hid (r8.rows (fun _ _ => rfl))
  clear B_2 RA_2 RB_2 RP_2 RQ_2
  clear r8 O9 RB9
  go_wp2_with fail
  refine (ref_iof RJ0_3.out LJ0.out).mono ?_
  rintro e w4 ⟨v4, rfl, r9⟩
  have B_4 := Lib.hid (B_3.out.trans (r9.2.mono B_3.out.size))
  have RA_4 := Lib.hid (Rws.below RA_3.out r9.2)
  have RB_4 := Lib.hid (Rws.below RB_3.out r9.2)
  have RP_4 := Lib.hid (Rws.below RP_3.out r9.2)
  have RQ_4 := Lib.hid (Rws.below RQ_3.out r9.2)
  have RJ0_4 := Lib.hid (Rws.below RJ0_3.out r9.2)
  have RJ_4 := Lib.hid (r9.rows (fun _ _ => rfl))
  clear B_3 RA_3 RB_3 RP_3 RQ_3 RJ0_3
  clear r9
  go_wp2_with fail
  refine (ref_iminus RA_4.out RB_4.out LA2.out (Nat.le_trans LB2.out (by decide))).mono ?_
  rintro e w5 ⟨v5, rfl, r9⟩
  obtain ⟨A5, c5, rfl, -⟩ := (r9.rows (fun _ _ => rfl)).parts
  have B_5 := Lib.hid (B_4.out.trans (r9.2.mono B_4.out.size))
  have RA_5 := Lib.hid (Rws.below RA_4.out r9.2)
  have RB_5 := Lib.hid (Rws.below RB_4.out r9.2)
  have RP_5 := Lib.hid (Rws.below RP_4.out r9.2)
  have RQ_5 := Lib.hid (Rws.below RQ_4.out r9.2)
  have RJ0_5 := Lib.hid (Rws.below RJ0_4.out r9.2)
  have RJ_5 := Lib.hid (Rws.below RJ_4.out r9.2)
  have RS_5 := Lib.hid (r9.rows (fun _ _ => rfl))
  clear B_4 RA_4 RB_4 RP_4 RQ_4 RJ0_4 RJ_4
  clear r9
  go_wp2_with fail
  refine (ref_iminus RB_5.out RA_5.out LB2.out (Nat.le_trans LA2.out (by decide))).mono ?_
  rintro e w6 ⟨v6, rfl, r9⟩
  obtain ⟨A6, c6, rfl, -⟩ := (r9.rows (fun _ _ => rfl)).parts
  have B_6 := Lib.hid (B_5.out.trans (r9.2.mono B_5.out.size))
  have RA_6 := Lib.hid (Rws.below RA_5.out r9.2)
  have RB_6 := Lib.hid (Rws.below RB_5.out r9.2)
  have RP_6 := Lib.hid (Rws.below RP_5.out r9.2)
  have RQ_6 := Lib.hid (Rws.below RQ_5.out r9.2)
  have RJ0_6 := Lib.hid (Rws.below RJ0_5.out r9.2)
  have RJ_6 := Lib.hid (Rws.below RJ_5.out r9.2)
  have RS_6 := Lib.hid (Rws.below RS_5.out r9.2)
  have RT_6 := Lib.hid (r9.rows (fun _ _ => rfl))
  clear B_5 RA_5 RB_5 RP_5 RQ_5 RJ0_5 RJ_5 RS_5
  clear r9
  clear RS_6
  go_wp2_with fail
  rw [AB.out, BA.out]
  clear AB BA
  refine (Z.join RA_6.out RB_6.out LA.out LB.out).mono ?_
  rintro e w7 ⟨v7, rfl, r9, h9⟩
  have B_7 := Lib.hid (B_6.out.trans (h9.mono B_6.out.size))
  have RA_7 := Lib.hid (Rws.below RA_6.out h9)
  have RB_7 := Lib.hid (Rws.below RB_6.out h9)
  have RP_7 := Lib.hid (Rws.below RP_6.out h9)
  have RQ_7 := Lib.hid (Rws.below RQ_6.out h9)
  have RJ_7 := Lib.hid (Rws.below RJ_6.out h9)
  have RU_7 := Lib.hid (r9)
  clear B_6 RA_6 RB_6 RP_6 RQ_6 RJ_6
  clear h9 r9
  go_wp2_with fail
  refine (same_true RU_7.out RJ_7.out LJ.out).mono ?_
  rintro e w8 ⟨rfl, h9⟩
  have B_8 := Lib.hid (B_7.out.trans (h9.mono B_7.out.size))
  have RA_8 := Lib.hid (Rws.below RA_7.out h9)
  have RB_8 := Lib.hid (Rws.below RB_7.out h9)
  have RP_8 := Lib.hid (Rws.below RP_7.out h9)
  have RQ_8 := Lib.hid (Rws.below RQ_7.out h9)
  have RJ_8 := Lib.hid (Rws.below RJ_7.out h9)
  have RU_8 := Lib.hid (Rws.below RU_7.out h9)
  clear B_7 RA_7 RB_7 RP_7 RQ_7 RJ_7 RU_7
  clear h9
  clear RU_8
  clear RJ_8
  go_wp2_with fail
  refine (Z.meet RA_8.out RB_8.out LA2.out LB2.out).mono ?_
  rintro e w9 ⟨v9, rfl, r9, h9⟩
  have B_9 := Lib.hid (B_8.out.trans (h9.mono B_8.out.size))
  have RA_9 := Lib.hid (Rws.below RA_8.out h9)
  have RB_9 := Lib.hid (Rws.below RB_8.out h9)
  have RP_9 := Lib.hid (Rws.below RP_8.out h9)
  have RQ_9 := Lib.hid (Rws.below RQ_8.out h9)
  have RU_9 := Lib.hid (r9)
  clear B_8 RA_8 RB_8 RP_8 RQ_8
  clear h9 r9
  go_wp2_with fail
  refine (ref_imeet RA_9.out RB_9.out LA2.out (Nat.le_trans LB2.out (by decide))).mono ?_
  rintro e w10 ⟨v10, rfl, r9⟩
  have B_10 := Lib.hid (B_9.out.trans (r9.2.mono B_9.out.size))
  have RA_10 := Lib.hid (Rws.below RA_9.out r9.2)
  have RB_10 := Lib.hid (Rws.below RB_9.out r9.2)
  have RP_10 := Lib.hid (Rws.below RP_9.out r9.2)
  have RQ_10 := Lib.hid (Rws.below RQ_9.out r9.2)
  have RU_10 := Lib.hid (Rws.below RU_9.out r9.2)
  have RV_10 := Lib.hid (r9.rows (fun _ _ => rfl))
  clear B_9 RA_9 RB_9 RP_9 RQ_9 RU_9
  clear r9
  go_wp2_with fail
  refine (same_true RU_10.out RV_10.out LM.out).mono ?_
  rintro e w11 ⟨rfl, h9⟩
  have B_11 := Lib.hid (B_10.out.trans (h9.mono B_10.out.size))
  have RA_11 := Lib.hid (Rws.below RA_10.out h9)
  have RB_11 := Lib.hid (Rws.below RB_10.out h9)
  have RP_11 := Lib.hid (Rws.below RP_10.out h9)
  have RQ_11 := Lib.hid (Rws.below RQ_10.out h9)
  have RU_11 := Lib.hid (Rws.below RU_10.out h9)
  have RV_11 := Lib.hid (Rws.below RV_10.out h9)
  clear B_10 RA_10 RB_10 RP_10 RQ_10 RU_10 RV_10
  clear h9
  clear RU_11
  clear RV_11
  go_wp2_with fail
  refine (Z.minus RA_11.out RB_11.out LA2.out LB2.out).mono ?_
  rintro e w12 ⟨v12, rfl, r9, h9⟩
  have B_12 := Lib.hid (B_11.out.trans (h9.mono B_11.out.size))
  have RA_12 := Lib.hid (Rws.below RA_11.out h9)
  have RB_12 := Lib.hid (Rws.below RB_11.out h9)
  have RP_12 := Lib.hid (Rws.below RP_11.out h9)
  have RQ_12 := Lib.hid (Rws.below RQ_11.out h9)
  have RU_12 := Lib.hid (r9)
  clear B_11 RA_11 RB_11 RP_11 RQ_11
  clear h9 r9
  go_wp2_with fail
  refine (ref_iminus RA_12.out RB_12.out LA2.out (Nat.le_trans LB2.out (by decide))).mono ?_
  rintro e w13 ⟨v13, rfl, r9⟩
  have B_13 := Lib.hid (B_12.out.trans (r9.2.mono B_12.out.size))
  have RA_13 := Lib.hid (Rws.below RA_12.out r9.2)
  have RB_13 := Lib.hid (Rws.below RB_12.out r9.2)
  have RP_13 := Lib.hid (Rws.below RP_12.out r9.2)
  have RQ_13 := Lib.hid (Rws.below RQ_12.out r9.2)
  have RU_13 := Lib.hid (Rws.below RU_12.out r9.2)
  have RV_13 := Lib.hid (r9.rows (fun _ _ => rfl))
  clear B_12 RA_12 RB_12 RP_12 RQ_12 RU_12
  clear r9
  go_wp2_with fail
  refine (same_true RU_13.out RV_13.out LS.out).mono ?_
  rintro e w14 ⟨rfl, h9⟩
  have B_14 := Lib.hid (B_13.out.trans (h9.mono B_13.out.size))
  have RA_14 := Lib.hid (Rws.below RA_13.out h9)
  have RB_14 := Lib.hid (Rws.below RB_13.out h9)
  have RP_14 := Lib.hid (Rws.below RP_13.out h9)
  have RQ_14 := Lib.hid (Rws.below RQ_13.out h9)
  have RU_14 := Lib.hid (Rws.below RU_13.out h9)
  have RV_14 := Lib.hid (Rws.below RV_13.out h9)
  clear B_13 RA_13 RB_13 RP_13 RQ_13 RU_13 RV_13
  clear h9
  clear RU_14
  clear RV_14
  go_wp2_with fail
  cases p <;> cases q
  all_goals
    refine (AW.out _).mono ?_
    rintro e w15 ⟨rfl, h9⟩
    have B_15 := Lib.hid (B_14.out.trans (h9.mono B_14.out.size))
    have RA_15 := Lib.hid (Rws.below RA_14.out h9)
    have RB_15 := Lib.hid (Rws.below RB_14.out h9)
    have RP_15 := Lib.hid (Rws.below RP_14.out h9)
    have RQ_15 := Lib.hid (Rws.below RQ_14.out h9)
    clear B_14 RA_14 RB_14 RP_14 RQ_14
    clear h9
    go_wp2_with fail
    refine (WI.out _ _ _ _ _ RA_15.out RB_15.out).mono ?_
    rintro e w16 ⟨rfl, h9⟩
    have B_16 := Lib.hid (B_15.out.trans (h9.mono B_15.out.size))
    have RA_16 := Lib.hid (Rws.below RA_15.out h9)
    have RB_16 := Lib.hid (Rws.below RB_15.out h9)
    have RP_16 := Lib.hid (Rws.below RP_15.out h9)
    have RQ_16 := Lib.hid (Rws.below RQ_15.out h9)
    clear B_15 RA_15 RB_15 RP_15 RQ_15
    clear h9
    go_wp2_with fail
    refine (WJ.out _ _ _ _ _ RA_16.out RB_16.out).mono ?_
    rintro e w17 ⟨rfl, h9⟩
    have B_17 := Lib.hid (B_16.out.trans (h9.mono B_16.out.size))
    have RA_17 := Lib.hid (Rws.below RA_16.out h9)
    have RB_17 := Lib.hid (Rws.below RB_16.out h9)
    have RP_17 := Lib.hid (Rws.below RP_16.out h9)
    have RQ_17 := Lib.hid (Rws.below RQ_16.out h9)
    clear B_16 RA_16 RB_16 RP_16 RQ_16
    clear h9
    go_wp2_with fail
    refine (SMC.out _ _ _ _ _ RA_17.out RB_17.out).mono ?_
    rintro e w18 ⟨rfl, h9⟩
    have B_18 := Lib.hid (B_17.out.trans (h9.mono B_17.out.size))
    have RA_18 := Lib.hid (Rws.below RA_17.out h9)
    have RB_18 := Lib.hid (Rws.below RB_17.out h9)
    have RP_18 := Lib.hid (Rws.below RP_17.out h9)
    have RQ_18 := Lib.hid (Rws.below RQ_17.out h9)
    clear B_17 RA_17 RB_17 RP_17 RQ_17
    clear h9
    go_wp2_with fail
    refine (same_true RA_18.out RP_18.out LA2.out).mono ?_
    rintro e w19 ⟨rfl, h9⟩
    have B_19 := Lib.hid (B_18.out.trans (h9.mono B_18.out.size))
    have RA_19 := Lib.hid (Rws.below RA_18.out h9)
    have RB_19 := Lib.hid (Rws.below RB_18.out h9)
    have RP_19 := Lib.hid (Rws.below RP_18.out h9)
    have RQ_19 := Lib.hid (Rws.below RQ_18.out h9)
    clear B_18 RA_18 RB_18 RP_18 RQ_18
    clear h9
    go_wp2_with fail
    refine (same_true RB_19.out RQ_19.out LB2.out).mono ?_
    rintro e w20 ⟨rfl, h9⟩
    have B_20 := Lib.hid (B_19.out.trans (h9.mono B_19.out.size))
    have RA_20 := Lib.hid (Rws.below RA_19.out h9)
    have RB_20 := Lib.hid (Rws.below RB_19.out h9)
    have RP_20 := Lib.hid (Rws.below RP_19.out h9)
    have RQ_20 := Lib.hid (Rws.below RQ_19.out h9)
    clear B_19 RA_19 RB_19 RP_19 RQ_19
    clear h9
    go_wp2_with fail
    go_ret
    exact ⟨rfl, B_20.out⟩
end Go.Proofs.Ytnpnjophlajfkaa
