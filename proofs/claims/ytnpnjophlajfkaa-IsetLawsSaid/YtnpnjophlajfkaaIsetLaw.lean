/- IsetLaws out of the contracts. -/
import Derived.Test.YtnpnjophlajfkaaIsetAwk
set_option linter.unusedSimpArgs false
set_option linter.unusedVariables false
namespace Go.Proofs.Ytnpnjophlajfkaa
open Go.RowKit Go.Sort

set_option maxRecDepth 100000 in
set_option maxHeartbeats 6400000 in
theorem ilaws_walk (Z : IsetOk) {w : World} {F G : Nat → Prop} {u v : Value} {a0 b0 : List Ver.V} (ha : Vrs w F u a0) (hb : Vrs w G v b0) (la : a0.length ≤ 9223372036854775807) (lb : b0.length ≤ 9223372036854775807) :
    Calls Try.prog 5 #[u, v] w fun e w' => e = .returned (.bool true) ∧ Below w.heap.size w w' := by
  have l50a : (a0.take 50).length ≤ 50 := by rw [List.length_take]; omega
  have l50b : (b0.take 50).length ≤ 50 := by rw [List.length_take]; omega
  have FA := Lib.hid (law14_few ha la)
  have FB := Lib.hid (law14_few hb lb)
  clear ha hb la lb
  generalize a0.take 50 = a at *
  generalize b0.take 50 = b at *
  have LA : Hid (a.length ≤ 500000) := Lib.hid (by omega)
  have LB : Hid (b.length ≤ 500000) := Lib.hid (by omega)
  have LA2 : Hid (a.length ≤ 1000000) := Lib.hid (by omega)
  have LB2 : Hid (b.length ≤ 1000000) := Lib.hid (by omega)
  have LM : Hid ((Iset.meet a b).length ≤ 500000) := Lib.hid (by have := Iset.meet_len a b; omega)
  have LS : Hid ((Iset.minus a b).length ≤ 500000) := Lib.hid (by have := Iset.minus_len a b; omega)
  have LX : Hid ((Iset.join (Iset.minus a b) (Iset.meet a b)).length ≤ 1000000) := Lib.hid (by have := Iset.join_len (Iset.minus a b) (Iset.meet a b); have := LM.out; have := LS.out; omega)
  have LY : Hid ((Iset.join b a).length ≤ 1000000) := Lib.hid (by have := Iset.join_len b a; omega)
  have AW := Lib.hid (fun W => iset_awake Z W)
  have PA := Lib.hid (decide_eq_true (Iset.parted a b))
  have AP := Lib.hid (Iset.apart a b)
  have ME := Lib.hid (decide_eq_true (Iset.meet_within a b))
  have JO := Lib.hid (decide_eq_true (Iset.join_within a b))
  have SMC := Lib.hid (fun (W : World) (F G : Nat → Prop) (x y : Value) (h : Vrs W F x (Iset.join (Iset.minus a b) (Iset.meet a b))) (k : Vrs W G y a) => Z.same h k LX.out LA2.out)
  have MMC := Lib.hid (fun (W : World) (F G : Nat → Prop) (x y : Value) (h : Vrs W F x (Iset.minus a b)) (k : Vrs W G y b) => Z.meet h k (Nat.le_trans LS.out (by decide)) LB2.out)
  have WMC := Lib.hid (fun (W : World) (F G : Nat → Prop) (x y : Value) (h : Vrs W F x (Iset.meet a b)) (k : Vrs W G y b) => Z.within h k (Nat.le_trans LM.out (by decide)) LB2.out)
  have WJC := Lib.hid (fun (W : World) (F G : Nat → Prop) (x y : Value) (h : Vrs W F x a) (k : Vrs W G y (Iset.join b a)) => Z.within h k LA2.out LY.out)
  rw [PA.out] at SMC
  rw [AP.out] at MMC
  rw [ME.out] at WMC
  rw [JO.out] at WJC
  clear l50a l50b PA AP ME JO
  have B_0 := Lib.hid (Below.refl w.heap.size w)
  go_enter Try.func5, Try.ntmps5
  go_wp2_with fail
  refine (FA.out).mono ?_
  rintro e w1 ⟨ua, rfl, ra, rfl⟩
  go_wp2_with fail
  refine (FB.out).mono ?_
  rintro e w2 ⟨ub, rfl, rb, rfl⟩
  have RA_0 := Lib.hid ra
  have RB_0 := Lib.hid rb
  clear ra rb FA FB
  go_wp2_with fail
  refine (AW.out _).mono ?_
  rintro e w1 ⟨rfl, h9⟩
  have B_1 := Lib.hid (B_0.out.trans (h9.mono B_0.out.size))
  have RA_1 := Lib.hid (Rws.below RA_0.out h9)
  have RB_1 := Lib.hid (Rws.below RB_0.out h9)
  clear B_0 RA_0 RB_0
  clear h9
  go_wp2_with fail
  refine (Z.minus RA_1.out RB_1.out LA2.out LB2.out).mono ?_
  rintro e w2 ⟨v2, rfl, r9, h9⟩
  have B_2 := Lib.hid (B_1.out.trans (h9.mono B_1.out.size))
  have RA_2 := Lib.hid (Rws.below RA_1.out h9)
  have RB_2 := Lib.hid (Rws.below RB_1.out h9)
  have RS_2 := Lib.hid (r9)
  clear B_1 RA_1 RB_1
  clear h9 r9
  go_wp2_with fail
  refine (Z.meet RA_2.out RB_2.out LA2.out LB2.out).mono ?_
  rintro e w3 ⟨v3, rfl, r9, h9⟩
  have B_3 := Lib.hid (B_2.out.trans (h9.mono B_2.out.size))
  have RA_3 := Lib.hid (Rws.below RA_2.out h9)
  have RB_3 := Lib.hid (Rws.below RB_2.out h9)
  have RS_3 := Lib.hid (Rws.below RS_2.out h9)
  have RM_3 := Lib.hid (r9)
  clear B_2 RA_2 RB_2 RS_2
  clear h9 r9
  go_wp2_with fail
  refine (Z.join RS_3.out RM_3.out LS.out LM.out).mono ?_
  rintro e w4 ⟨v4, rfl, r9, h9⟩
  have B_4 := Lib.hid (B_3.out.trans (h9.mono B_3.out.size))
  have RA_4 := Lib.hid (Rws.below RA_3.out h9)
  have RB_4 := Lib.hid (Rws.below RB_3.out h9)
  have RS_4 := Lib.hid (Rws.below RS_3.out h9)
  have RM_4 := Lib.hid (Rws.below RM_3.out h9)
  have RX_4 := Lib.hid (r9)
  clear B_3 RA_3 RB_3 RS_3 RM_3
  clear h9 r9
  go_wp2_with fail
  refine (SMC.out _ _ _ _ _ RX_4.out RA_4.out).mono ?_
  rintro e w5 ⟨rfl, h9⟩
  have B_5 := Lib.hid (B_4.out.trans (h9.mono B_4.out.size))
  have RA_5 := Lib.hid (Rws.below RA_4.out h9)
  have RB_5 := Lib.hid (Rws.below RB_4.out h9)
  have RS_5 := Lib.hid (Rws.below RS_4.out h9)
  have RM_5 := Lib.hid (Rws.below RM_4.out h9)
  have RX_5 := Lib.hid (Rws.below RX_4.out h9)
  clear B_4 RA_4 RB_4 RS_4 RM_4 RX_4
  clear h9
  clear RS_5
  clear RM_5
  clear RX_5
  go_wp2_with fail
  refine (Z.minus RA_5.out RB_5.out LA2.out LB2.out).mono ?_
  rintro e w6 ⟨v6, rfl, r9, h9⟩
  have B_6 := Lib.hid (B_5.out.trans (h9.mono B_5.out.size))
  have RA_6 := Lib.hid (Rws.below RA_5.out h9)
  have RB_6 := Lib.hid (Rws.below RB_5.out h9)
  have RS_6 := Lib.hid (r9)
  clear B_5 RA_5 RB_5
  clear h9 r9
  go_wp2_with fail
  refine (MMC.out _ _ _ _ _ RS_6.out RB_6.out).mono ?_
  rintro e w7 ⟨v7, rfl, r9, h9⟩
  obtain ⟨A7, c7, rfl, -⟩ := r9.parts
  have B_7 := Lib.hid (B_6.out.trans (h9.mono B_6.out.size))
  have RA_7 := Lib.hid (Rws.below RA_6.out h9)
  have RB_7 := Lib.hid (Rws.below RB_6.out h9)
  have RS_7 := Lib.hid (Rws.below RS_6.out h9)
  have RM_7 := Lib.hid (r9)
  clear B_6 RA_6 RB_6 RS_6
  clear h9 r9
  clear RS_7
  go_wp2_with fail
  refine (Z.meet RA_7.out RB_7.out LA2.out LB2.out).mono ?_
  rintro e w8 ⟨v8, rfl, r9, h9⟩
  have B_8 := Lib.hid (B_7.out.trans (h9.mono B_7.out.size))
  have RA_8 := Lib.hid (Rws.below RA_7.out h9)
  have RB_8 := Lib.hid (Rws.below RB_7.out h9)
  have RM_8 := Lib.hid (Rws.below RM_7.out h9)
  have RN_8 := Lib.hid (r9)
  clear B_7 RA_7 RB_7 RM_7
  clear h9 r9
  clear RM_8
  go_wp2_with fail
  refine (WMC.out _ _ _ _ _ RN_8.out RB_8.out).mono ?_
  rintro e w9 ⟨rfl, h9⟩
  have B_9 := Lib.hid (B_8.out.trans (h9.mono B_8.out.size))
  have RA_9 := Lib.hid (Rws.below RA_8.out h9)
  have RB_9 := Lib.hid (Rws.below RB_8.out h9)
  have RN_9 := Lib.hid (Rws.below RN_8.out h9)
  clear B_8 RA_8 RB_8 RN_8
  clear h9
  clear RN_9
  go_wp2_with fail
  refine (Z.join RB_9.out RA_9.out LB.out LA.out).mono ?_
  rintro e w10 ⟨v10, rfl, r9, h9⟩
  have B_10 := Lib.hid (B_9.out.trans (h9.mono B_9.out.size))
  have RA_10 := Lib.hid (Rws.below RA_9.out h9)
  have RB_10 := Lib.hid (Rws.below RB_9.out h9)
  have RY_10 := Lib.hid (r9)
  clear B_9 RA_9 RB_9
  clear h9 r9
  go_wp2_with fail
  refine (WJC.out _ _ _ _ _ RA_10.out RY_10.out).mono ?_
  rintro e w11 ⟨rfl, h9⟩
  have B_11 := Lib.hid (B_10.out.trans (h9.mono B_10.out.size))
  have RA_11 := Lib.hid (Rws.below RA_10.out h9)
  have RB_11 := Lib.hid (Rws.below RB_10.out h9)
  have RY_11 := Lib.hid (Rws.below RY_10.out h9)
  clear B_10 RA_10 RB_10 RY_10
  clear h9
  go_wp2_with fail
  go_ret
  exact ⟨rfl, B_11.out⟩
end Go.Proofs.Ytnpnjophlajfkaa
