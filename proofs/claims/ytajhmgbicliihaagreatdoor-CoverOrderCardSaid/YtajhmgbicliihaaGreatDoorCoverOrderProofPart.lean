/- To subsume is an order, for any three filters: CoverOrder's statement holds (its row lists package variables as the program's text lays them; the proof reads none of them). -/
import Derived.Test.YtajhmgbicliihaaGreatDoorCom15
import Derived.Test.YtajhmgbicliihaaGreatDoorCom24
import Derived.Test.YtajhmgbicliihaaGreatDoorTie
import Derived.Test.YtajhmgbicliihaaGreatDoorCards
import Derived.SevenTiedAt
import Derived.Lay
import Derived.LaidMore
/- CoverOrder out of the contracts. -/
set_option linter.unusedSimpArgs false
set_option linter.unusedVariables false
namespace Go.Proofs.YtajhmgbicliihaaGreatDoor
open Go.RowKit

set_option maxRecDepth 100000 in
set_option maxHeartbeats 12800000 in
theorem cord_walk (H : CoverOk) (HF : FilterOk) {w : World} {u v t : Value} {f g h : List Flt.Cl} (hf : Cls w (fun i => i < w.heap.size) u f) (hg : Cls w (fun i => i < w.heap.size) v g) (hh : Cls w (fun i => i < w.heap.size) t h) (lf : f.length ≤ 9223372036854775807) (lg : g.length ≤ 9223372036854775807) (lh : h.length ≤ 9223372036854775807)
    (bf : ∀ c ∈ f, c.pre.length ≤ 9223372036854775807 ∧ Bd (Flt.rg c)) (bg : ∀ c ∈ g, c.pre.length ≤ 9223372036854775807 ∧ Bd (Flt.rg c)) (bh : ∀ c ∈ h, c.pre.length ≤ 9223372036854775807 ∧ Bd (Flt.rg c)) :
    Calls Tryz.prog 4 #[u, v, t] w fun e w' => e = .returned (.bool true) ∧ Below w.heap.size w w' := by
  have AW := Lib.hid (fun W => cov_awake H W)
  have SF := Lib.hid (cov_sane hf lf (fun c hc => (bf c hc).1))
  have SG := Lib.hid (fun (W : World) (hW : Below w.heap.size w W) => cov_sane (hg.below hW) lg (fun c hc => (bg c hc).1))
  have SH := Lib.hid (fun (W : World) (hW : Below w.heap.size w W) => cov_sane (hh.below hW) lh (fun c hc => (bh c hc).1))
  obtain ⟨lF, RF⟩ := Cov.sane_fine (f := f)
  obtain ⟨lG, RG⟩ := Cov.sane_fine (f := g)
  obtain ⟨lH, RH⟩ := Cov.sane_fine (f := h)
  generalize Cov.sane f = F at *
  generalize Cov.sane g = G at *
  generalize Cov.sane h = E at *
  have okF : Cov.Ok F := Cov.Ok.of (by omega) RF
  have okG : Cov.Ok G := Cov.Ok.of (by omega) RG
  have okH : Cov.Ok E := Cov.Ok.of (by omega) RH
  have pF := Flt.prefixes_len F
  have pG := Flt.prefixes_len G
  have l1 := Cov.two_short 1 F G
  have l0 := Cov.two_short 0 F G
  have lM := Cov.minus_short F G
  have okM : Cov.Ok (Cov.two 1 F G) := Cov.Ok.of (by omega) (Cov.two_right RF RG)
  have okJ : Cov.Ok (Cov.two 0 F G) := Cov.Ok.of (by omega) (Cov.two_right RF RG)
  have okN : Cov.Ok (Cov.minus F G) := Cov.Ok.of (by omega) (Cov.minus_right RF)
  have okA : Cov.Ok Flt.whole := Cov.Ok.of (by decide) (by decide +kernel)
  have ME : Hid (∀ (P Q : Nat → Prop) (W : World) (x y : Value), Cls W P x F → Cls W Q y G → Calls Tryz.prog 6 #[x, y] W fun e w' => ∃ v', e = .returned v' ∧ Cls w' (NewIn W w') v' (Cov.two 1 F G) ∧ Below W.heap.size W w') := Lib.hid (fun P Q W x y hx hy => H.meet hx hy okF okG (by omega))
  have JO : Hid (∀ (P Q : Nat → Prop) (W : World) (x y : Value), Cls W P x F → Cls W Q y G → Calls Tryz.prog 7 #[x, y] W fun e w' => ∃ v', e = .returned v' ∧ Cls w' (NewIn W w') v' (Cov.two 0 F G) ∧ Below W.heap.size W w') := Lib.hid (fun P Q W x y hx hy => H.join hx hy okF okG (by omega))
  have MI : Hid (∀ (P Q : Nat → Prop) (W : World) (x y : Value), Cls W P x F → Cls W Q y G → Calls Tryz.prog 12 #[x, y] W fun e w' => ∃ v', e = .returned v' ∧ Cls w' (NewIn W w') v' (Cov.minus F G) ∧ Below W.heap.size W w') := Lib.hid (fun P Q W x y hx hy => H.minus hx hy okF okG (by omega))
  have AL := Lib.hid HF.all
  have SB : Hid (∀ {a b : List Flt.Cl}, Cov.Ok a → Cov.Ok b → ∀ {B : Bool}, decide (Cov.Subs a b) = B → ∀ (P Q : Nat → Prop) (W : World) (x y : Value), Cls W P x a → Cls W Q y b → Calls Tryz.prog 14 #[x, y] W fun e w' => e = .returned (.bool B) ∧ Below W.heap.size W w') := Lib.hid (fun oka okb B hB P Q W x y hx hy => by
    rw [← hB]; exact H.subs hx hy oka okb)
  have SFF := Lib.hid (SB.out okF okF (decide_eq_true (Cov.subs_refl F)))
  have SAF := Lib.hid (SB.out okA okF (decide_eq_true (Cov.subs_all F)))
  have SFM := Lib.hid (SB.out okF okM (decide_eq_true (Cov.meet_left F G)))
  have SGM := Lib.hid (SB.out okG okM (decide_eq_true (Cov.meet_right F G)))
  have SJF := Lib.hid (SB.out okJ okF (decide_eq_true (Cov.join_left F G)))
  have SJG := Lib.hid (SB.out okJ okG (decide_eq_true (Cov.join_right F G)))
  have SFN := Lib.hid (SB.out okF okN (decide_eq_true (Cov.minus_below F G)))
  have hs : decide (Flt.norm F = Flt.norm G) = (decide (Cov.Subs F G) && decide (Cov.Subs G F)) := by
    rw [Bool.eq_iff_iff, Bool.and_eq_true, decide_eq_true_iff, decide_eq_true_iff, decide_eq_true_iff, Cov.subs_anti, Flt.alike_iff]
  have hm : decide ((Cov.minus F G).length = 0) = decide (Cov.Subs G F) := by
    rw [decide_eq_decide, ← Cov.minus_empty, List.length_eq_zero_iff]
  have htr : decide (Cov.Subs F G) = true → decide (Cov.Subs G E) = true → decide (Cov.Subs F E) = true := fun k1 k2 => decide_eq_true (Cov.subs_trans (of_decide_eq_true k1) (of_decide_eq_true k2))
  have SA : Hid (∀ (P Q : Nat → Prop) (W : World) (x y : Value), Cls W P x F → Cls W Q y G → Calls Tryz.prog 16 #[x, y] W fun e w' => e = .returned (.bool (decide (Cov.Subs F G) && decide (Cov.Subs G F))) ∧ Below W.heap.size W w') := Lib.hid (fun P Q W x y hx hy => by
    rw [← hs]; exact HF.same hx hy okF.1 okG.1 RF RG okF.2.2 okG.2.2)
  generalize hb1 : decide (Cov.Subs F G) = b1 at *
  generalize hb2 : decide (Cov.Subs G E) = b2 at *
  generalize hb3 : decide (Cov.Subs F E) = b3 at *
  generalize hb4 : decide (Cov.Subs G F) = b4 at *
  have SFG := Lib.hid (SB.out okF okG hb1)
  have SGE := Lib.hid (SB.out okG okH hb2)
  have SFE := Lib.hid (SB.out okF okH hb3)
  have SGF := Lib.hid (SB.out okG okF hb4)
  clear hf hg hh bf bg bh lf lg lh lF lG lH RF RG RH okF okG okH okM okJ okN okA pF pG l1 l0 lM SB hs hb1 hb2 hb3 hb4
  generalize Cov.two 1 F G = M at *
  generalize Cov.two 0 F G = J at *
  generalize Cov.minus F G = N at *
  have Hm := Lib.hid hm
  have Htr := Lib.hid htr
  clear hm htr
  cases b1
  · clear SGE SFE Htr
    cases b4
    · go_enter Tryz.func4, Tryz.ntmps4
      go_wp2_with fail
      refine (SF.out).mono ?_
      rintro e w1 ⟨x, rfl, hx⟩
      have HX := Lib.hid hx
      clear hx
      go_wp2_with fail
      refine (SG.out _ HX.out.2).mono ?_
      rintro e w2 ⟨y, rfl, hy⟩
      have HX2 := Lib.hid ((HX.out.rows (fun _ _ => rfl)).below hy.2)
      have HY2 := Lib.hid (hy.rows (fun _ _ => rfl))
      have K2 := Lib.hid (cov_step HX.out.2 hy.2)
      clear hy HX
      go_wp2_with fail
      refine (SH.out _ K2.out).mono ?_
      rintro e w3 ⟨z, rfl, hz⟩
      have K3 := Lib.hid (cov_step K2.out hz.2)
      have PP : Hid (∀ W, Below w3.heap.size w3 W → Cls W (NewIn w w1) x F ∧ Cls W (NewIn w1 w2) y G ∧ Cls W (NewIn w2 w3) z E) := Lib.hid (fun W hW => ⟨(HX2.out.below hz.2).below hW, (HY2.out.below hz.2).below hW, (hz.rows (fun _ _ => rfl)).below hW⟩)
      clear hz HX2 HY2 K2 SG SH
      go_wp2_with fail
      refine (SFF.out _ _ _ _ _ (PP.out _ (Below.refl _ _)).1 (PP.out _ (Below.refl _ _)).1).mono ?_
      rintro e w4 ⟨rfl, hb⟩
      have T4 := Lib.hid hb
      clear hb
      go_wp2_with fail
      refine (AL.out _).mono ?_
      rintro e w5 ⟨al, rfl, ha, hb⟩
      have T5 := Lib.hid (cov_step T4.out hb)
      have HA := Lib.hid ha
      clear ha hb
      go_wp2_with fail
      refine (SAF.out _ _ _ _ _ HA.out (PP.out _ T5.out).1).mono ?_
      rintro e w6 ⟨rfl, hb⟩
      have T6 := Lib.hid (cov_step T5.out hb)
      clear hb
      go_wp2_with fail
      refine (SFG.out _ _ _ _ _ (PP.out _ T6.out).1 (PP.out _ T6.out).2.1).mono ?_
      rintro e w7 ⟨rfl, hb⟩
      have T7 := Lib.hid (cov_step T6.out hb)
      clear hb
      go_wp2_with fail
      refine (SFG.out _ _ _ _ _ (PP.out _ T7.out).1 (PP.out _ T7.out).2.1).mono ?_
      rintro e w8 ⟨rfl, hb⟩
      have T8 := Lib.hid (cov_step T7.out hb)
      clear hb
      go_wp2_with fail
      refine (SA.out _ _ _ _ _ (PP.out _ T8.out).1 (PP.out _ T8.out).2.1).mono ?_
      rintro e w9 ⟨rfl, hb⟩
      have T9 := Lib.hid (cov_step T8.out hb)
      clear hb
      go_wp2_with fail
      refine (ME.out _ _ _ _ _ (PP.out _ T9.out).1 (PP.out _ T9.out).2.1).mono ?_
      rintro e w10 ⟨m, rfl, hv, hb⟩
      have T10 := Lib.hid (cov_step T9.out hb)
      have HM0 := Lib.hid hv
      clear hv hb
      go_wp2_with fail
      refine (JO.out _ _ _ _ _ (PP.out _ T10.out).1 (PP.out _ T10.out).2.1).mono ?_
      rintro e w11 ⟨j, rfl, hv, hb⟩
      have T11 := Lib.hid (cov_step T10.out hb)
      have HJ0 := Lib.hid hv
      have HM : Hid (∀ W, Below w11.heap.size w11 W → Cls W (NewIn w9 w10) m M) := Lib.hid (fun W hW => (HM0.out.below hb).below hW)
      have HJ : Hid (∀ W, Below w11.heap.size w11 W → Cls W (NewIn w10 w11) j J) := Lib.hid (fun W hW => HJ0.out.below hW)
      have PQ : Hid (∀ W, Below w11.heap.size w11 W → Cls W (NewIn w w1) x F ∧ Cls W (NewIn w1 w2) y G ∧ Cls W (NewIn w2 w3) z E) := Lib.hid (fun W hW => PP.out W (cov_step T11.out hW))
      have KJ := Lib.hid (cov_step K3.out T11.out)
      clear hv hb
      clear PP
      have PP := PQ
      clear PQ
      go_wp2_with fail
      refine (AW.out _).mono ?_
      rintro e w12 ⟨rfl, hb⟩
      have T12 := Lib.hid hb
      clear hb
      go_wp2_with fail
      refine (SFM.out _ _ _ _ _ (PP.out _ T12.out).1 (HM.out _ T12.out)).mono ?_
      rintro e w13 ⟨rfl, hb⟩
      have T13 := Lib.hid (cov_step T12.out hb)
      clear hb
      go_wp2_with fail
      refine (SGM.out _ _ _ _ _ (PP.out _ T13.out).2.1 (HM.out _ T13.out)).mono ?_
      rintro e w14 ⟨rfl, hb⟩
      have T14 := Lib.hid (cov_step T13.out hb)
      clear hb
      go_wp2_with fail
      refine (SJF.out _ _ _ _ _ (HJ.out _ T14.out) (PP.out _ T14.out).1).mono ?_
      rintro e w15 ⟨rfl, hb⟩
      have T15 := Lib.hid (cov_step T14.out hb)
      clear hb
      go_wp2_with fail
      refine (SJG.out _ _ _ _ _ (HJ.out _ T15.out) (PP.out _ T15.out).2.1).mono ?_
      rintro e w16 ⟨rfl, hb⟩
      have T16 := Lib.hid (cov_step T15.out hb)
      clear hb
      go_wp2_with fail
      refine (MI.out _ _ _ _ _ (PP.out _ T16.out).1 (PP.out _ T16.out).2.1).mono ?_
      rintro e w17 ⟨n1, rfl, hv, hb⟩
      have T17 := Lib.hid (cov_step T16.out hb)
      have HN0 := Lib.hid hv
      clear hv hb
      go_wp2_with fail
      refine (SFN.out _ _ _ _ _ (PP.out _ T17.out).1 HN0.out).mono ?_
      rintro e w18 ⟨rfl, hb⟩
      have T18 := Lib.hid (cov_step T17.out hb)
      clear hb
      go_wp2_with fail
      refine (MI.out _ _ _ _ _ (PP.out _ T18.out).1 (PP.out _ T18.out).2.1).mono ?_
      rintro e w19 ⟨n2, rfl, hv, hb⟩
      have T19 := Lib.hid (cov_step T18.out hb)
      have HN1 := Lib.hid hv
      clear hv hb
      have h0 : ¬ N.length = 0 := of_decide_eq_false Hm.out
      have g0 : ((N.length : Int) == 0) = false := by rw [beq_eq_false_iff_ne]; omega
      obtain ⟨NA, nc, rfl, hnc⟩ := HN1.out.parts
      clear h0
      go_wp2_with fail
      refine (SGF.out _ _ _ _ _ (PP.out _ T19.out).2.1 (PP.out _ T19.out).1).mono ?_
      rintro e w20 ⟨rfl, hb⟩
      have T20 := Lib.hid (cov_step T19.out hb)
      clear hb
      go_wp2_with fail
      go_ret
      exact ⟨rfl, cov_step KJ.out T20.out⟩
    · go_enter Tryz.func4, Tryz.ntmps4
      go_wp2_with fail
      refine (SF.out).mono ?_
      rintro e w1 ⟨x, rfl, hx⟩
      have HX := Lib.hid hx
      clear hx
      go_wp2_with fail
      refine (SG.out _ HX.out.2).mono ?_
      rintro e w2 ⟨y, rfl, hy⟩
      have HX2 := Lib.hid ((HX.out.rows (fun _ _ => rfl)).below hy.2)
      have HY2 := Lib.hid (hy.rows (fun _ _ => rfl))
      have K2 := Lib.hid (cov_step HX.out.2 hy.2)
      clear hy HX
      go_wp2_with fail
      refine (SH.out _ K2.out).mono ?_
      rintro e w3 ⟨z, rfl, hz⟩
      have K3 := Lib.hid (cov_step K2.out hz.2)
      have PP : Hid (∀ W, Below w3.heap.size w3 W → Cls W (NewIn w w1) x F ∧ Cls W (NewIn w1 w2) y G ∧ Cls W (NewIn w2 w3) z E) := Lib.hid (fun W hW => ⟨(HX2.out.below hz.2).below hW, (HY2.out.below hz.2).below hW, (hz.rows (fun _ _ => rfl)).below hW⟩)
      clear hz HX2 HY2 K2 SG SH
      go_wp2_with fail
      refine (SFF.out _ _ _ _ _ (PP.out _ (Below.refl _ _)).1 (PP.out _ (Below.refl _ _)).1).mono ?_
      rintro e w4 ⟨rfl, hb⟩
      have T4 := Lib.hid hb
      clear hb
      go_wp2_with fail
      refine (AL.out _).mono ?_
      rintro e w5 ⟨al, rfl, ha, hb⟩
      have T5 := Lib.hid (cov_step T4.out hb)
      have HA := Lib.hid ha
      clear ha hb
      go_wp2_with fail
      refine (SAF.out _ _ _ _ _ HA.out (PP.out _ T5.out).1).mono ?_
      rintro e w6 ⟨rfl, hb⟩
      have T6 := Lib.hid (cov_step T5.out hb)
      clear hb
      go_wp2_with fail
      refine (SFG.out _ _ _ _ _ (PP.out _ T6.out).1 (PP.out _ T6.out).2.1).mono ?_
      rintro e w7 ⟨rfl, hb⟩
      have T7 := Lib.hid (cov_step T6.out hb)
      clear hb
      go_wp2_with fail
      refine (SFG.out _ _ _ _ _ (PP.out _ T7.out).1 (PP.out _ T7.out).2.1).mono ?_
      rintro e w8 ⟨rfl, hb⟩
      have T8 := Lib.hid (cov_step T7.out hb)
      clear hb
      go_wp2_with fail
      refine (SA.out _ _ _ _ _ (PP.out _ T8.out).1 (PP.out _ T8.out).2.1).mono ?_
      rintro e w9 ⟨rfl, hb⟩
      have T9 := Lib.hid (cov_step T8.out hb)
      clear hb
      go_wp2_with fail
      refine (ME.out _ _ _ _ _ (PP.out _ T9.out).1 (PP.out _ T9.out).2.1).mono ?_
      rintro e w10 ⟨m, rfl, hv, hb⟩
      have T10 := Lib.hid (cov_step T9.out hb)
      have HM0 := Lib.hid hv
      clear hv hb
      go_wp2_with fail
      refine (JO.out _ _ _ _ _ (PP.out _ T10.out).1 (PP.out _ T10.out).2.1).mono ?_
      rintro e w11 ⟨j, rfl, hv, hb⟩
      have T11 := Lib.hid (cov_step T10.out hb)
      have HJ0 := Lib.hid hv
      have HM : Hid (∀ W, Below w11.heap.size w11 W → Cls W (NewIn w9 w10) m M) := Lib.hid (fun W hW => (HM0.out.below hb).below hW)
      have HJ : Hid (∀ W, Below w11.heap.size w11 W → Cls W (NewIn w10 w11) j J) := Lib.hid (fun W hW => HJ0.out.below hW)
      have PQ : Hid (∀ W, Below w11.heap.size w11 W → Cls W (NewIn w w1) x F ∧ Cls W (NewIn w1 w2) y G ∧ Cls W (NewIn w2 w3) z E) := Lib.hid (fun W hW => PP.out W (cov_step T11.out hW))
      have KJ := Lib.hid (cov_step K3.out T11.out)
      clear hv hb
      clear PP
      have PP := PQ
      clear PQ
      go_wp2_with fail
      refine (AW.out _).mono ?_
      rintro e w12 ⟨rfl, hb⟩
      have T12 := Lib.hid hb
      clear hb
      go_wp2_with fail
      refine (SFM.out _ _ _ _ _ (PP.out _ T12.out).1 (HM.out _ T12.out)).mono ?_
      rintro e w13 ⟨rfl, hb⟩
      have T13 := Lib.hid (cov_step T12.out hb)
      clear hb
      go_wp2_with fail
      refine (SGM.out _ _ _ _ _ (PP.out _ T13.out).2.1 (HM.out _ T13.out)).mono ?_
      rintro e w14 ⟨rfl, hb⟩
      have T14 := Lib.hid (cov_step T13.out hb)
      clear hb
      go_wp2_with fail
      refine (SJF.out _ _ _ _ _ (HJ.out _ T14.out) (PP.out _ T14.out).1).mono ?_
      rintro e w15 ⟨rfl, hb⟩
      have T15 := Lib.hid (cov_step T14.out hb)
      clear hb
      go_wp2_with fail
      refine (SJG.out _ _ _ _ _ (HJ.out _ T15.out) (PP.out _ T15.out).2.1).mono ?_
      rintro e w16 ⟨rfl, hb⟩
      have T16 := Lib.hid (cov_step T15.out hb)
      clear hb
      go_wp2_with fail
      refine (MI.out _ _ _ _ _ (PP.out _ T16.out).1 (PP.out _ T16.out).2.1).mono ?_
      rintro e w17 ⟨n1, rfl, hv, hb⟩
      have T17 := Lib.hid (cov_step T16.out hb)
      have HN0 := Lib.hid hv
      clear hv hb
      go_wp2_with fail
      refine (SFN.out _ _ _ _ _ (PP.out _ T17.out).1 HN0.out).mono ?_
      rintro e w18 ⟨rfl, hb⟩
      have T18 := Lib.hid (cov_step T17.out hb)
      clear hb
      go_wp2_with fail
      refine (MI.out _ _ _ _ _ (PP.out _ T18.out).1 (PP.out _ T18.out).2.1).mono ?_
      rintro e w19 ⟨n2, rfl, hv, hb⟩
      have T19 := Lib.hid (cov_step T18.out hb)
      have HN1 := Lib.hid hv
      clear hv hb
      have h0 : N.length = 0 := of_decide_eq_true Hm.out
      obtain ⟨NA, nc, rfl, hnc⟩ := HN1.out.parts
      rw [h0]
      clear h0
      go_wp2_with fail
      refine (SGF.out _ _ _ _ _ (PP.out _ T19.out).2.1 (PP.out _ T19.out).1).mono ?_
      rintro e w20 ⟨rfl, hb⟩
      have T20 := Lib.hid (cov_step T19.out hb)
      clear hb
      go_wp2_with fail
      go_ret
      exact ⟨rfl, cov_step KJ.out T20.out⟩
  · cases b2
    · clear SFE Htr
      cases b4
      · go_enter Tryz.func4, Tryz.ntmps4
        go_wp2_with fail
        refine (SF.out).mono ?_
        rintro e w1 ⟨x, rfl, hx⟩
        have HX := Lib.hid hx
        clear hx
        go_wp2_with fail
        refine (SG.out _ HX.out.2).mono ?_
        rintro e w2 ⟨y, rfl, hy⟩
        have HX2 := Lib.hid ((HX.out.rows (fun _ _ => rfl)).below hy.2)
        have HY2 := Lib.hid (hy.rows (fun _ _ => rfl))
        have K2 := Lib.hid (cov_step HX.out.2 hy.2)
        clear hy HX
        go_wp2_with fail
        refine (SH.out _ K2.out).mono ?_
        rintro e w3 ⟨z, rfl, hz⟩
        have K3 := Lib.hid (cov_step K2.out hz.2)
        have PP : Hid (∀ W, Below w3.heap.size w3 W → Cls W (NewIn w w1) x F ∧ Cls W (NewIn w1 w2) y G ∧ Cls W (NewIn w2 w3) z E) := Lib.hid (fun W hW => ⟨(HX2.out.below hz.2).below hW, (HY2.out.below hz.2).below hW, (hz.rows (fun _ _ => rfl)).below hW⟩)
        clear hz HX2 HY2 K2 SG SH
        go_wp2_with fail
        refine (SFF.out _ _ _ _ _ (PP.out _ (Below.refl _ _)).1 (PP.out _ (Below.refl _ _)).1).mono ?_
        rintro e w4 ⟨rfl, hb⟩
        have T4 := Lib.hid hb
        clear hb
        go_wp2_with fail
        refine (AL.out _).mono ?_
        rintro e w5 ⟨al, rfl, ha, hb⟩
        have T5 := Lib.hid (cov_step T4.out hb)
        have HA := Lib.hid ha
        clear ha hb
        go_wp2_with fail
        refine (SAF.out _ _ _ _ _ HA.out (PP.out _ T5.out).1).mono ?_
        rintro e w6 ⟨rfl, hb⟩
        have T6 := Lib.hid (cov_step T5.out hb)
        clear hb
        go_wp2_with fail
        refine (SFG.out _ _ _ _ _ (PP.out _ T6.out).1 (PP.out _ T6.out).2.1).mono ?_
        rintro e w7 ⟨rfl, hb⟩
        have T7 := Lib.hid (cov_step T6.out hb)
        clear hb
        go_wp2_with fail
        refine (SGE.out _ _ _ _ _ (PP.out _ T7.out).2.1 (PP.out _ T7.out).2.2).mono ?_
        rintro e w8 ⟨rfl, hb⟩
        have T8 := Lib.hid (cov_step T7.out hb)
        clear hb
        go_wp2_with fail
        refine (SFG.out _ _ _ _ _ (PP.out _ T8.out).1 (PP.out _ T8.out).2.1).mono ?_
        rintro e w9 ⟨rfl, hb⟩
        have T9 := Lib.hid (cov_step T8.out hb)
        clear hb
        go_wp2_with fail
        refine (SGF.out _ _ _ _ _ (PP.out _ T9.out).2.1 (PP.out _ T9.out).1).mono ?_
        rintro e w10 ⟨rfl, hb⟩
        have T10 := Lib.hid (cov_step T9.out hb)
        clear hb
        go_wp2_with fail
        refine (SA.out _ _ _ _ _ (PP.out _ T10.out).1 (PP.out _ T10.out).2.1).mono ?_
        rintro e w11 ⟨rfl, hb⟩
        have T11 := Lib.hid (cov_step T10.out hb)
        clear hb
        go_wp2_with fail
        refine (ME.out _ _ _ _ _ (PP.out _ T11.out).1 (PP.out _ T11.out).2.1).mono ?_
        rintro e w12 ⟨m, rfl, hv, hb⟩
        have T12 := Lib.hid (cov_step T11.out hb)
        have HM0 := Lib.hid hv
        clear hv hb
        go_wp2_with fail
        refine (JO.out _ _ _ _ _ (PP.out _ T12.out).1 (PP.out _ T12.out).2.1).mono ?_
        rintro e w13 ⟨j, rfl, hv, hb⟩
        have T13 := Lib.hid (cov_step T12.out hb)
        have HJ0 := Lib.hid hv
        have HM : Hid (∀ W, Below w13.heap.size w13 W → Cls W (NewIn w11 w12) m M) := Lib.hid (fun W hW => (HM0.out.below hb).below hW)
        have HJ : Hid (∀ W, Below w13.heap.size w13 W → Cls W (NewIn w12 w13) j J) := Lib.hid (fun W hW => HJ0.out.below hW)
        have PQ : Hid (∀ W, Below w13.heap.size w13 W → Cls W (NewIn w w1) x F ∧ Cls W (NewIn w1 w2) y G ∧ Cls W (NewIn w2 w3) z E) := Lib.hid (fun W hW => PP.out W (cov_step T13.out hW))
        have KJ := Lib.hid (cov_step K3.out T13.out)
        clear hv hb
        clear PP
        have PP := PQ
        clear PQ
        go_wp2_with fail
        refine (AW.out _).mono ?_
        rintro e w14 ⟨rfl, hb⟩
        have T14 := Lib.hid hb
        clear hb
        go_wp2_with fail
        refine (SFM.out _ _ _ _ _ (PP.out _ T14.out).1 (HM.out _ T14.out)).mono ?_
        rintro e w15 ⟨rfl, hb⟩
        have T15 := Lib.hid (cov_step T14.out hb)
        clear hb
        go_wp2_with fail
        refine (SGM.out _ _ _ _ _ (PP.out _ T15.out).2.1 (HM.out _ T15.out)).mono ?_
        rintro e w16 ⟨rfl, hb⟩
        have T16 := Lib.hid (cov_step T15.out hb)
        clear hb
        go_wp2_with fail
        refine (SJF.out _ _ _ _ _ (HJ.out _ T16.out) (PP.out _ T16.out).1).mono ?_
        rintro e w17 ⟨rfl, hb⟩
        have T17 := Lib.hid (cov_step T16.out hb)
        clear hb
        go_wp2_with fail
        refine (SJG.out _ _ _ _ _ (HJ.out _ T17.out) (PP.out _ T17.out).2.1).mono ?_
        rintro e w18 ⟨rfl, hb⟩
        have T18 := Lib.hid (cov_step T17.out hb)
        clear hb
        go_wp2_with fail
        refine (MI.out _ _ _ _ _ (PP.out _ T18.out).1 (PP.out _ T18.out).2.1).mono ?_
        rintro e w19 ⟨n1, rfl, hv, hb⟩
        have T19 := Lib.hid (cov_step T18.out hb)
        have HN0 := Lib.hid hv
        clear hv hb
        go_wp2_with fail
        refine (SFN.out _ _ _ _ _ (PP.out _ T19.out).1 HN0.out).mono ?_
        rintro e w20 ⟨rfl, hb⟩
        have T20 := Lib.hid (cov_step T19.out hb)
        clear hb
        go_wp2_with fail
        refine (MI.out _ _ _ _ _ (PP.out _ T20.out).1 (PP.out _ T20.out).2.1).mono ?_
        rintro e w21 ⟨n2, rfl, hv, hb⟩
        have T21 := Lib.hid (cov_step T20.out hb)
        have HN1 := Lib.hid hv
        clear hv hb
        have h0 : ¬ N.length = 0 := of_decide_eq_false Hm.out
        have g0 : ((N.length : Int) == 0) = false := by rw [beq_eq_false_iff_ne]; omega
        obtain ⟨NA, nc, rfl, hnc⟩ := HN1.out.parts
        clear h0
        go_wp2_with fail
        refine (SGF.out _ _ _ _ _ (PP.out _ T21.out).2.1 (PP.out _ T21.out).1).mono ?_
        rintro e w22 ⟨rfl, hb⟩
        have T22 := Lib.hid (cov_step T21.out hb)
        clear hb
        go_wp2_with fail
        go_ret
        exact ⟨rfl, cov_step KJ.out T22.out⟩
      · go_enter Tryz.func4, Tryz.ntmps4
        go_wp2_with fail
        refine (SF.out).mono ?_
        rintro e w1 ⟨x, rfl, hx⟩
        have HX := Lib.hid hx
        clear hx
        go_wp2_with fail
        refine (SG.out _ HX.out.2).mono ?_
        rintro e w2 ⟨y, rfl, hy⟩
        have HX2 := Lib.hid ((HX.out.rows (fun _ _ => rfl)).below hy.2)
        have HY2 := Lib.hid (hy.rows (fun _ _ => rfl))
        have K2 := Lib.hid (cov_step HX.out.2 hy.2)
        clear hy HX
        go_wp2_with fail
        refine (SH.out _ K2.out).mono ?_
        rintro e w3 ⟨z, rfl, hz⟩
        have K3 := Lib.hid (cov_step K2.out hz.2)
        have PP : Hid (∀ W, Below w3.heap.size w3 W → Cls W (NewIn w w1) x F ∧ Cls W (NewIn w1 w2) y G ∧ Cls W (NewIn w2 w3) z E) := Lib.hid (fun W hW => ⟨(HX2.out.below hz.2).below hW, (HY2.out.below hz.2).below hW, (hz.rows (fun _ _ => rfl)).below hW⟩)
        clear hz HX2 HY2 K2 SG SH
        go_wp2_with fail
        refine (SFF.out _ _ _ _ _ (PP.out _ (Below.refl _ _)).1 (PP.out _ (Below.refl _ _)).1).mono ?_
        rintro e w4 ⟨rfl, hb⟩
        have T4 := Lib.hid hb
        clear hb
        go_wp2_with fail
        refine (AL.out _).mono ?_
        rintro e w5 ⟨al, rfl, ha, hb⟩
        have T5 := Lib.hid (cov_step T4.out hb)
        have HA := Lib.hid ha
        clear ha hb
        go_wp2_with fail
        refine (SAF.out _ _ _ _ _ HA.out (PP.out _ T5.out).1).mono ?_
        rintro e w6 ⟨rfl, hb⟩
        have T6 := Lib.hid (cov_step T5.out hb)
        clear hb
        go_wp2_with fail
        refine (SFG.out _ _ _ _ _ (PP.out _ T6.out).1 (PP.out _ T6.out).2.1).mono ?_
        rintro e w7 ⟨rfl, hb⟩
        have T7 := Lib.hid (cov_step T6.out hb)
        clear hb
        go_wp2_with fail
        refine (SGE.out _ _ _ _ _ (PP.out _ T7.out).2.1 (PP.out _ T7.out).2.2).mono ?_
        rintro e w8 ⟨rfl, hb⟩
        have T8 := Lib.hid (cov_step T7.out hb)
        clear hb
        go_wp2_with fail
        refine (SFG.out _ _ _ _ _ (PP.out _ T8.out).1 (PP.out _ T8.out).2.1).mono ?_
        rintro e w9 ⟨rfl, hb⟩
        have T9 := Lib.hid (cov_step T8.out hb)
        clear hb
        go_wp2_with fail
        refine (SGF.out _ _ _ _ _ (PP.out _ T9.out).2.1 (PP.out _ T9.out).1).mono ?_
        rintro e w10 ⟨rfl, hb⟩
        have T10 := Lib.hid (cov_step T9.out hb)
        clear hb
        go_wp2_with fail
        refine (SA.out _ _ _ _ _ (PP.out _ T10.out).1 (PP.out _ T10.out).2.1).mono ?_
        rintro e w11 ⟨rfl, hb⟩
        have T11 := Lib.hid (cov_step T10.out hb)
        clear hb
        go_wp2_with fail
        refine (ME.out _ _ _ _ _ (PP.out _ T11.out).1 (PP.out _ T11.out).2.1).mono ?_
        rintro e w12 ⟨m, rfl, hv, hb⟩
        have T12 := Lib.hid (cov_step T11.out hb)
        have HM0 := Lib.hid hv
        clear hv hb
        go_wp2_with fail
        refine (JO.out _ _ _ _ _ (PP.out _ T12.out).1 (PP.out _ T12.out).2.1).mono ?_
        rintro e w13 ⟨j, rfl, hv, hb⟩
        have T13 := Lib.hid (cov_step T12.out hb)
        have HJ0 := Lib.hid hv
        have HM : Hid (∀ W, Below w13.heap.size w13 W → Cls W (NewIn w11 w12) m M) := Lib.hid (fun W hW => (HM0.out.below hb).below hW)
        have HJ : Hid (∀ W, Below w13.heap.size w13 W → Cls W (NewIn w12 w13) j J) := Lib.hid (fun W hW => HJ0.out.below hW)
        have PQ : Hid (∀ W, Below w13.heap.size w13 W → Cls W (NewIn w w1) x F ∧ Cls W (NewIn w1 w2) y G ∧ Cls W (NewIn w2 w3) z E) := Lib.hid (fun W hW => PP.out W (cov_step T13.out hW))
        have KJ := Lib.hid (cov_step K3.out T13.out)
        clear hv hb
        clear PP
        have PP := PQ
        clear PQ
        go_wp2_with fail
        refine (AW.out _).mono ?_
        rintro e w14 ⟨rfl, hb⟩
        have T14 := Lib.hid hb
        clear hb
        go_wp2_with fail
        refine (SFM.out _ _ _ _ _ (PP.out _ T14.out).1 (HM.out _ T14.out)).mono ?_
        rintro e w15 ⟨rfl, hb⟩
        have T15 := Lib.hid (cov_step T14.out hb)
        clear hb
        go_wp2_with fail
        refine (SGM.out _ _ _ _ _ (PP.out _ T15.out).2.1 (HM.out _ T15.out)).mono ?_
        rintro e w16 ⟨rfl, hb⟩
        have T16 := Lib.hid (cov_step T15.out hb)
        clear hb
        go_wp2_with fail
        refine (SJF.out _ _ _ _ _ (HJ.out _ T16.out) (PP.out _ T16.out).1).mono ?_
        rintro e w17 ⟨rfl, hb⟩
        have T17 := Lib.hid (cov_step T16.out hb)
        clear hb
        go_wp2_with fail
        refine (SJG.out _ _ _ _ _ (HJ.out _ T17.out) (PP.out _ T17.out).2.1).mono ?_
        rintro e w18 ⟨rfl, hb⟩
        have T18 := Lib.hid (cov_step T17.out hb)
        clear hb
        go_wp2_with fail
        refine (MI.out _ _ _ _ _ (PP.out _ T18.out).1 (PP.out _ T18.out).2.1).mono ?_
        rintro e w19 ⟨n1, rfl, hv, hb⟩
        have T19 := Lib.hid (cov_step T18.out hb)
        have HN0 := Lib.hid hv
        clear hv hb
        go_wp2_with fail
        refine (SFN.out _ _ _ _ _ (PP.out _ T19.out).1 HN0.out).mono ?_
        rintro e w20 ⟨rfl, hb⟩
        have T20 := Lib.hid (cov_step T19.out hb)
        clear hb
        go_wp2_with fail
        refine (MI.out _ _ _ _ _ (PP.out _ T20.out).1 (PP.out _ T20.out).2.1).mono ?_
        rintro e w21 ⟨n2, rfl, hv, hb⟩
        have T21 := Lib.hid (cov_step T20.out hb)
        have HN1 := Lib.hid hv
        clear hv hb
        have h0 : N.length = 0 := of_decide_eq_true Hm.out
        obtain ⟨NA, nc, rfl, hnc⟩ := HN1.out.parts
        rw [h0]
        clear h0
        go_wp2_with fail
        refine (SGF.out _ _ _ _ _ (PP.out _ T21.out).2.1 (PP.out _ T21.out).1).mono ?_
        rintro e w22 ⟨rfl, hb⟩
        have T22 := Lib.hid (cov_step T21.out hb)
        clear hb
        go_wp2_with fail
        go_ret
        exact ⟨rfl, cov_step KJ.out T22.out⟩
    · have hb3 := Htr.out rfl rfl
      subst hb3
      clear Htr
      cases b4
      · go_enter Tryz.func4, Tryz.ntmps4
        go_wp2_with fail
        refine (SF.out).mono ?_
        rintro e w1 ⟨x, rfl, hx⟩
        have HX := Lib.hid hx
        clear hx
        go_wp2_with fail
        refine (SG.out _ HX.out.2).mono ?_
        rintro e w2 ⟨y, rfl, hy⟩
        have HX2 := Lib.hid ((HX.out.rows (fun _ _ => rfl)).below hy.2)
        have HY2 := Lib.hid (hy.rows (fun _ _ => rfl))
        have K2 := Lib.hid (cov_step HX.out.2 hy.2)
        clear hy HX
        go_wp2_with fail
        refine (SH.out _ K2.out).mono ?_
        rintro e w3 ⟨z, rfl, hz⟩
        have K3 := Lib.hid (cov_step K2.out hz.2)
        have PP : Hid (∀ W, Below w3.heap.size w3 W → Cls W (NewIn w w1) x F ∧ Cls W (NewIn w1 w2) y G ∧ Cls W (NewIn w2 w3) z E) := Lib.hid (fun W hW => ⟨(HX2.out.below hz.2).below hW, (HY2.out.below hz.2).below hW, (hz.rows (fun _ _ => rfl)).below hW⟩)
        clear hz HX2 HY2 K2 SG SH
        go_wp2_with fail
        refine (SFF.out _ _ _ _ _ (PP.out _ (Below.refl _ _)).1 (PP.out _ (Below.refl _ _)).1).mono ?_
        rintro e w4 ⟨rfl, hb⟩
        have T4 := Lib.hid hb
        clear hb
        go_wp2_with fail
        refine (AL.out _).mono ?_
        rintro e w5 ⟨al, rfl, ha, hb⟩
        have T5 := Lib.hid (cov_step T4.out hb)
        have HA := Lib.hid ha
        clear ha hb
        go_wp2_with fail
        refine (SAF.out _ _ _ _ _ HA.out (PP.out _ T5.out).1).mono ?_
        rintro e w6 ⟨rfl, hb⟩
        have T6 := Lib.hid (cov_step T5.out hb)
        clear hb
        go_wp2_with fail
        refine (SFG.out _ _ _ _ _ (PP.out _ T6.out).1 (PP.out _ T6.out).2.1).mono ?_
        rintro e w7 ⟨rfl, hb⟩
        have T7 := Lib.hid (cov_step T6.out hb)
        clear hb
        go_wp2_with fail
        refine (SGE.out _ _ _ _ _ (PP.out _ T7.out).2.1 (PP.out _ T7.out).2.2).mono ?_
        rintro e w8 ⟨rfl, hb⟩
        have T8 := Lib.hid (cov_step T7.out hb)
        clear hb
        go_wp2_with fail
        refine (SFE.out _ _ _ _ _ (PP.out _ T8.out).1 (PP.out _ T8.out).2.2).mono ?_
        rintro e w9 ⟨rfl, hb⟩
        have T9 := Lib.hid (cov_step T8.out hb)
        clear hb
        go_wp2_with fail
        refine (SFG.out _ _ _ _ _ (PP.out _ T9.out).1 (PP.out _ T9.out).2.1).mono ?_
        rintro e w10 ⟨rfl, hb⟩
        have T10 := Lib.hid (cov_step T9.out hb)
        clear hb
        go_wp2_with fail
        refine (SGF.out _ _ _ _ _ (PP.out _ T10.out).2.1 (PP.out _ T10.out).1).mono ?_
        rintro e w11 ⟨rfl, hb⟩
        have T11 := Lib.hid (cov_step T10.out hb)
        clear hb
        go_wp2_with fail
        refine (SA.out _ _ _ _ _ (PP.out _ T11.out).1 (PP.out _ T11.out).2.1).mono ?_
        rintro e w12 ⟨rfl, hb⟩
        have T12 := Lib.hid (cov_step T11.out hb)
        clear hb
        go_wp2_with fail
        refine (ME.out _ _ _ _ _ (PP.out _ T12.out).1 (PP.out _ T12.out).2.1).mono ?_
        rintro e w13 ⟨m, rfl, hv, hb⟩
        have T13 := Lib.hid (cov_step T12.out hb)
        have HM0 := Lib.hid hv
        clear hv hb
        go_wp2_with fail
        refine (JO.out _ _ _ _ _ (PP.out _ T13.out).1 (PP.out _ T13.out).2.1).mono ?_
        rintro e w14 ⟨j, rfl, hv, hb⟩
        have T14 := Lib.hid (cov_step T13.out hb)
        have HJ0 := Lib.hid hv
        have HM : Hid (∀ W, Below w14.heap.size w14 W → Cls W (NewIn w12 w13) m M) := Lib.hid (fun W hW => (HM0.out.below hb).below hW)
        have HJ : Hid (∀ W, Below w14.heap.size w14 W → Cls W (NewIn w13 w14) j J) := Lib.hid (fun W hW => HJ0.out.below hW)
        have PQ : Hid (∀ W, Below w14.heap.size w14 W → Cls W (NewIn w w1) x F ∧ Cls W (NewIn w1 w2) y G ∧ Cls W (NewIn w2 w3) z E) := Lib.hid (fun W hW => PP.out W (cov_step T14.out hW))
        have KJ := Lib.hid (cov_step K3.out T14.out)
        clear hv hb
        clear PP
        have PP := PQ
        clear PQ
        go_wp2_with fail
        refine (AW.out _).mono ?_
        rintro e w15 ⟨rfl, hb⟩
        have T15 := Lib.hid hb
        clear hb
        go_wp2_with fail
        refine (SFM.out _ _ _ _ _ (PP.out _ T15.out).1 (HM.out _ T15.out)).mono ?_
        rintro e w16 ⟨rfl, hb⟩
        have T16 := Lib.hid (cov_step T15.out hb)
        clear hb
        go_wp2_with fail
        refine (SGM.out _ _ _ _ _ (PP.out _ T16.out).2.1 (HM.out _ T16.out)).mono ?_
        rintro e w17 ⟨rfl, hb⟩
        have T17 := Lib.hid (cov_step T16.out hb)
        clear hb
        go_wp2_with fail
        refine (SJF.out _ _ _ _ _ (HJ.out _ T17.out) (PP.out _ T17.out).1).mono ?_
        rintro e w18 ⟨rfl, hb⟩
        have T18 := Lib.hid (cov_step T17.out hb)
        clear hb
        go_wp2_with fail
        refine (SJG.out _ _ _ _ _ (HJ.out _ T18.out) (PP.out _ T18.out).2.1).mono ?_
        rintro e w19 ⟨rfl, hb⟩
        have T19 := Lib.hid (cov_step T18.out hb)
        clear hb
        go_wp2_with fail
        refine (MI.out _ _ _ _ _ (PP.out _ T19.out).1 (PP.out _ T19.out).2.1).mono ?_
        rintro e w20 ⟨n1, rfl, hv, hb⟩
        have T20 := Lib.hid (cov_step T19.out hb)
        have HN0 := Lib.hid hv
        clear hv hb
        go_wp2_with fail
        refine (SFN.out _ _ _ _ _ (PP.out _ T20.out).1 HN0.out).mono ?_
        rintro e w21 ⟨rfl, hb⟩
        have T21 := Lib.hid (cov_step T20.out hb)
        clear hb
        go_wp2_with fail
        refine (MI.out _ _ _ _ _ (PP.out _ T21.out).1 (PP.out _ T21.out).2.1).mono ?_
        rintro e w22 ⟨n2, rfl, hv, hb⟩
        have T22 := Lib.hid (cov_step T21.out hb)
        have HN1 := Lib.hid hv
        clear hv hb
        have h0 : ¬ N.length = 0 := of_decide_eq_false Hm.out
        have g0 : ((N.length : Int) == 0) = false := by rw [beq_eq_false_iff_ne]; omega
        obtain ⟨NA, nc, rfl, hnc⟩ := HN1.out.parts
        clear h0
        go_wp2_with fail
        refine (SGF.out _ _ _ _ _ (PP.out _ T22.out).2.1 (PP.out _ T22.out).1).mono ?_
        rintro e w23 ⟨rfl, hb⟩
        have T23 := Lib.hid (cov_step T22.out hb)
        clear hb
        go_wp2_with fail
        go_ret
        exact ⟨rfl, cov_step KJ.out T23.out⟩
      · go_enter Tryz.func4, Tryz.ntmps4
        go_wp2_with fail
        refine (SF.out).mono ?_
        rintro e w1 ⟨x, rfl, hx⟩
        have HX := Lib.hid hx
        clear hx
        go_wp2_with fail
        refine (SG.out _ HX.out.2).mono ?_
        rintro e w2 ⟨y, rfl, hy⟩
        have HX2 := Lib.hid ((HX.out.rows (fun _ _ => rfl)).below hy.2)
        have HY2 := Lib.hid (hy.rows (fun _ _ => rfl))
        have K2 := Lib.hid (cov_step HX.out.2 hy.2)
        clear hy HX
        go_wp2_with fail
        refine (SH.out _ K2.out).mono ?_
        rintro e w3 ⟨z, rfl, hz⟩
        have K3 := Lib.hid (cov_step K2.out hz.2)
        have PP : Hid (∀ W, Below w3.heap.size w3 W → Cls W (NewIn w w1) x F ∧ Cls W (NewIn w1 w2) y G ∧ Cls W (NewIn w2 w3) z E) := Lib.hid (fun W hW => ⟨(HX2.out.below hz.2).below hW, (HY2.out.below hz.2).below hW, (hz.rows (fun _ _ => rfl)).below hW⟩)
        clear hz HX2 HY2 K2 SG SH
        go_wp2_with fail
        refine (SFF.out _ _ _ _ _ (PP.out _ (Below.refl _ _)).1 (PP.out _ (Below.refl _ _)).1).mono ?_
        rintro e w4 ⟨rfl, hb⟩
        have T4 := Lib.hid hb
        clear hb
        go_wp2_with fail
        refine (AL.out _).mono ?_
        rintro e w5 ⟨al, rfl, ha, hb⟩
        have T5 := Lib.hid (cov_step T4.out hb)
        have HA := Lib.hid ha
        clear ha hb
        go_wp2_with fail
        refine (SAF.out _ _ _ _ _ HA.out (PP.out _ T5.out).1).mono ?_
        rintro e w6 ⟨rfl, hb⟩
        have T6 := Lib.hid (cov_step T5.out hb)
        clear hb
        go_wp2_with fail
        refine (SFG.out _ _ _ _ _ (PP.out _ T6.out).1 (PP.out _ T6.out).2.1).mono ?_
        rintro e w7 ⟨rfl, hb⟩
        have T7 := Lib.hid (cov_step T6.out hb)
        clear hb
        go_wp2_with fail
        refine (SGE.out _ _ _ _ _ (PP.out _ T7.out).2.1 (PP.out _ T7.out).2.2).mono ?_
        rintro e w8 ⟨rfl, hb⟩
        have T8 := Lib.hid (cov_step T7.out hb)
        clear hb
        go_wp2_with fail
        refine (SFE.out _ _ _ _ _ (PP.out _ T8.out).1 (PP.out _ T8.out).2.2).mono ?_
        rintro e w9 ⟨rfl, hb⟩
        have T9 := Lib.hid (cov_step T8.out hb)
        clear hb
        go_wp2_with fail
        refine (SFG.out _ _ _ _ _ (PP.out _ T9.out).1 (PP.out _ T9.out).2.1).mono ?_
        rintro e w10 ⟨rfl, hb⟩
        have T10 := Lib.hid (cov_step T9.out hb)
        clear hb
        go_wp2_with fail
        refine (SGF.out _ _ _ _ _ (PP.out _ T10.out).2.1 (PP.out _ T10.out).1).mono ?_
        rintro e w11 ⟨rfl, hb⟩
        have T11 := Lib.hid (cov_step T10.out hb)
        clear hb
        go_wp2_with fail
        refine (SA.out _ _ _ _ _ (PP.out _ T11.out).1 (PP.out _ T11.out).2.1).mono ?_
        rintro e w12 ⟨rfl, hb⟩
        have T12 := Lib.hid (cov_step T11.out hb)
        clear hb
        go_wp2_with fail
        refine (ME.out _ _ _ _ _ (PP.out _ T12.out).1 (PP.out _ T12.out).2.1).mono ?_
        rintro e w13 ⟨m, rfl, hv, hb⟩
        have T13 := Lib.hid (cov_step T12.out hb)
        have HM0 := Lib.hid hv
        clear hv hb
        go_wp2_with fail
        refine (JO.out _ _ _ _ _ (PP.out _ T13.out).1 (PP.out _ T13.out).2.1).mono ?_
        rintro e w14 ⟨j, rfl, hv, hb⟩
        have T14 := Lib.hid (cov_step T13.out hb)
        have HJ0 := Lib.hid hv
        have HM : Hid (∀ W, Below w14.heap.size w14 W → Cls W (NewIn w12 w13) m M) := Lib.hid (fun W hW => (HM0.out.below hb).below hW)
        have HJ : Hid (∀ W, Below w14.heap.size w14 W → Cls W (NewIn w13 w14) j J) := Lib.hid (fun W hW => HJ0.out.below hW)
        have PQ : Hid (∀ W, Below w14.heap.size w14 W → Cls W (NewIn w w1) x F ∧ Cls W (NewIn w1 w2) y G ∧ Cls W (NewIn w2 w3) z E) := Lib.hid (fun W hW => PP.out W (cov_step T14.out hW))
        have KJ := Lib.hid (cov_step K3.out T14.out)
        clear hv hb
        clear PP
        have PP := PQ
        clear PQ
        go_wp2_with fail
        refine (AW.out _).mono ?_
        rintro e w15 ⟨rfl, hb⟩
        have T15 := Lib.hid hb
        clear hb
        go_wp2_with fail
        refine (SFM.out _ _ _ _ _ (PP.out _ T15.out).1 (HM.out _ T15.out)).mono ?_
        rintro e w16 ⟨rfl, hb⟩
        have T16 := Lib.hid (cov_step T15.out hb)
        clear hb
        go_wp2_with fail
        refine (SGM.out _ _ _ _ _ (PP.out _ T16.out).2.1 (HM.out _ T16.out)).mono ?_
        rintro e w17 ⟨rfl, hb⟩
        have T17 := Lib.hid (cov_step T16.out hb)
        clear hb
        go_wp2_with fail
        refine (SJF.out _ _ _ _ _ (HJ.out _ T17.out) (PP.out _ T17.out).1).mono ?_
        rintro e w18 ⟨rfl, hb⟩
        have T18 := Lib.hid (cov_step T17.out hb)
        clear hb
        go_wp2_with fail
        refine (SJG.out _ _ _ _ _ (HJ.out _ T18.out) (PP.out _ T18.out).2.1).mono ?_
        rintro e w19 ⟨rfl, hb⟩
        have T19 := Lib.hid (cov_step T18.out hb)
        clear hb
        go_wp2_with fail
        refine (MI.out _ _ _ _ _ (PP.out _ T19.out).1 (PP.out _ T19.out).2.1).mono ?_
        rintro e w20 ⟨n1, rfl, hv, hb⟩
        have T20 := Lib.hid (cov_step T19.out hb)
        have HN0 := Lib.hid hv
        clear hv hb
        go_wp2_with fail
        refine (SFN.out _ _ _ _ _ (PP.out _ T20.out).1 HN0.out).mono ?_
        rintro e w21 ⟨rfl, hb⟩
        have T21 := Lib.hid (cov_step T20.out hb)
        clear hb
        go_wp2_with fail
        refine (MI.out _ _ _ _ _ (PP.out _ T21.out).1 (PP.out _ T21.out).2.1).mono ?_
        rintro e w22 ⟨n2, rfl, hv, hb⟩
        have T22 := Lib.hid (cov_step T21.out hb)
        have HN1 := Lib.hid hv
        clear hv hb
        have h0 : N.length = 0 := of_decide_eq_true Hm.out
        obtain ⟨NA, nc, rfl, hnc⟩ := HN1.out.parts
        rw [h0]
        clear h0
        go_wp2_with fail
        refine (SGF.out _ _ _ _ _ (PP.out _ T22.out).2.1 (PP.out _ T22.out).1).mono ?_
        rintro e w23 ⟨rfl, hb⟩
        have T23 := Lib.hid (cov_step T22.out hb)
        clear hb
        go_wp2_with fail
        go_ret
        exact ⟨rfl, cov_step KJ.out T23.out⟩
end Go.Proofs.YtajhmgbicliihaaGreatDoor
namespace Go.Proofs.YtajhmgbicliihaaGreatDoor
open Go.RowKit

open Go.ChangeShapes Go.WideShapes Go.ChangeAt
open Go.ChangeMaps (open_string shut_string)

set_option maxRecDepth 100000 in
theorem coverOrder_lifted (os : Os) (started : os.Started) (H : Type) (enc : TypeId × Value → H) :
    ReturnsInHanded {} Tryz.checked os 4 .any (fun w args => (Rows.coverOrderSpec.pre enc Tryz.prog Tryz.f4 Rows.coverOrderRow.domain false w args ∧ laidMetH Tryz.prog Rows.coverOrderRow.laid w) ∧ sizedMet enc Tryz.prog Tryz.f4 (OpenSpec.ofChange Rows.coverOrderSpec) false w args) (Rows.coverOrderSpec.post enc Tryz.prog Tryz.f4 false true false false) := by
  refine returnsInHanded_of_change_and (C := Tryz.checked) (X := fun w _ => laidMetH Tryz.prog Rows.coverOrderRow.laid w) (fun _ _ _ hh h => h.of_heap hh) own started (by kernel_rfl) Tryz.func4
    (ChangeSpec.witness_shaped (enc := enc) (C := Tryz.checked) (os := os) (X := fun w _ => laidMetH Tryz.prog Rows.coverOrderRow.laid w) false (World.laidAll Tryz.prog os Rows.coverOrderRow.laid) #[.slice none 0 0, .slice none 0 0, .slice none 0 0] 8 rfl (World.shaped_of_ZipB (by kernel_rfl) (by kernel_rfl)) (by kernel_rfl) (by kernel_rfl) (by kernel_rfl)
      (by rw [MakeChecks.laidMetH_plain _ _ _ (by kernel_rfl)]; exact laidMet_laidAll _ (by kernel_rfl) (by kernel_rfl))) ?_
  intro W base args ds gs before hval0 hW _ hsz _ _
  have hval : ∀ (j : Nat) t v, Tryz.f4.params[j]? = some t → args[j]? = some v → Value.okWide Tryz.prog W .any base t v := hval0
  have hW0 := hW
  obtain ⟨p, q, hA0, hV, _, _, _⟩ := hW
  have hA : DataW.TrodAll enc Tryz.prog W 0 (fun _ => true) true Tryz.f4.params.toList args.toList ds p := hA0
  rw [Tryz.params4] at hA hval hsz
  obtain ⟨v0, vs0, d0, ds0, p0, q0, hargs, rfl, rfl, h0, r0⟩ := trodAll_cons hA
  obtain ⟨v1, vs1, d1, ds1, p1, q1, rfl, rfl, rfl, h1, r1⟩ := trodAll_cons r0
  obtain ⟨v2, vs2, d2, ds2, p2, q2, rfl, rfl, rfl, h2, r2⟩ := trodAll_cons r1
  obtain ⟨rfl, rfl, rfl⟩ := trodAll_nil r2
  obtain rfl : args = #[v0, v1, v2] := by cases args; simp_all
  obtain ⟨fl, fin, f63, fbd⟩ := open_cll (okWide_slice Tryz.underlying22 (hval 0 22 v0 rfl rfl)) h0
  obtain ⟨gl, gin, g63, gbd⟩ := open_cll (okWide_slice Tryz.underlying22 (hval 1 22 v1 rfl rfl)) h1
  obtain ⟨hl, hin, h63, hbd⟩ := open_cll (okWide_slice Tryz.underlying22 (hval 2 22 v2 rfl rfl)) h2
  obtain ⟨rfl, rfl⟩ := trodVars_none hV
  refine (cord_walk cover_ok filter_ok fin gin hin f63 g63 h63 fbd gbd hbd).mono fun e W' ⟨he, hg⟩ => ?_
  subst he
  exact ⟨_, rfl, law_done (by kernel_rfl) rfl hW0 rfl (by rw [Tryz.params4]; decide +kernel) hg⟩

set_option maxRecDepth 100000 in
theorem coverOrder_over : Rows.coverOrderRow.holds Tryz.pinned (OpenSpec.ofChange Rows.coverOrderSpec) :=
  OpenClaim.holds_of_wide 4 Tryz.f4 rfl rfl rfl rfl rfl rfl rfl ⟨rfl, rfl, rfl, rfl, rfl⟩ rfl rfl rfl rfl rfl (by kernel_rfl) Tryz.func4 (by kernel_rfl)
    (of_decide_eq_true (by kernel_rfl)) (by unfold Func.isWrapper; first | (rw [if_pos (by decide +kernel)]; kernel_rfl) | (rw [if_neg (by decide +kernel)]; exact ⟨rfl, rfl⟩))
    (fun os started H enc _ => coverOrder_lifted os started H enc)

set_option maxRecDepth 100000 in
/-- The statement: the card, tied to the program's text. -/
theorem coverOrder_holds : Rows.CoverOrderCardSaid :=
  Claim7.holds_tied_plain_at .later [] [.data, .data, .data] true (true, "4fd4b5bcfe5fcf7a94f7af80e51d463a9394e9b055ac3158be6fcb99cfa13bd8") false
    coverOrder_over (fun _ h => by cases h) (by kernel_rfl) (fun _ h => by cases h) coverOrder_row_tie rfl ⟨rfl, rfl⟩ (by kernel_rfl) rfl
    (fun f fn hf hfn => by
      obtain rfl : f = 4 := Option.some.inj ((show Tryz.prog.funcNamed "lighterage/lighteragelaw10.CoverOrder" = some 4 by kernel_rfl).symm.trans hf) |>.symm
      obtain rfl : fn = Tryz.f4 := (Option.some.inj (Tryz.func4.symm.trans hfn)).symm
      exact ⟨by kernel_rfl, fun j t ht => by
        rw [Tryz.params4] at ht
        have hm : t ∈ [22, 22, 22] := by simpa using Array.mem_of_getElem? ht
        have hall : ([22, 22, 22].all fun u => !Tryz.prog.wantsStandIn u) = true := by kernel_rfl
        exact (show Tryz.prog.wantsStandIn t = false by simpa using List.all_eq_true.1 hall t hm)⟩)
    (by kernel_rfl)
#print axioms coverOrder_holds
end Go.Proofs.YtajhmgbicliihaaGreatDoor
