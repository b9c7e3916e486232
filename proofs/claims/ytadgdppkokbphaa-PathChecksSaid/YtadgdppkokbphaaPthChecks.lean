/- Which texts are paths: PathChecks out of the contracts. -/
import Derived.Test.YtadgdppkokbphaaPthAwake
import Derived.Test.YtadgdppkokbphaaPthRight
namespace Go.Proofs.Ytadgdppkokbphaa
open Go.RowKit

set_option maxRecDepth 100000 in
set_option maxHeartbeats 3200000 in
theorem pchecks_walk (H : PathOk) (s : ByteArray) (w : World) :
    Calls Try.prog 3 #[.string s] w fun e w' => e = .returned (.bool true) ∧ Below w.heap.size w w' := by
  have AW := Lib.hid (fun W => pth_awake H W)
  obtain ⟨s, rfl⟩ : ∃ q, s = mk q := ⟨_, (mk_of s).symm⟩
  have ls : (mk s).size = s.length := mk_len s
  have STEP : Hid (∀ (A B : World), Below w.heap.size w A → Below A.heap.size A B → Below w.heap.size w B) := Lib.hid (fun A B h k => h.trans (k.mono h.size))
  have B0 := Below.refl w.heap.size w
  by_cases hsm : s.length ≤ 1000
  · have g1 : decide ((1000 : Int) < ((mk s).size : Int)) = false := by rw [ls]; exact decide_eq_false (by omega)
    have HC := Lib.hid (fun W => H.check s W (by omega))
    have HN := Lib.hid (fun W => H.names s W (by omega))
    have HR := Lib.hid (fun W => ref_right s W (by omega))
    by_cases hr : Pth.Right s
    · have HS := Lib.hid (fun W => ref_split s W (by omega))
      have hL : (Pth.split s).length ≤ 6 := hr.2.2
      have hJ := Pth.joins_split hr
      have hjs := Pth.join_split s
      have HJ : Hid (∀ (W : World) (F : Nat → Prop) (v : Value), Cells W F v (texts (Pth.split s)) → Calls Try.prog 11 #[v] W fun e w' => e = .returned (.tuple #[.string (mk s), .int .i64 0]) ∧ Below W.heap.size W w') := Lib.hid (fun W F v hc => by
        have := H.join hc (by omega) (fun t ht => by have := Pth.split_small ht; omega)
        rw [if_pos hJ, hjs] at this
        exact this)
      simp only [if_pos hr] at HC HN
      rw [decide_eq_true hr] at HR
      have HL : Hid ((Pth.split s).length ≤ 1000000) := Lib.hid (by omega)
      have hee : ((mk s).toList == (mk s).toList) = true := beq_self_eq_true _
      clear hr hL hJ hjs ls hsm
      generalize Pth.split s = L at *
      generalize mk s = xs at *
      go_enter Try.func3, Try.ntmps3
      go_wp2_with (first
        | (go_at_call 8; refine (HC.out _).mono ?_; rintro e w1 ⟨rfl, bb⟩; have B0 := STEP.out _ _ B0 bb; clear bb)
        | (go_at_call 9; refine (HN.out _).mono ?_; rintro e w2 ⟨v, rfl, hc, bb⟩; have Hc2 := Lib.hid hc; have B0 := STEP.out _ _ B0 bb; clear bb hc)
        | (go_at_call 10; refine (HR.out _).mono ?_; rintro e w3 ⟨rfl, bb⟩; have Hc3 := Lib.hid (Hc2.out.below bb); have B0 := STEP.out _ _ B0 bb; clear bb Hc2)
        | (go_at_call 11; refine (HJ.out _ _ _ Hc3.out).mono ?_; rintro e w4 ⟨rfl, bb⟩; have Hc4 := Lib.hid (Hc3.out.below bb); have B0 := STEP.out _ _ B0 bb; clear bb Hc3)
        | (go_at_call 7; refine (AW.out _).mono ?_; rintro e w5 ⟨rfl, bb⟩; have Hc5 := Lib.hid (Hc4.out.below bb); have B0 := STEP.out _ _ B0 bb; clear bb Hc4)
        | (go_at_call 13; refine (HS.out _).mono ?_; rintro e w6 ⟨v6, rfl, hc, bb⟩; have Hc6 := Lib.hid (Hc5.out.below bb); have Hs6 := Lib.hid hc; have B0 := STEP.out _ _ B0 bb; clear bb Hc5 hc)
        | (go_at_call 12; refine (texts_same Hc6.out Hs6.out HL.out).mono ?_; rintro e w7 ⟨rfl, bb⟩; have B0 := STEP.out _ _ B0 bb; clear bb))
      go_ret
      exact ⟨rfl, B0⟩
    · simp only [if_neg hr] at HC HN
      rw [decide_eq_false hr] at HR
      clear hr ls hsm
      generalize mk s = xs at *
      go_enter Try.func3, Try.ntmps3
      go_wp2_with (first
        | (go_at_call 8; refine (HC.out _).mono ?_; rintro e w1 ⟨rfl, bb⟩; have B0 := STEP.out _ _ B0 bb; clear bb)
        | (go_at_call 9; refine (HN.out _).mono ?_; rintro e w2 ⟨v, rfl, ⟨A, c, rfl, -⟩, bb⟩; have B0 := STEP.out _ _ B0 bb; clear bb)
        | (go_at_call 10; refine (HR.out _).mono ?_; rintro e w3 ⟨rfl, bb⟩; have B0 := STEP.out _ _ B0 bb; clear bb)
        | (go_at_call 7; refine (AW.out _).mono ?_; rintro e w5 ⟨rfl, bb⟩; have B0 := STEP.out _ _ B0 bb; clear bb))
      go_ret
      exact ⟨rfl, B0⟩
  · have g1 : decide ((1000 : Int) < ((mk s).size : Int)) = true := by rw [ls]; exact decide_eq_true (by omega)
    clear ls hsm
    generalize mk s = xs at *
    go_enter Try.func3, Try.ntmps3
    go_wp2_with (go_at_call 7; refine (AW.out _).mono ?_; rintro e w5 ⟨rfl, bb⟩; have B0 := STEP.out _ _ B0 bb; clear bb)
    go_ret
    exact ⟨rfl, B0⟩
end Go.Proofs.Ytadgdppkokbphaa
