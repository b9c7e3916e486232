/- It is an order: PathOrder out of the contracts. -/
import Derived.Test.YtadgdppkokbphaaPthAwake
namespace Go.Proofs.Ytadgdppkokbphaa
open Go.RowKit

set_option maxRecDepth 100000 in
set_option maxHeartbeats 3200000 in
theorem order_walk (H : PathOk) (a b c : ByteArray) (w : World) :
    Calls Try.prog 6 #[.string a, .string b, .string c] w fun e w' => e = .returned (.bool true) ∧ Below w.heap.size w w' := by
  have AW := Lib.hid (fun W => pth_awake H W)
  obtain ⟨a, rfl⟩ : ∃ q, a = mk q := ⟨_, (mk_of a).symm⟩
  obtain ⟨b, rfl⟩ : ∃ q, b = mk q := ⟨_, (mk_of b).symm⟩
  obtain ⟨c, rfl⟩ : ∃ q, c = mk q := ⟨_, (mk_of c).symm⟩
  have la : (mk a).size = a.length := mk_len a
  have lb : (mk b).size = b.length := mk_len b
  have lc : (mk c).size = c.length := mk_len c
  by_cases hsm : a.length ≤ 500 ∧ b.length ≤ 500 ∧ c.length ≤ 500
  · obtain ⟨h1, h2, h3⟩ := hsm
    have g1 : decide ((500 : Int) < ((mk a).size : Int)) = false := by rw [la]; exact decide_eq_false (by omega)
    have g2 : decide ((500 : Int) < ((mk b).size : Int)) = false := by rw [lb]; exact decide_eq_false (by omega)
    have g3 : decide ((500 : Int) < ((mk c).size : Int)) = false := by rw [lc]; exact decide_eq_false (by omega)
    have Caa : Hid (∀ W, Calls Try.prog 17 #[.string (mk a), .string (mk a)] W fun e w' => e = .returned (.bool true) ∧ Below W.heap.size W w') := Lib.hid (fun W => by
      have := H.covers a a W (by omega) (by omega)
      rw [decide_eq_true (Pth.covers_refl a)] at this
      exact this)
    have C0a : Hid (∀ W, Calls Try.prog 17 #[.string ⟨#[]⟩, .string (mk a)] W fun e w' => e = .returned (.bool true) ∧ Below W.heap.size W w') := Lib.hid (fun W => by
      have := H.covers [] a W (by simp) (by omega)
      rw [decide_eq_true (Pth.covers_nil a)] at this
      exact this)
    have Cab := Lib.hid (fun W => H.covers a b W (by omega) (by omega))
    have Cba := Lib.hid (fun W => H.covers b a W (by omega) (by omega))
    have Cbc := Lib.hid (fun W => H.covers b c W (by omega) (by omega))
    have Cac := Lib.hid (fun W => H.covers a c W (by omega) (by omega))
    have heq : decide (Pth.Covers a b) = true → decide (Pth.Covers b a) = true → ((mk a).toList == (mk b).toList) = true := fun k1 k2 => by
      rw [Pth.covers_anti (of_decide_eq_true k1) (of_decide_eq_true k2)]; exact beq_self_eq_true _
    have htr : decide (Pth.Covers a b) = true → decide (Pth.Covers b c) = true → decide (Pth.Covers a c) = true := fun k1 k2 => decide_eq_true (Pth.covers_trans (of_decide_eq_true k1) (of_decide_eq_true k2))
    clear h1 h2 h3 la lb lc
    generalize decide (Pth.Covers a b) = x at *
    generalize decide (Pth.Covers b a) = y at *
    generalize decide (Pth.Covers b c) = z at *
    generalize decide (Pth.Covers a c) = t at *
    have hcase : (x = false) ∨ (x = true ∧ y = false ∧ z = false) ∨ (x = true ∧ y = false ∧ z = true ∧ t = true) ∨ (x = true ∧ y = true ∧ ((mk a).toList == (mk b).toList) = true ∧ z = false) ∨ (x = true ∧ y = true ∧ ((mk a).toList == (mk b).toList) = true ∧ z = true ∧ t = true) := by
      cases x
      · exact Or.inl rfl
      · cases y
        · cases z
          · exact Or.inr (Or.inl ⟨rfl, rfl, rfl⟩)
          · exact Or.inr (Or.inr (Or.inl ⟨rfl, rfl, rfl, htr rfl rfl⟩))
        · cases z
          · exact Or.inr (Or.inr (Or.inr (Or.inl ⟨rfl, rfl, heq rfl rfl, rfl⟩)))
          · exact Or.inr (Or.inr (Or.inr (Or.inr ⟨rfl, rfl, heq rfl rfl, rfl, htr rfl rfl⟩)))
    clear heq htr
    have hfin : Hid (∀ W', Below w.heap.size w W' → Below w.heap.size w W') := Lib.hid (fun _ h => h)
    generalize mk a = xa at *
    generalize mk b = xb at *
    generalize mk c = xc at *
    have STEP : Hid (∀ (A B : World), Below w.heap.size w A → Below A.heap.size A B → Below w.heap.size w B) := Lib.hid (fun A B h k => h.trans (k.mono h.size))
    have B0 := Below.refl w.heap.size w
    rcases hcase with rfl | ⟨rfl, rfl, rfl⟩ | ⟨rfl, rfl, rfl, rfl⟩ | ⟨rfl, rfl, g4, rfl⟩ | ⟨rfl, rfl, g4, rfl, rfl⟩
    all_goals
      try have g5 : (xa.toList != xb.toList) = false := by rw [bne, g4]; rfl
      go_enter Try.func6, Try.ntmps6
      go_wp2_with (first
        | (go_at_call 17; first
            | ((with_reducible refine (Caa.out _).mono ?_); rintro e w' ⟨rfl, bb⟩; have B0 := STEP.out _ _ B0 bb; clear bb)
            | ((with_reducible refine (C0a.out _).mono ?_); rintro e w' ⟨rfl, bb⟩; have B0 := STEP.out _ _ B0 bb; clear bb)
            | ((with_reducible refine (Cab.out _).mono ?_); rintro e w' ⟨rfl, bb⟩; have B0 := STEP.out _ _ B0 bb; clear bb)
            | ((with_reducible refine (Cba.out _).mono ?_); rintro e w' ⟨rfl, bb⟩; have B0 := STEP.out _ _ B0 bb; clear bb)
            | ((with_reducible refine (Cbc.out _).mono ?_); rintro e w' ⟨rfl, bb⟩; have B0 := STEP.out _ _ B0 bb; clear bb)
            | ((with_reducible refine (Cac.out _).mono ?_); rintro e w' ⟨rfl, bb⟩; have B0 := STEP.out _ _ B0 bb; clear bb))
        | (go_at_call 7; refine (AW.out _).mono ?_; rintro e w' ⟨rfl, bb⟩; have B0 := STEP.out _ _ B0 bb; clear bb))
      go_ret
      exact ⟨rfl, B0⟩
  · have hcase : decide ((500 : Int) < ((mk a).size : Int)) = true ∨ (decide ((500 : Int) < ((mk a).size : Int)) = false ∧ decide ((500 : Int) < ((mk b).size : Int)) = true) ∨ (decide ((500 : Int) < ((mk a).size : Int)) = false ∧ decide ((500 : Int) < ((mk b).size : Int)) = false ∧ decide ((500 : Int) < ((mk c).size : Int)) = true) := by
      rw [la, lb, lc]
      by_cases h1 : a.length ≤ 500
      · by_cases h2 : b.length ≤ 500
        · have h3 : ¬ c.length ≤ 500 := fun h3 => hsm ⟨h1, h2, h3⟩
          exact Or.inr (Or.inr ⟨decide_eq_false (by omega), decide_eq_false (by omega), decide_eq_true (by omega)⟩)
        · exact Or.inr (Or.inl ⟨decide_eq_false (by omega), decide_eq_true (by omega)⟩)
      · exact Or.inl (decide_eq_true (by omega))
    clear hsm la lb lc
    generalize mk a = xa at *
    generalize mk b = xb at *
    generalize mk c = xc at *
    rcases hcase with g1 | ⟨g1, g2⟩ | ⟨g1, g2, g3⟩
    all_goals
      go_enter Try.func6, Try.ntmps6
      go_wp2_with (go_at_call 7; refine (AW.out _).mono ?_; rintro e w' ⟨rfl, bb⟩)
      go_ret
      exact ⟨rfl, bb⟩
end Go.Proofs.Ytadgdppkokbphaa
