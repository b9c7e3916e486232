/- Which covers which: PathCovers out of the contracts. -/
import Derived.Test.YtadgdppkokbphaaPthAwake
namespace Go.Proofs.Ytadgdppkokbphaa
open Go.RowKit

set_option maxRecDepth 100000 in
set_option maxHeartbeats 3200000 in
theorem pcovers_walk (H : PathOk) (a b : ByteArray) (w : World) :
    Calls Try.prog 5 #[.string a, .string b] w fun e w' => e = .returned (.bool true) ∧ Below w.heap.size w w' := by
  have AW := Lib.hid (fun W => pth_awake H W)
  obtain ⟨a, rfl⟩ : ∃ q, a = mk q := ⟨_, (mk_of a).symm⟩
  obtain ⟨b, rfl⟩ : ∃ q, b = mk q := ⟨_, (mk_of b).symm⟩
  have la : (mk a).size = a.length := mk_len a
  have lb : (mk b).size = b.length := mk_len b
  by_cases hsm : a.length ≤ 1000 ∧ b.length ≤ 1000
  · obtain ⟨h1, h2⟩ := hsm
    have g1 : decide ((1000 : Int) < ((mk a).size : Int)) = false := by rw [la]; exact decide_eq_false (by omega)
    have g2 : decide ((1000 : Int) < ((mk b).size : Int)) = false := by rw [lb]; exact decide_eq_false (by omega)
    have M := Lib.hid (fun W => H.meet a b W (by omega) (by omega))
    have Cab := Lib.hid (fun W => H.covers a b W (by omega) (by omega))
    have Cba := Lib.hid (fun W => H.covers b a W (by omega) (by omega))
    have Rab := Lib.hid (fun W => ref_covers a b W (by omega) (by omega))
    have Rba := Lib.hid (fun W => ref_covers b a W (by omega) (by omega))
    have P := Lib.hid (fun W => H.parent a W (by omega))
    obtain ⟨want, hwant⟩ : ∃ want, want = (Pth.meet a b).1 := ⟨_, rfl⟩
    obtain ⟨is, his⟩ : ∃ is, is = (Pth.meet a b).2 := ⟨_, rfl⟩
    rw [← hwant, ← his] at M
    have hcase : (decide (Pth.Covers a b) = true ∧ mk b = mk want ∧ is = true) ∨ (decide (Pth.Covers a b) = false ∧ decide (Pth.Covers b a) = true ∧ mk a = mk want ∧ is = true) ∨ (decide (Pth.Covers a b) = false ∧ decide (Pth.Covers b a) = false ∧ (⟨#[]⟩ : ByteArray) = mk want ∧ is = false) := by
      rw [hwant, his]
      unfold Pth.meet
      by_cases k1 : Pth.Covers a b
      · rw [if_pos k1]; exact Or.inl ⟨decide_eq_true k1, rfl, rfl⟩
      · rw [if_neg k1]
        by_cases k2 : Pth.Covers b a
        · rw [if_pos k2]; exact Or.inr (Or.inl ⟨decide_eq_false k1, decide_eq_true k2, rfl, rfl⟩)
        · rw [if_neg k2]; exact Or.inr (Or.inr ⟨decide_eq_false k1, decide_eq_false k2, rfl, rfl⟩)
    have STEP : Hid (∀ (A B : World), Below w.heap.size w A → Below A.heap.size A B → Below w.heap.size w B) := Lib.hid (fun A B h k => h.trans (k.mono h.size))
    have B0 := Below.refl w.heap.size w
    have hla : ((mk a).size : Int) ≤ 1000 := by rw [la]; omega
    have La := Lib.hid la
    clear h1 h2 la lb hwant his
    generalize decide (Pth.Covers a b) = x at *
    generalize decide (Pth.Covers b a) = y at *
    generalize mk want = wt at *
    generalize hxa : mk a = xa at *
    generalize mk b = xb at *
    rcases hcase with ⟨rfl, rfl, rfl⟩ | ⟨rfl, rfl, rfl, rfl⟩ | ⟨rfl, rfl, rfl, rfl⟩
    all_goals
      go_enter Try.func5, Try.ntmps5
      go_wp2_with (first
        | (go_at_call 15; refine (M.out _).mono ?_; rintro e w' ⟨rfl, bb⟩; have B0 := STEP.out _ _ B0 bb; clear bb)
        | (go_at_call 16; first
            | ((with_reducible refine (Rab.out _).mono ?_); rintro e w' ⟨rfl, bb⟩; have B0 := STEP.out _ _ B0 bb; clear bb)
            | ((with_reducible refine (Rba.out _).mono ?_); rintro e w' ⟨rfl, bb⟩; have B0 := STEP.out _ _ B0 bb; clear bb)))
      have HB0 := Lib.hid B0
      clear B0 M Rab Rba
      go_loopw [10, 11] (fun q i wr => ∃ k : Nat, k ≤ a.length ∧ i = .int .i64 (k : Int) ∧ q = .string (mk (Pth.parentTo a k)) ∧ Below w.heap.size w wr) (fun _ i _ => a.length - (intOf i).toNat)
      case atStart => exact ⟨0, Nat.zero_le _, rfl, rfl, HB0.out⟩
      case round =>
        obtain ⟨k, hk, rfl, rfl, hbel⟩ := hrel
        have Hbel := Lib.hid hbel
        clear hbel HB0
        have hk0 : (0 : Int) ≤ (k : Int) := by omega
        by_cases hlt : k < a.length
        · have hk1 : (k : Int) < (xa.size : Int) := by have := La.out; omega
          have hk2 : (k : Int) ≤ (xa.size : Int) := by omega
          obtain ⟨c, hc, ic⟩ := idx xa k (by have := La.out; omega)
          have hac : a[k]? = some c := by rw [← hc, ← hxa, mk_data]
          by_cases hc47 : c.toNat = 47
          · have hb1 : ((c.toNat : Int) == 47) = true := by rw [hc47]; rfl
            have hp : Hid (Pth.parentTo a (k + 1) = a.take k) := Lib.hid (by
              rw [Pth.parentTo, if_pos]
              rw [hac]
              congr 1
              apply UInt8.toNat_inj.1
              exact hc47)
            have hcut : xa.extract 0 k = mk (a.take k) := by
              rw [← hxa]
              exact bytes_ext (by rw [Lib.extract_data, mk_data, mk_data, List.drop_zero, Nat.sub_zero])
            clear hc hac hc47
            generalize c.toNat = cn at *
            go_wp2_with fail
            refine ⟨⟨k + 1, by omega, rfl, by rw [hp.out], Hbel.out⟩, ?_⟩
            show a.length - ((k : Int) + 1).toNat < a.length - (k : Int).toNat
            omega
          · have hb1 : ((c.toNat : Int) == 47) = false := by rw [beq_eq_false_iff_ne]; omega
            have hp : Hid (Pth.parentTo a (k + 1) = Pth.parentTo a k) := Lib.hid (by
              rw [Pth.parentTo, if_neg]
              rw [hac]
              intro e
              injection e with e
              exact hc47 (by rw [e]; rfl))
            clear hc hac hc47
            generalize c.toNat = cn at *
            go_wp2_with fail
            refine ⟨⟨k + 1, by omega, rfl, by rw [hp.out], Hbel.out⟩, ?_⟩
            show a.length - ((k : Int) + 1).toNat < a.length - (k : Int).toNat
            omega
        · obtain rfl : k = a.length := by omega
          have hk1 : ¬ (a.length : Int) < (xa.size : Int) := by have := La.out; omega
          have hpe : Pth.parentTo a a.length = Pth.parent a := rfl
          rw [hpe]
          have B0 := Hbel.out
          have Q1 : ((mk (Pth.parent a)).toList == (mk (Pth.parent a)).toList) = true := beq_self_eq_true _
          have Q2 : (xa.toList == xa.toList) = true := beq_self_eq_true _
          have Q3 : (xb.toList == xb.toList) = true := beq_self_eq_true _
          have Q4 : ((⟨#[]⟩ : ByteArray).toList == []) = true := by rw [Lib.toList_data]; rfl
          have hl9 := Lib.hid La.out
          generalize mk (Pth.parent a) = pa at *
          generalize a.length = al at *
          go_wp2_with (first
            | (go_at_call 17; first
                | ((with_reducible refine (Cab.out _).mono ?_); rintro e w' ⟨rfl, bb⟩; have B0 := STEP.out _ _ B0 bb; clear bb)
                | ((with_reducible refine (Cba.out _).mono ?_); rintro e w' ⟨rfl, bb⟩; have B0 := STEP.out _ _ B0 bb; clear bb))
            | (go_at_call 18; refine (P.out _).mono ?_; rintro e w' ⟨rfl, bb⟩; have B0 := STEP.out _ _ B0 bb; clear bb)
            | (go_at_call 7; refine (AW.out _).mono ?_; rintro e w' ⟨rfl, bb⟩; have B0 := STEP.out _ _ B0 bb; clear bb))
          go_ret
          exact ⟨rfl, B0⟩
  · have hcase : decide ((1000 : Int) < ((mk a).size : Int)) = true ∨ (decide ((1000 : Int) < ((mk a).size : Int)) = false ∧ decide ((1000 : Int) < ((mk b).size : Int)) = true) := by
      rw [la, lb]
      by_cases h1 : a.length ≤ 1000
      · have h2 : ¬ b.length ≤ 1000 := fun h2 => hsm ⟨h1, h2⟩
        exact Or.inr ⟨decide_eq_false (by omega), decide_eq_true (by omega)⟩
      · exact Or.inl (decide_eq_true (by omega))
    clear hsm la lb
    generalize mk a = xa at *
    generalize mk b = xb at *
    rcases hcase with g1 | ⟨g1, g2⟩
    all_goals
      go_enter Try.func5, Try.ntmps5
      go_wp2_with (go_at_call 7; refine (AW.out _).mono ?_; rintro e w' ⟨rfl, bb⟩)
      go_ret
      exact ⟨rfl, bb⟩
end Go.Proofs.Ytadgdppkokbphaa
