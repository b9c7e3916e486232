/- The document's own answers of layer 11: Digits, One, Text. -/
import Derived.Test.YtabnfaonlkipbaaGreatDoorCom6
import Derived.Test.YtabnfaonlkipbaaGreatDoorCom11
import Derived.Test.YtabnfaonlkipbaaGreatDoorCom5
import Derived.Test.YtabnfaonlkipbaaGreatDoorCom7
set_option linter.unusedSimpArgs false
set_option linter.unusedVariables false
namespace Go.Proofs.YtabnfaonlkipbaaGreatDoor
open Go.RowKit

set_option maxRecDepth 100000 in
theorem Flg.digits_short : ∀ (k n : Nat), n < 10 ^ (k + 1) → (Flg.digits n).length ≤ k + 1
  | 0, n, h => by
    rw [Flg.digits, if_pos (by simpa using h)]
    simp
  | k + 1, n, h => by
    rw [Flg.digits]
    by_cases h1 : n < 10
    · rw [if_pos h1]; simp
    · rw [if_neg h1, List.length_append]
      have := Flg.digits_short k (n / 10) (by rw [Nat.div_lt_iff_lt_mul (by omega), ← Nat.pow_succ]; exact h)
      simp only [List.length_singleton]
      omega
set_option maxRecDepth 100000 in
theorem Flg.digits_19 {n : Nat} (h : n ≤ 9223372036854775807) : (Flg.digits n).length ≤ 19 := Flg.digits_short 18 n (by
  have : (10 : Nat) ^ 19 = 10000000000000000000 := by decide
  omega)

set_option maxRecDepth 100000 in
set_option maxHeartbeats 800000 in
theorem ref_digits : ∀ (n : Nat) (w : World), n ≤ 9223372036854775807 → Calls Tryz.prog 43 #[.int .i64 (n : Int)] w fun e w' => e = .returned (.string (mk (Flg.digits n))) ∧ Below w.heap.size w w' := by
  intro n
  induction n using Nat.strongRecOn with
  | _ n ih =>
    intro w hn
    obtain ⟨g, hg⟩ : ∃ g : Nat, g = 48 + n % 10 := ⟨_, rfl⟩
    have hg1 : g < 256 := by omega
    have hgi : 48 + (n : Int) % 10 = (g : Int) := by omega
    by_cases h : n < 10
    · have hconv := one_byte w g hg1
      have hfin : Hid ((⟨#[]⟩ ++ ⟨#[UInt8.ofNat g]⟩ : ByteArray) = mk (Flg.digits n)) := Lib.hid (by
        rw [Flg.digits, if_pos h, hg, Nat.mod_eq_of_lt h]
        exact bytes_ext (by simp [ByteArray.data_append, mk]))
      have h9 : ¬ (10 : Int) ≤ (n : Int) := by omega
      have hn1 : (n : Int) ≤ 9223372036854775807 := by omega
      clear hg ih h hn
      go_enter Tryz.func43, Tryz.ntmps43
      go_wp2_with fail
      go_ret
      exact ⟨by rw [← hfin.out]; rfl, (Below.refl _ _).alloc (Nat.le_refl _) _⟩
    · have REC := Lib.hid (fun W => ih (n / 10) (by omega) W (by omega))
      have hdi : (n : Int) / 10 = ((n / 10 : Nat) : Int) := by omega
      have hconv := fun W => one_byte W g hg1
      have hlen := Flg.digits_19 (n := n / 10) (by omega)
      have hz : (mk (Flg.digits (n / 10))).size ≤ 19 := by rw [mk_len]; exact hlen
      have hfin : Hid ((mk (Flg.digits (n / 10)) ++ ⟨#[UInt8.ofNat g]⟩ : ByteArray) = mk (Flg.digits n)) := Lib.hid (by
        conv => rhs; rw [Flg.digits, if_neg h, ← hg]
        rw [← mk_append]; rfl)
      have h9 : (10 : Int) ≤ (n : Int) := by omega
      have hn1 : (n : Int) ≤ 9223372036854775807 := by omega
      have HCO := Lib.hid hconv
      clear hg ih h hn hlen hconv
      generalize mk (Flg.digits (n / 10)) = t at *
      generalize n / 10 = q at *
      go_enter Tryz.func43, Tryz.ntmps43
      go_wp2_with fail
      refine (REC.out _).mono ?_
      rintro e w1 ⟨rfl, hb1⟩
      have hconv := HCO.out w1
      go_wp2_with fail
      go_ret
      exact ⟨by rw [← hfin.out]; rfl, hb1.alloc hb1.size _⟩

set_option maxRecDepth 100000 in
set_option maxHeartbeats 3200000 in
theorem ref_one11 (c : Flt.Cl) (w : World) (hc : Flt.Right c) :
    Calls Tryz.prog 25 #[.agg #[.string (mk c.pre), .int .i64 c.lo, .int .i64 c.hi]] w fun e w' => e = .returned (.string (mk (Flg.one c))) ∧ Below w.heap.size w w' := by
  obtain ⟨p, lo, hi⟩ := c
  have hbd := hc.2
  have hpl : p.length ≤ 40 := by
    rcases hc.1 with e | e
    · have e : p = [] := e
      rw [e]; exact Nat.zero_le _
    · exact e.2.1
  simp only at hbd ⊢
  obtain ⟨a, rfl⟩ : ∃ a : Nat, lo = (a : Int) := ⟨lo.toNat, by omega⟩
  obtain ⟨b, rfl⟩ : ∃ b : Nat, hi = (b : Int) := ⟨hi.toNat, by omega⟩
  have DA := Lib.hid (fun W => ref_digits a W (by omega))
  have DB := Lib.hid (fun W => ref_digits b W (by omega))
  have la : (mk (Flg.digits a)).size ≤ 19 := by rw [mk_len]; exact Flg.digits_19 (by omega)
  have lb : (mk (Flg.digits b)).size ≤ 19 := by rw [mk_len]; exact Flg.digits_19 (by omega)
  have RW := Row.made w 42 #[.string (mk p), .int .i64 (a : Int), .int .i64 (b : Int)]
  have q0 := RW.at 0
  have q1 := RW.at 1
  have q2 := RW.at 2
  have hB0 : Below w.heap.size w (w.alloc (.cells #[.string (mk p), .int .i64 (a : Int), .int .i64 (b : Int)] 42)) := (Below.refl _ _).alloc (Nat.le_refl _) _
  have HB0 := Lib.hid hB0
  have HZ : Hid (w.heap.size < (w.alloc (.cells #[.string (mk p), .int .i64 (a : Int), .int .i64 (b : Int)] 42)).heap.size) := Lib.hid (by simp)
  clear hB0 RW
  by_cases hw : (a : Int) = 0 ∧ (b : Int) = 200
  · have hfin : Hid (Flg.one ⟨p, (a : Int), (b : Int)⟩ = Flg.star p) := Lib.hid (by unfold Flg.one; rw [if_pos hw, List.append_nil])
    have b1 : ((a : Int) == 0) = true := by rw [hw.1]; rfl
    have b2 : ((b : Int) == 200) = true := by rw [hw.2]; rfl
    have ea := str_nil p
    by_cases hp : p = []
    · have hs : Hid (mk (Flg.star p) = ⟨#[42]⟩) := Lib.hid (by unfold Flg.star; rw [if_pos hp]; rfl)
      have ia := str_empty p
      rw [decide_eq_true hp] at ea ia
      clear hp hw hc
      generalize mk p = x at *
      go_enter Tryz.func25, Tryz.ntmps25
      go_wp2_with fail
      go_ret
      exact ⟨by rw [hfin.out, hs.out]; rfl, HB0.out⟩
    · have hs : Hid (mk (Flg.star p) = mk p) := Lib.hid (by unfold Flg.star; rw [if_neg hp])
      have ia := str_empty p
      rw [decide_eq_false hp] at ea ia
      clear hp hw hc
      generalize mk p = x at *
      go_enter Tryz.func25, Tryz.ntmps25
      go_wp2_with fail
      go_ret
      exact ⟨by rw [hfin.out, hs.out]; rfl, HB0.out⟩
  · have hfin : Hid (mk (Flg.one ⟨p, (a : Int), (b : Int)⟩) = ((mk (Flg.star p) ++ ⟨#[58]⟩) ++ mk (Flg.digits a) ++ ⟨#[45]⟩) ++ mk (Flg.digits b)) := Lib.hid (by
      unfold Flg.one
      rw [if_neg hw]
      refine bytes_ext ?_
      simp [ByteArray.data_append, mk])
    have ea := str_nil p
    have ia := str_empty p
    obtain ⟨sp, hsp⟩ : ∃ sp, sp = mk (Flg.star p) := ⟨_, rfl⟩
    have hsl : sp.size ≤ 40 := by
      rw [hsp, mk_len]
      unfold Flg.star
      split
      · simp
      · exact hpl
    have hbr : ∀ W, Below (w.alloc (.cells #[.string (mk p), .int .i64 (a : Int), .int .i64 (b : Int)] 42)).heap.size (w.alloc (.cells #[.string (mk p), .int .i64 (a : Int), .int .i64 (b : Int)] 42)) W → W.cell? ⟨w.heap.size, 1, none⟩ = some (.int .i64 (a : Int)) ∧ W.cell? ⟨w.heap.size, 2, none⟩ = some (.int .i64 (b : Int)) := fun W hW => ⟨(hW.cell (p := ⟨w.heap.size, 1, none⟩) HZ.out).trans q1, (hW.cell (p := ⟨w.heap.size, 2, none⟩) HZ.out).trans q2⟩
    have XC := Lib.hid hbr
    clear hbr
    rw [← hsp] at hfin
    by_cases hp : p = []
    · have hs : (⟨#[42]⟩ : ByteArray) = sp := by rw [hsp]; unfold Flg.star; rw [if_pos hp]; rfl
      rw [decide_eq_true hp] at ea ia
      clear hp hc hsp
      have HS := Lib.hid hs
      clear hs
      have hsl : (⟨#[42]⟩ : ByteArray).size ≤ 40 := by rw [HS.out]; exact hsl
      by_cases ha : (a : Int) = 0
      · have b1 : ((a : Int) == 0) = true := by rw [ha]; rfl
        have b2 : ((b : Int) == 200) = false := by rw [beq_eq_false_iff_ne]; exact fun e => hw ⟨ha, e⟩
        clear ha hw
        generalize mk (Flg.digits a) = da at *
        generalize mk (Flg.digits b) = db at *
        generalize mk p = y at *
        go_enter Tryz.func25, Tryz.ntmps25
        go_wp2_with fail
        refine wp_region_held_drew (S := (fun w' : World => Below (w.alloc (.cells #[.string y, .int .i64 (a : Int), .int .i64 (b : Int)] 42)).heap.size (w.alloc (.cells #[.string y, .int .i64 (a : Int), .int .i64 (b : Int)] 42)) w')) (by kernel_rfl) ((Below.refl _ _).drew) (fun hHeld => ?_)
        refine wpAnyH_take (i := 0) (v := ?_) rfl (by kernel_rfl) (by kernel_rfl) (by kernel_rfl) (fun _ _ _ h => h) (Or.inl ⟨by rfl, (by intro w hSw; go_simp; try with_reducible rfl)⟩) (by assumption) ?_
        simp only [Act.put, List.getElem_toArray, List.getElem_cons_zero, List.getElem_cons_succ, List.setIfInBounds_toArray, List.set_cons_zero, List.set_cons_succ]
        refine wpAnyH_take (i := 1) (v := ?_) rfl (by kernel_rfl) (by kernel_rfl) (by kernel_rfl) (fun _ _ _ h => h) (Or.inl ⟨by rfl, (by intro w hSw; go_simp; try with_reducible rfl)⟩) (by assumption) ?_
        simp only [Act.put, List.getElem_toArray, List.getElem_cons_zero, List.getElem_cons_succ, List.setIfInBounds_toArray, List.set_cons_zero, List.set_cons_succ]
        refine wpAnyH_take (i := 2) (v := ?_) rfl (by kernel_rfl) (by kernel_rfl) (by kernel_rfl) (fun _ _ _ h => h) (Or.inl ⟨by rfl, (by intro w hSw; go_simp; try with_reducible rfl)⟩) (by assumption) ?_
        simp only [Act.put, List.getElem_toArray, List.getElem_cons_zero, List.getElem_cons_succ, List.setIfInBounds_toArray, List.set_cons_zero, List.set_cons_succ]
        refine wpAnyH_take (i := 3) (v := ?_) rfl (by kernel_rfl) (by kernel_rfl) (by kernel_rfl) (fun _ _ _ h => h) (Or.inl ⟨by rfl, (by intro w hSw; go_simp; try with_reducible rfl)⟩) (by assumption) ?_
        simp only [Act.put, List.getElem_toArray, List.getElem_cons_zero, List.getElem_cons_succ, List.setIfInBounds_toArray, List.set_cons_zero, List.set_cons_succ]
        refine wpAnyH_take (i := 4) (v := ?_) rfl (by kernel_rfl) (by kernel_rfl) (by kernel_rfl) (fun _ _ _ h => h) (Or.inl ⟨by rfl, (by intro w hSw; have d0 := (XC.out _ hSw).1; have d1 := (XC.out _ hSw).2; go_simp; try with_reducible rfl)⟩) (by assumption) ?_
        simp only [Act.put, List.getElem_toArray, List.getElem_cons_zero, List.getElem_cons_succ, List.setIfInBounds_toArray, List.set_cons_zero, List.set_cons_succ]
        refine wpAnyH_take (i := 8) (v := ?_) rfl (by kernel_rfl) (by kernel_rfl) (by kernel_rfl) (fun _ _ _ h => h) (Or.inl ⟨by rfl, (by intro w hSw; go_simp; try with_reducible rfl)⟩) (by assumption) ?_
        simp only [Act.put, List.getElem_toArray, List.getElem_cons_zero, List.getElem_cons_succ, List.setIfInBounds_toArray, List.set_cons_zero, List.set_cons_succ]
        refine wpAnyH_take (i := 9) (v := ?_) rfl (by kernel_rfl) (by kernel_rfl) (by kernel_rfl) (fun _ _ _ h => h) (Or.inl ⟨by rfl, (by intro w hSw; go_simp; try with_reducible rfl)⟩) (by assumption) ?_
        simp only [Act.put, List.getElem_toArray, List.getElem_cons_zero, List.getElem_cons_succ, List.setIfInBounds_toArray, List.set_cons_zero, List.set_cons_succ]
        refine wpAnyH_take (i := 10) (v := ?_) rfl (by kernel_rfl) (by kernel_rfl) (by kernel_rfl) (fun _ _ _ h => h) (Or.inl ⟨by rfl, (by intro w hSw; have d0 := (XC.out _ hSw).1; have d1 := (XC.out _ hSw).2; go_simp; try with_reducible rfl)⟩) (by assumption) ?_
        simp only [Act.put, List.getElem_toArray, List.getElem_cons_zero, List.getElem_cons_succ, List.setIfInBounds_toArray, List.set_cons_zero, List.set_cons_succ]
        refine wpAnyH_ready (rs := [5]) (by kernel_rfl) (by simp) ?_
        refine AllReadyH.cons rfl (fun K hK => ?_) AllReadyH.nil
        go_simp
        go_at_call 43
        refine (DA.out _).mono ?_
        rintro e wa ⟨rfl, hbN⟩
        have hhN := hHeld.trans (hbN.mono hHeld.size)
        clear hbN
        refine hK.out _ _ hhN (fun hHeld => ?_)
        clear hhN
        clear hK K
        refine wpAnyH_take (i := 6) (v := ?_) rfl (by kernel_rfl) (by kernel_rfl) (by kernel_rfl) (fun _ _ _ h => h) (Or.inl ⟨by rfl, (by intro w hSw; have n0 : ¬ 9223372036854775807 < 2 + da.size := (by omega); go_simp; try with_reducible rfl)⟩) (by assumption) ?_
        simp only [Act.put, List.getElem_toArray, List.getElem_cons_zero, List.getElem_cons_succ, List.setIfInBounds_toArray, List.set_cons_zero, List.set_cons_succ]
        refine wpAnyH_take (i := 7) (v := ?_) rfl (by kernel_rfl) (by kernel_rfl) (by kernel_rfl) (fun _ _ _ h => h) (Or.inl ⟨by rfl, (by intro w hSw; have n0 : ¬ 9223372036854775807 < 2 + da.size + 1 := (by omega); go_simp; try with_reducible rfl)⟩) (by assumption) ?_
        simp only [Act.put, List.getElem_toArray, List.getElem_cons_zero, List.getElem_cons_succ, List.setIfInBounds_toArray, List.set_cons_zero, List.set_cons_succ]
        refine wpAnyH_ready (rs := [11]) (by kernel_rfl) (by simp) ?_
        refine AllReadyH.cons rfl (fun K hK => ?_) AllReadyH.nil
        go_simp
        go_at_call 43
        refine (DB.out _).mono ?_
        rintro e wb ⟨rfl, hbN⟩
        have hhN := hHeld.trans (hbN.mono hHeld.size)
        clear hbN
        refine hK.out _ _ hhN (fun hHeld => ?_)
        clear hhN
        clear hK K
        refine wpAnyH_take (i := 12) (v := ?_) rfl (by kernel_rfl) (by kernel_rfl) (by kernel_rfl) (fun _ _ _ h => h) (Or.inl ⟨by rfl, (by intro w hSw; have n0 : ¬ 9223372036854775807 < 2 + da.size + 1 + db.size := (by omega); go_simp; try with_reducible rfl)⟩) (by assumption) ?_
        simp only [Act.put, List.getElem_toArray, List.getElem_cons_zero, List.getElem_cons_succ, List.setIfInBounds_toArray, List.set_cons_zero, List.set_cons_succ]
        refine wpAnyH_take (i := 13) (v := ?_) rfl (by kernel_rfl) (by kernel_rfl) (by kernel_rfl) (fun _ _ _ h => h) (Or.inl ⟨by rfl, (by intro w hSw; go_simp; try with_reducible rfl)⟩) (by assumption) ?_
        simp only [Act.put, List.getElem_toArray, List.getElem_cons_zero, List.getElem_cons_succ, List.setIfInBounds_toArray, List.set_cons_zero, List.set_cons_succ]
        refine wpAnyH_done (by kernel_rfl) ?_ _
        go_wp2_with fail
        go_ret
        exact ⟨by rw [hfin.out, ← HS.out]; rfl, HB0.out.trans (hHeld.mono HB0.out.size)⟩
      · have b1 : ((a : Int) == 0) = false := by rw [beq_eq_false_iff_ne]; exact ha
        clear ha hw
        generalize mk (Flg.digits a) = da at *
        generalize mk (Flg.digits b) = db at *
        generalize mk p = y at *
        go_enter Tryz.func25, Tryz.ntmps25
        go_wp2_with fail
        refine wp_region_held_drew (S := (fun w' : World => Below (w.alloc (.cells #[.string y, .int .i64 (a : Int), .int .i64 (b : Int)] 42)).heap.size (w.alloc (.cells #[.string y, .int .i64 (a : Int), .int .i64 (b : Int)] 42)) w')) (by kernel_rfl) ((Below.refl _ _).drew) (fun hHeld => ?_)
        refine wpAnyH_take (i := 0) (v := ?_) rfl (by kernel_rfl) (by kernel_rfl) (by kernel_rfl) (fun _ _ _ h => h) (Or.inl ⟨by rfl, (by intro w hSw; go_simp; try with_reducible rfl)⟩) (by assumption) ?_
        simp only [Act.put, List.getElem_toArray, List.getElem_cons_zero, List.getElem_cons_succ, List.setIfInBounds_toArray, List.set_cons_zero, List.set_cons_succ]
        refine wpAnyH_take (i := 1) (v := ?_) rfl (by kernel_rfl) (by kernel_rfl) (by kernel_rfl) (fun _ _ _ h => h) (Or.inl ⟨by rfl, (by intro w hSw; go_simp; try with_reducible rfl)⟩) (by assumption) ?_
        simp only [Act.put, List.getElem_toArray, List.getElem_cons_zero, List.getElem_cons_succ, List.setIfInBounds_toArray, List.set_cons_zero, List.set_cons_succ]
        refine wpAnyH_take (i := 2) (v := ?_) rfl (by kernel_rfl) (by kernel_rfl) (by kernel_rfl) (fun _ _ _ h => h) (Or.inl ⟨by rfl, (by intro w hSw; go_simp; try with_reducible rfl)⟩) (by assumption) ?_
        simp only [Act.put, List.getElem_toArray, List.getElem_cons_zero, List.getElem_cons_succ, List.setIfInBounds_toArray, List.set_cons_zero, List.set_cons_succ]
        refine wpAnyH_take (i := 3) (v := ?_) rfl (by kernel_rfl) (by kernel_rfl) (by kernel_rfl) (fun _ _ _ h => h) (Or.inl ⟨by rfl, (by intro w hSw; go_simp; try with_reducible rfl)⟩) (by assumption) ?_
        simp only [Act.put, List.getElem_toArray, List.getElem_cons_zero, List.getElem_cons_succ, List.setIfInBounds_toArray, List.set_cons_zero, List.set_cons_succ]
        refine wpAnyH_take (i := 4) (v := ?_) rfl (by kernel_rfl) (by kernel_rfl) (by kernel_rfl) (fun _ _ _ h => h) (Or.inl ⟨by rfl, (by intro w hSw; have d0 := (XC.out _ hSw).1; have d1 := (XC.out _ hSw).2; go_simp; try with_reducible rfl)⟩) (by assumption) ?_
        simp only [Act.put, List.getElem_toArray, List.getElem_cons_zero, List.getElem_cons_succ, List.setIfInBounds_toArray, List.set_cons_zero, List.set_cons_succ]
        refine wpAnyH_take (i := 8) (v := ?_) rfl (by kernel_rfl) (by kernel_rfl) (by kernel_rfl) (fun _ _ _ h => h) (Or.inl ⟨by rfl, (by intro w hSw; go_simp; try with_reducible rfl)⟩) (by assumption) ?_
        simp only [Act.put, List.getElem_toArray, List.getElem_cons_zero, List.getElem_cons_succ, List.setIfInBounds_toArray, List.set_cons_zero, List.set_cons_succ]
        refine wpAnyH_take (i := 9) (v := ?_) rfl (by kernel_rfl) (by kernel_rfl) (by kernel_rfl) (fun _ _ _ h => h) (Or.inl ⟨by rfl, (by intro w hSw; go_simp; try with_reducible rfl)⟩) (by assumption) ?_
        simp only [Act.put, List.getElem_toArray, List.getElem_cons_zero, List.getElem_cons_succ, List.setIfInBounds_toArray, List.set_cons_zero, List.set_cons_succ]
        refine wpAnyH_take (i := 10) (v := ?_) rfl (by kernel_rfl) (by kernel_rfl) (by kernel_rfl) (fun _ _ _ h => h) (Or.inl ⟨by rfl, (by intro w hSw; have d0 := (XC.out _ hSw).1; have d1 := (XC.out _ hSw).2; go_simp; try with_reducible rfl)⟩) (by assumption) ?_
        simp only [Act.put, List.getElem_toArray, List.getElem_cons_zero, List.getElem_cons_succ, List.setIfInBounds_toArray, List.set_cons_zero, List.set_cons_succ]
        refine wpAnyH_ready (rs := [5]) (by kernel_rfl) (by simp) ?_
        refine AllReadyH.cons rfl (fun K hK => ?_) AllReadyH.nil
        go_simp
        go_at_call 43
        refine (DA.out _).mono ?_
        rintro e wa ⟨rfl, hbN⟩
        have hhN := hHeld.trans (hbN.mono hHeld.size)
        clear hbN
        refine hK.out _ _ hhN (fun hHeld => ?_)
        clear hhN
        clear hK K
        refine wpAnyH_take (i := 6) (v := ?_) rfl (by kernel_rfl) (by kernel_rfl) (by kernel_rfl) (fun _ _ _ h => h) (Or.inl ⟨by rfl, (by intro w hSw; have n0 : ¬ 9223372036854775807 < 2 + da.size := (by omega); go_simp; try with_reducible rfl)⟩) (by assumption) ?_
        simp only [Act.put, List.getElem_toArray, List.getElem_cons_zero, List.getElem_cons_succ, List.setIfInBounds_toArray, List.set_cons_zero, List.set_cons_succ]
        refine wpAnyH_take (i := 7) (v := ?_) rfl (by kernel_rfl) (by kernel_rfl) (by kernel_rfl) (fun _ _ _ h => h) (Or.inl ⟨by rfl, (by intro w hSw; have n0 : ¬ 9223372036854775807 < 2 + da.size + 1 := (by omega); go_simp; try with_reducible rfl)⟩) (by assumption) ?_
        simp only [Act.put, List.getElem_toArray, List.getElem_cons_zero, List.getElem_cons_succ, List.setIfInBounds_toArray, List.set_cons_zero, List.set_cons_succ]
        refine wpAnyH_ready (rs := [11]) (by kernel_rfl) (by simp) ?_
        refine AllReadyH.cons rfl (fun K hK => ?_) AllReadyH.nil
        go_simp
        go_at_call 43
        refine (DB.out _).mono ?_
        rintro e wb ⟨rfl, hbN⟩
        have hhN := hHeld.trans (hbN.mono hHeld.size)
        clear hbN
        refine hK.out _ _ hhN (fun hHeld => ?_)
        clear hhN
        clear hK K
        refine wpAnyH_take (i := 12) (v := ?_) rfl (by kernel_rfl) (by kernel_rfl) (by kernel_rfl) (fun _ _ _ h => h) (Or.inl ⟨by rfl, (by intro w hSw; have n0 : ¬ 9223372036854775807 < 2 + da.size + 1 + db.size := (by omega); go_simp; try with_reducible rfl)⟩) (by assumption) ?_
        simp only [Act.put, List.getElem_toArray, List.getElem_cons_zero, List.getElem_cons_succ, List.setIfInBounds_toArray, List.set_cons_zero, List.set_cons_succ]
        refine wpAnyH_take (i := 13) (v := ?_) rfl (by kernel_rfl) (by kernel_rfl) (by kernel_rfl) (fun _ _ _ h => h) (Or.inl ⟨by rfl, (by intro w hSw; go_simp; try with_reducible rfl)⟩) (by assumption) ?_
        simp only [Act.put, List.getElem_toArray, List.getElem_cons_zero, List.getElem_cons_succ, List.setIfInBounds_toArray, List.set_cons_zero, List.set_cons_succ]
        refine wpAnyH_done (by kernel_rfl) ?_ _
        go_wp2_with fail
        go_ret
        exact ⟨by rw [hfin.out, ← HS.out]; rfl, HB0.out.trans (hHeld.mono HB0.out.size)⟩
    · have hs : mk p = sp := by rw [hsp]; unfold Flg.star; rw [if_neg hp]
      rw [decide_eq_false hp] at ea ia
      clear hp hc hsp
      subst hs
      by_cases ha : (a : Int) = 0
      · have b1 : ((a : Int) == 0) = true := by rw [ha]; rfl
        have b2 : ((b : Int) == 200) = false := by rw [beq_eq_false_iff_ne]; exact fun e => hw ⟨ha, e⟩
        clear ha hw
        generalize mk (Flg.digits a) = da at *
        generalize mk (Flg.digits b) = db at *
        generalize mk p = y at *
        go_enter Tryz.func25, Tryz.ntmps25
        go_wp2_with fail
        refine wp_region_held_drew (S := (fun w' : World => Below (w.alloc (.cells #[.string y, .int .i64 (a : Int), .int .i64 (b : Int)] 42)).heap.size (w.alloc (.cells #[.string y, .int .i64 (a : Int), .int .i64 (b : Int)] 42)) w')) (by kernel_rfl) ((Below.refl _ _).drew) (fun hHeld => ?_)
        refine wpAnyH_take (i := 0) (v := ?_) rfl (by kernel_rfl) (by kernel_rfl) (by kernel_rfl) (fun _ _ _ h => h) (Or.inl ⟨by rfl, (by intro w hSw; go_simp; try with_reducible rfl)⟩) (by assumption) ?_
        simp only [Act.put, List.getElem_toArray, List.getElem_cons_zero, List.getElem_cons_succ, List.setIfInBounds_toArray, List.set_cons_zero, List.set_cons_succ]
        refine wpAnyH_take (i := 1) (v := ?_) rfl (by kernel_rfl) (by kernel_rfl) (by kernel_rfl) (fun _ _ _ h => h) (Or.inl ⟨by rfl, (by intro w hSw; have n0 : ¬ 9223372036854775807 < y.size + 1 := (by omega); go_simp; try with_reducible rfl)⟩) (by assumption) ?_
        simp only [Act.put, List.getElem_toArray, List.getElem_cons_zero, List.getElem_cons_succ, List.setIfInBounds_toArray, List.set_cons_zero, List.set_cons_succ]
        refine wpAnyH_take (i := 2) (v := ?_) rfl (by kernel_rfl) (by kernel_rfl) (by kernel_rfl) (fun _ _ _ h => h) (Or.inl ⟨by rfl, (by intro w hSw; go_simp; try with_reducible rfl)⟩) (by assumption) ?_
        simp only [Act.put, List.getElem_toArray, List.getElem_cons_zero, List.getElem_cons_succ, List.setIfInBounds_toArray, List.set_cons_zero, List.set_cons_succ]
        refine wpAnyH_take (i := 3) (v := ?_) rfl (by kernel_rfl) (by kernel_rfl) (by kernel_rfl) (fun _ _ _ h => h) (Or.inl ⟨by rfl, (by intro w hSw; go_simp; try with_reducible rfl)⟩) (by assumption) ?_
        simp only [Act.put, List.getElem_toArray, List.getElem_cons_zero, List.getElem_cons_succ, List.setIfInBounds_toArray, List.set_cons_zero, List.set_cons_succ]
        refine wpAnyH_take (i := 4) (v := ?_) rfl (by kernel_rfl) (by kernel_rfl) (by kernel_rfl) (fun _ _ _ h => h) (Or.inl ⟨by rfl, (by intro w hSw; have d0 := (XC.out _ hSw).1; have d1 := (XC.out _ hSw).2; go_simp; try with_reducible rfl)⟩) (by assumption) ?_
        simp only [Act.put, List.getElem_toArray, List.getElem_cons_zero, List.getElem_cons_succ, List.setIfInBounds_toArray, List.set_cons_zero, List.set_cons_succ]
        refine wpAnyH_take (i := 8) (v := ?_) rfl (by kernel_rfl) (by kernel_rfl) (by kernel_rfl) (fun _ _ _ h => h) (Or.inl ⟨by rfl, (by intro w hSw; go_simp; try with_reducible rfl)⟩) (by assumption) ?_
        simp only [Act.put, List.getElem_toArray, List.getElem_cons_zero, List.getElem_cons_succ, List.setIfInBounds_toArray, List.set_cons_zero, List.set_cons_succ]
        refine wpAnyH_take (i := 9) (v := ?_) rfl (by kernel_rfl) (by kernel_rfl) (by kernel_rfl) (fun _ _ _ h => h) (Or.inl ⟨by rfl, (by intro w hSw; go_simp; try with_reducible rfl)⟩) (by assumption) ?_
        simp only [Act.put, List.getElem_toArray, List.getElem_cons_zero, List.getElem_cons_succ, List.setIfInBounds_toArray, List.set_cons_zero, List.set_cons_succ]
        refine wpAnyH_take (i := 10) (v := ?_) rfl (by kernel_rfl) (by kernel_rfl) (by kernel_rfl) (fun _ _ _ h => h) (Or.inl ⟨by rfl, (by intro w hSw; have d0 := (XC.out _ hSw).1; have d1 := (XC.out _ hSw).2; go_simp; try with_reducible rfl)⟩) (by assumption) ?_
        simp only [Act.put, List.getElem_toArray, List.getElem_cons_zero, List.getElem_cons_succ, List.setIfInBounds_toArray, List.set_cons_zero, List.set_cons_succ]
        refine wpAnyH_ready (rs := [5]) (by kernel_rfl) (by simp) ?_
        refine AllReadyH.cons rfl (fun K hK => ?_) AllReadyH.nil
        go_simp
        go_at_call 43
        refine (DA.out _).mono ?_
        rintro e wa ⟨rfl, hbN⟩
        have hhN := hHeld.trans (hbN.mono hHeld.size)
        clear hbN
        refine hK.out _ _ hhN (fun hHeld => ?_)
        clear hhN
        clear hK K
        refine wpAnyH_take (i := 6) (v := ?_) rfl (by kernel_rfl) (by kernel_rfl) (by kernel_rfl) (fun _ _ _ h => h) (Or.inl ⟨by rfl, (by intro w hSw; have n0 : ¬ 9223372036854775807 < y.size + 1 + da.size := (by omega); go_simp; try with_reducible rfl)⟩) (by assumption) ?_
        simp only [Act.put, List.getElem_toArray, List.getElem_cons_zero, List.getElem_cons_succ, List.setIfInBounds_toArray, List.set_cons_zero, List.set_cons_succ]
        refine wpAnyH_take (i := 7) (v := ?_) rfl (by kernel_rfl) (by kernel_rfl) (by kernel_rfl) (fun _ _ _ h => h) (Or.inl ⟨by rfl, (by intro w hSw; have n0 : ¬ 9223372036854775807 < y.size + 1 + da.size + 1 := (by omega); go_simp; try with_reducible rfl)⟩) (by assumption) ?_
        simp only [Act.put, List.getElem_toArray, List.getElem_cons_zero, List.getElem_cons_succ, List.setIfInBounds_toArray, List.set_cons_zero, List.set_cons_succ]
        refine wpAnyH_ready (rs := [11]) (by kernel_rfl) (by simp) ?_
        refine AllReadyH.cons rfl (fun K hK => ?_) AllReadyH.nil
        go_simp
        go_at_call 43
        refine (DB.out _).mono ?_
        rintro e wb ⟨rfl, hbN⟩
        have hhN := hHeld.trans (hbN.mono hHeld.size)
        clear hbN
        refine hK.out _ _ hhN (fun hHeld => ?_)
        clear hhN
        clear hK K
        refine wpAnyH_take (i := 12) (v := ?_) rfl (by kernel_rfl) (by kernel_rfl) (by kernel_rfl) (fun _ _ _ h => h) (Or.inl ⟨by rfl, (by intro w hSw; have n0 : ¬ 9223372036854775807 < y.size + 1 + da.size + 1 + db.size := (by omega); go_simp; try with_reducible rfl)⟩) (by assumption) ?_
        simp only [Act.put, List.getElem_toArray, List.getElem_cons_zero, List.getElem_cons_succ, List.setIfInBounds_toArray, List.set_cons_zero, List.set_cons_succ]
        refine wpAnyH_take (i := 13) (v := ?_) rfl (by kernel_rfl) (by kernel_rfl) (by kernel_rfl) (fun _ _ _ h => h) (Or.inl ⟨by rfl, (by intro w hSw; go_simp; try with_reducible rfl)⟩) (by assumption) ?_
        simp only [Act.put, List.getElem_toArray, List.getElem_cons_zero, List.getElem_cons_succ, List.setIfInBounds_toArray, List.set_cons_zero, List.set_cons_succ]
        refine wpAnyH_done (by kernel_rfl) ?_ _
        go_wp2_with fail
        go_ret
        exact ⟨by rw [hfin.out]; rfl, HB0.out.trans (hHeld.mono HB0.out.size)⟩
      · have b1 : ((a : Int) == 0) = false := by rw [beq_eq_false_iff_ne]; exact ha
        clear ha hw
        generalize mk (Flg.digits a) = da at *
        generalize mk (Flg.digits b) = db at *
        generalize mk p = y at *
        go_enter Tryz.func25, Tryz.ntmps25
        go_wp2_with fail
        refine wp_region_held_drew (S := (fun w' : World => Below (w.alloc (.cells #[.string y, .int .i64 (a : Int), .int .i64 (b : Int)] 42)).heap.size (w.alloc (.cells #[.string y, .int .i64 (a : Int), .int .i64 (b : Int)] 42)) w')) (by kernel_rfl) ((Below.refl _ _).drew) (fun hHeld => ?_)
        refine wpAnyH_take (i := 0) (v := ?_) rfl (by kernel_rfl) (by kernel_rfl) (by kernel_rfl) (fun _ _ _ h => h) (Or.inl ⟨by rfl, (by intro w hSw; go_simp; try with_reducible rfl)⟩) (by assumption) ?_
        simp only [Act.put, List.getElem_toArray, List.getElem_cons_zero, List.getElem_cons_succ, List.setIfInBounds_toArray, List.set_cons_zero, List.set_cons_succ]
        refine wpAnyH_take (i := 1) (v := ?_) rfl (by kernel_rfl) (by kernel_rfl) (by kernel_rfl) (fun _ _ _ h => h) (Or.inl ⟨by rfl, (by intro w hSw; have n0 : ¬ 9223372036854775807 < y.size + 1 := (by omega); go_simp; try with_reducible rfl)⟩) (by assumption) ?_
        simp only [Act.put, List.getElem_toArray, List.getElem_cons_zero, List.getElem_cons_succ, List.setIfInBounds_toArray, List.set_cons_zero, List.set_cons_succ]
        refine wpAnyH_take (i := 2) (v := ?_) rfl (by kernel_rfl) (by kernel_rfl) (by kernel_rfl) (fun _ _ _ h => h) (Or.inl ⟨by rfl, (by intro w hSw; go_simp; try with_reducible rfl)⟩) (by assumption) ?_
        simp only [Act.put, List.getElem_toArray, List.getElem_cons_zero, List.getElem_cons_succ, List.setIfInBounds_toArray, List.set_cons_zero, List.set_cons_succ]
        refine wpAnyH_take (i := 3) (v := ?_) rfl (by kernel_rfl) (by kernel_rfl) (by kernel_rfl) (fun _ _ _ h => h) (Or.inl ⟨by rfl, (by intro w hSw; go_simp; try with_reducible rfl)⟩) (by assumption) ?_
        simp only [Act.put, List.getElem_toArray, List.getElem_cons_zero, List.getElem_cons_succ, List.setIfInBounds_toArray, List.set_cons_zero, List.set_cons_succ]
        refine wpAnyH_take (i := 4) (v := ?_) rfl (by kernel_rfl) (by kernel_rfl) (by kernel_rfl) (fun _ _ _ h => h) (Or.inl ⟨by rfl, (by intro w hSw; have d0 := (XC.out _ hSw).1; have d1 := (XC.out _ hSw).2; go_simp; try with_reducible rfl)⟩) (by assumption) ?_
        simp only [Act.put, List.getElem_toArray, List.getElem_cons_zero, List.getElem_cons_succ, List.setIfInBounds_toArray, List.set_cons_zero, List.set_cons_succ]
        refine wpAnyH_take (i := 8) (v := ?_) rfl (by kernel_rfl) (by kernel_rfl) (by kernel_rfl) (fun _ _ _ h => h) (Or.inl ⟨by rfl, (by intro w hSw; go_simp; try with_reducible rfl)⟩) (by assumption) ?_
        simp only [Act.put, List.getElem_toArray, List.getElem_cons_zero, List.getElem_cons_succ, List.setIfInBounds_toArray, List.set_cons_zero, List.set_cons_succ]
        refine wpAnyH_take (i := 9) (v := ?_) rfl (by kernel_rfl) (by kernel_rfl) (by kernel_rfl) (fun _ _ _ h => h) (Or.inl ⟨by rfl, (by intro w hSw; go_simp; try with_reducible rfl)⟩) (by assumption) ?_
        simp only [Act.put, List.getElem_toArray, List.getElem_cons_zero, List.getElem_cons_succ, List.setIfInBounds_toArray, List.set_cons_zero, List.set_cons_succ]
        refine wpAnyH_take (i := 10) (v := ?_) rfl (by kernel_rfl) (by kernel_rfl) (by kernel_rfl) (fun _ _ _ h => h) (Or.inl ⟨by rfl, (by intro w hSw; have d0 := (XC.out _ hSw).1; have d1 := (XC.out _ hSw).2; go_simp; try with_reducible rfl)⟩) (by assumption) ?_
        simp only [Act.put, List.getElem_toArray, List.getElem_cons_zero, List.getElem_cons_succ, List.setIfInBounds_toArray, List.set_cons_zero, List.set_cons_succ]
        refine wpAnyH_ready (rs := [5]) (by kernel_rfl) (by simp) ?_
        refine AllReadyH.cons rfl (fun K hK => ?_) AllReadyH.nil
        go_simp
        go_at_call 43
        refine (DA.out _).mono ?_
        rintro e wa ⟨rfl, hbN⟩
        have hhN := hHeld.trans (hbN.mono hHeld.size)
        clear hbN
        refine hK.out _ _ hhN (fun hHeld => ?_)
        clear hhN
        clear hK K
        refine wpAnyH_take (i := 6) (v := ?_) rfl (by kernel_rfl) (by kernel_rfl) (by kernel_rfl) (fun _ _ _ h => h) (Or.inl ⟨by rfl, (by intro w hSw; have n0 : ¬ 9223372036854775807 < y.size + 1 + da.size := (by omega); go_simp; try with_reducible rfl)⟩) (by assumption) ?_
        simp only [Act.put, List.getElem_toArray, List.getElem_cons_zero, List.getElem_cons_succ, List.setIfInBounds_toArray, List.set_cons_zero, List.set_cons_succ]
        refine wpAnyH_take (i := 7) (v := ?_) rfl (by kernel_rfl) (by kernel_rfl) (by kernel_rfl) (fun _ _ _ h => h) (Or.inl ⟨by rfl, (by intro w hSw; have n0 : ¬ 9223372036854775807 < y.size + 1 + da.size + 1 := (by omega); go_simp; try with_reducible rfl)⟩) (by assumption) ?_
        simp only [Act.put, List.getElem_toArray, List.getElem_cons_zero, List.getElem_cons_succ, List.setIfInBounds_toArray, List.set_cons_zero, List.set_cons_succ]
        refine wpAnyH_ready (rs := [11]) (by kernel_rfl) (by simp) ?_
        refine AllReadyH.cons rfl (fun K hK => ?_) AllReadyH.nil
        go_simp
        go_at_call 43
        refine (DB.out _).mono ?_
        rintro e wb ⟨rfl, hbN⟩
        have hhN := hHeld.trans (hbN.mono hHeld.size)
        clear hbN
        refine hK.out _ _ hhN (fun hHeld => ?_)
        clear hhN
        clear hK K
        refine wpAnyH_take (i := 12) (v := ?_) rfl (by kernel_rfl) (by kernel_rfl) (by kernel_rfl) (fun _ _ _ h => h) (Or.inl ⟨by rfl, (by intro w hSw; have n0 : ¬ 9223372036854775807 < y.size + 1 + da.size + 1 + db.size := (by omega); go_simp; try with_reducible rfl)⟩) (by assumption) ?_
        simp only [Act.put, List.getElem_toArray, List.getElem_cons_zero, List.getElem_cons_succ, List.setIfInBounds_toArray, List.set_cons_zero, List.set_cons_succ]
        refine wpAnyH_take (i := 13) (v := ?_) rfl (by kernel_rfl) (by kernel_rfl) (by kernel_rfl) (fun _ _ _ h => h) (Or.inl ⟨by rfl, (by intro w hSw; go_simp; try with_reducible rfl)⟩) (by assumption) ?_
        simp only [Act.put, List.getElem_toArray, List.getElem_cons_zero, List.getElem_cons_succ, List.setIfInBounds_toArray, List.set_cons_zero, List.set_cons_succ]
        refine wpAnyH_done (by kernel_rfl) ?_ _
        go_wp2_with fail
        go_ret
        exact ⟨by rw [hfin.out]; rfl, HB0.out.trans (hHeld.mono HB0.out.size)⟩
end Go.Proofs.YtabnfaonlkipbaaGreatDoor
