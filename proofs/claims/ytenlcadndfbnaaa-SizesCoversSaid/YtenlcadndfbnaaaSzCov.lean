/- SizesCovers out of the contracts. -/
import Derived.Test.YtenlcadndfbnaaaSzTwo
namespace Go.Proofs.Ytenlcadndfbnaaa
open Go.RowKit

set_option maxRecDepth 100000 in
set_option maxHeartbeats 6400000 in
theorem scovers_walk (H : SizesOk) {w : World} {u v : Value} {a b : List Sz.Rg} (ha : Rgs w (fun i => i < w.heap.size) u a) (hb : Rgs w (fun i => i < w.heap.size) v b) (la : a.length ≤ 9223372036854775807) (lb : b.length ≤ 9223372036854775807) (ba : ∀ r ∈ a, Bd r) (bb : ∀ r ∈ b, Bd r) :
    Calls Try.prog 5 #[u, v] w fun e w' => e = .returned (.bool true) ∧ Below w.heap.size w w' := by
  have AW := Lib.hid (fun W => sz_awake H W)
  have FA := Lib.hid (few_any ha la)
  have FB := Lib.hid (few_any hb lb)
  have ba := bd_take ba 30
  have bb := bd_take bb 30
  have la := len_take a
  have lb := len_take b
  clear ha hb
  generalize a.take 30 = a at *
  generalize b.take 30 = b at *
  go_enter Try.func5, Try.ntmps5
  go_wp2_with fail
  refine (FA.out).mono ?_
  rintro e w' ⟨u, rfl, ha, rfl⟩
  go_wp2_with fail
  refine (FB.out).mono ?_
  rintro e w' ⟨v, rfl, hb, rfl⟩
  obtain ⟨p, hp⟩ : ∃ p, p = decide (Sz.Covers a b) := ⟨_, rfl⟩
  obtain ⟨q, hq⟩ : ∃ q, q = decide (Sz.Covers b a) := ⟨_, rfl⟩
  have C1 : Hid (∀ W, Below w.heap.size w W → Calls Try.prog 19 #[u, v] W fun e w' => e = .returned (.bool p) ∧ Below W.heap.size W w') := Lib.hid (fun W hW => by
    rw [hp]; exact H.covers (ha.below hW) (hb.below hW) (by omega) (by omega) ba bb)
  have C2 : Hid (∀ W, Below w.heap.size w W → Calls Try.prog 19 #[v, u] W fun e w' => e = .returned (.bool q) ∧ Below W.heap.size W w') := Lib.hid (fun W hW => by
    rw [hq]; exact H.covers (hb.below hW) (ha.below hW) (by omega) (by omega) bb ba)
  have C3 : Hid (∀ W, Below w.heap.size w W → Calls Try.prog 19 #[u, u] W fun e w' => e = .returned (.bool true) ∧ Below W.heap.size W w') := Lib.hid (fun W hW => by
    have := H.covers (ha.below hW) (ha.below hW) (by omega) (by omega) ba ba
    rw [decide_eq_true (Sz.covers_refl a)] at this
    exact this)
  have S1 : Hid (∀ W, Below w.heap.size w W → Calls Try.prog 20 #[u, v] W fun e w' => e = .returned (.bool (p && q)) ∧ Below W.heap.size W w') := Lib.hid (fun W hW => by
    have := H.same (ha.below hW) (hb.below hW) (by omega) (by omega) ba bb
    rw [Bool.decide_and] at this
    rw [hp, hq]; exact this)
  have NO := Lib.hid (fun (W : World) (hW : Below w.heap.size w W) => H.norm (ha.below hW) (by omega) ba)
  have S2 : Hid (∀ (W A : World) (x : Value), Below w.heap.size w W → Below W.heap.size W A → Rgs A (NewIn W A) x (Sz.norm a) → Calls Try.prog 20 #[u, x] A fun e w' => e = .returned (.bool true) ∧ Below A.heap.size A w') := Lib.hid (fun W A x hW hA hx => by
    have hl := (norm_bd a).2
    have := H.same (ha.below (sz_step hW hA)) hx (by omega) (by omega) ba (norm_bd a).1
    rw [decide_eq_true (p := Sz.Covers a (Sz.norm a) ∧ Sz.Covers (Sz.norm a) a) ⟨fun n h => by rw [← Sz.norm_holds]; exact h, fun n h => by rw [Sz.norm_holds]; exact h⟩] at this
    exact this)
  have T1 : Hid (∀ W, Below w.heap.size w W → Calls Try.prog 16 #[v, u, .int .i64 2] W fun e w' => ∃ v', e = .returned v' ∧ RowsOwn 29 2 rgV W (Sz.two 2 b a) v' w') := Lib.hid (fun W hW => ref_two (hb.below hW) (ha.below hW) (by omega) (by omega) 2 (by omega))
  have T2 : Hid (∀ W, Below w.heap.size w W → Calls Try.prog 16 #[u, v, .int .i64 2] W fun e w' => ∃ v', e = .returned v' ∧ RowsOwn 29 2 rgV W (Sz.two 2 a b) v' w') := Lib.hid (fun W hW => ref_two (ha.below hW) (hb.below hW) (by omega) (by omega) 2 (by omega))
  have hX : ((Sz.two 2 b a).length = 0 ∧ p = true) ∨ (0 < (Sz.two 2 b a).length ∧ p = false) := by
    rw [hp]
    by_cases h : Sz.Covers a b
    · exact Or.inl ⟨by rw [(Sz.covers_iff a b).1 h]; rfl, decide_eq_true h⟩
    · refine Or.inr ⟨List.length_pos_iff.2 (fun e => h ((Sz.covers_iff a b).2 e)), decide_eq_false h⟩
  have hY : ((Sz.two 2 a b).length = 0 ∧ q = true) ∨ (0 < (Sz.two 2 a b).length ∧ q = false) := by
    rw [hq]
    by_cases h : Sz.Covers b a
    · exact Or.inl ⟨by rw [(Sz.covers_iff b a).1 h]; rfl, decide_eq_true h⟩
    · refine Or.inr ⟨List.length_pos_iff.2 (fun e => h ((Sz.covers_iff b a).2 e)), decide_eq_false h⟩
  have lX := (two_bd 2 b a).2
  have lY := (two_bd 2 a b).2
  have B0 := Below.refl w.heap.size w
  clear FA FB ha hb hp hq
  go_wp2_with fail
  refine (T1.out _ B0).mono ?_
  rintro e w1 ⟨x0, rfl, s0⟩
  have B1 := sz_step B0 s0.2
  obtain ⟨A1, c1, rfl, k1⟩ := (s0.rows (fun r _ => rg_len r)).parts
  clear B0 s0
  go_wp2_with fail
  refine (T2.out _ B1).mono ?_
  rintro e w2 ⟨x1, rfl, s1⟩
  have B2 := sz_step B1 s1.2
  obtain ⟨A2, c2, rfl, k2⟩ := (s1.rows (fun r _ => rg_len r)).parts
  clear B1 s1
  go_wp2_with fail
  refine (AW.out _).mono ?_
  rintro e w3 ⟨rfl, k⟩
  have B3 := sz_step B2 k
  clear k B2
  generalize (Sz.two 2 b a).length = X at *
  generalize (Sz.two 2 a b).length = Y at *
  have hX0 : (0 : Int) ≤ (X : Int) := by omega
  have hY0 : (0 : Int) ≤ (Y : Int) := by omega
  have hX1 : (X : Int) ≤ 202 := by omega
  have hY1 : (Y : Int) ≤ 202 := by omega
  go_wp2_with fail
  refine (C1.out _ B3).mono ?_
  rintro e w4 ⟨rfl, k⟩
  have B4 := sz_step B3 k
  clear k B3
  rcases hX with ⟨rfl, rfl⟩ | ⟨hx, rfl⟩ <;> rcases hY with ⟨rfl, rfl⟩ | ⟨hy, rfl⟩
  · go_wp2_with fail
    refine (C2.out _ B4).mono ?_
    rintro e w5 ⟨rfl, k⟩
    have B5 := sz_step B4 k
    clear k B4
    go_wp2_with fail
    refine (S1.out _ B5).mono ?_
    rintro e w6 ⟨rfl, k⟩
    have B6 := sz_step B5 k
    clear k B5
    go_wp2_with fail
    refine (NO.out _ B6).mono ?_
    rintro e w7 ⟨z2, rfl, r2, k⟩
    have B7 := sz_step B6 k
    go_wp2_with fail
    refine (S2.out _ _ _ B6 k r2).mono ?_
    rintro e w8 ⟨rfl, k'⟩
    have B8 := sz_step B7 k'
    clear k k' B6 B7 r2
    go_wp2_with fail
    refine (C3.out _ B8).mono ?_
    rintro e w9 ⟨rfl, k⟩
    have B9 := sz_step B8 k
    clear k B8
    go_wp2_with fail
    go_ret
    exact ⟨rfl, B9⟩
  · have y1 : ((Y : Int) == 0) = false := by rw [beq_eq_false_iff_ne]; omega
    have y2 : ¬ (Y : Int) = 0 := by omega
    have y3 : (((0 : Nat) : Int) + (Y : Int) == 0) = false := by rw [beq_eq_false_iff_ne]; omega
    have y4 : ¬ ((0 : Nat) : Int) + (Y : Int) = 0 := by omega
    go_wp2_with fail
    refine (C2.out _ B4).mono ?_
    rintro e w5 ⟨rfl, k⟩
    have B5 := sz_step B4 k
    clear k B4
    go_wp2_with fail
    refine (S1.out _ B5).mono ?_
    rintro e w6 ⟨rfl, k⟩
    have B6 := sz_step B5 k
    clear k B5
    go_wp2_with fail
    refine (NO.out _ B6).mono ?_
    rintro e w7 ⟨z2, rfl, r2, k⟩
    have B7 := sz_step B6 k
    go_wp2_with fail
    refine (S2.out _ _ _ B6 k r2).mono ?_
    rintro e w8 ⟨rfl, k'⟩
    have B8 := sz_step B7 k'
    clear k k' B6 B7 r2
    go_wp2_with fail
    refine (C3.out _ B8).mono ?_
    rintro e w9 ⟨rfl, k⟩
    have B9 := sz_step B8 k
    clear k B8
    go_wp2_with fail
    go_ret
    exact ⟨rfl, B9⟩
  · have x1 : ((X : Int) == 0) = false := by rw [beq_eq_false_iff_ne]; omega
    have x2 : ¬ (X : Int) = 0 := by omega
    have x3 : ((X : Int) + ((0 : Nat) : Int) == 0) = false := by rw [beq_eq_false_iff_ne]; omega
    have x4 : ¬ (X : Int) + ((0 : Nat) : Int) = 0 := by omega
    go_wp2_with fail
    refine (C2.out _ B4).mono ?_
    rintro e w5 ⟨rfl, k⟩
    have B5 := sz_step B4 k
    clear k B4
    go_wp2_with fail
    refine (S1.out _ B5).mono ?_
    rintro e w6 ⟨rfl, k⟩
    have B6 := sz_step B5 k
    clear k B5
    go_wp2_with fail
    refine (NO.out _ B6).mono ?_
    rintro e w7 ⟨z2, rfl, r2, k⟩
    have B7 := sz_step B6 k
    go_wp2_with fail
    refine (S2.out _ _ _ B6 k r2).mono ?_
    rintro e w8 ⟨rfl, k'⟩
    have B8 := sz_step B7 k'
    clear k k' B6 B7 r2
    go_wp2_with fail
    refine (C3.out _ B8).mono ?_
    rintro e w9 ⟨rfl, k⟩
    have B9 := sz_step B8 k
    clear k B8
    go_wp2_with fail
    go_ret
    exact ⟨rfl, B9⟩
  · have x1 : ((X : Int) == 0) = false := by rw [beq_eq_false_iff_ne]; omega
    have x2 : ¬ (X : Int) = 0 := by omega
    have y1 : ((Y : Int) == 0) = false := by rw [beq_eq_false_iff_ne]; omega
    have y2 : ¬ (Y : Int) = 0 := by omega
    have x3 : ((X : Int) + (Y : Int) == 0) = false := by rw [beq_eq_false_iff_ne]; omega
    have x4 : ¬ (X : Int) + (Y : Int) = 0 := by omega
    go_wp2_with fail
    refine (C2.out _ B4).mono ?_
    rintro e w5 ⟨rfl, k⟩
    have B5 := sz_step B4 k
    clear k B4
    go_wp2_with fail
    refine (S1.out _ B5).mono ?_
    rintro e w6 ⟨rfl, k⟩
    have B6 := sz_step B5 k
    clear k B5
    go_wp2_with fail
    refine (NO.out _ B6).mono ?_
    rintro e w7 ⟨z2, rfl, r2, k⟩
    have B7 := sz_step B6 k
    go_wp2_with fail
    refine (S2.out _ _ _ B6 k r2).mono ?_
    rintro e w8 ⟨rfl, k'⟩
    have B8 := sz_step B7 k'
    clear k k' B6 B7 r2
    go_wp2_with fail
    refine (C3.out _ B8).mono ?_
    rintro e w9 ⟨rfl, k⟩
    have B9 := sz_step B8 k
    clear k B8
    go_wp2_with fail
    go_ret
    exact ⟨rfl, B9⟩
end Go.Proofs.Ytenlcadndfbnaaa
