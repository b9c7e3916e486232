/- What must come at any rate ('awake' of layer 7); PathOrder out of the contracts. -/
import Derived.Test.YtadgdppkokbphaaPthOk
namespace Go.Proofs.Ytadgdppkokbphaa
open Go.RowKit

def pthTwo : List (List UInt8) := [[97], [98, 46, 99]]

set_option maxRecDepth 100000 in
theorem pthTwo_cells (W : World) : Cells (W.alloc (.cells #[.string ⟨#[97]⟩, .string ⟨#[98, 46, 99]⟩] 9)) (fun i => i = W.heap.size) (.slice (some ⟨W.heap.size, 0, none⟩) 2 2) (texts pthTwo) :=
  ⟨some ⟨W.heap.size, 0, none⟩, 2, rfl, Nat.le_refl _, fun _ => ⟨W.heap.size, 0, rfl, rfl, by simp, fun i u hu => by
    rw [(Row.made W _ _).at]
    match i, hu with
    | 0, hu => simp [texts, pthTwo] at hu; subst hu; rfl
    | 1, hu => simp [texts, pthTwo] at hu; subst hu; rfl⟩⟩

set_option maxRecDepth 100000 in
set_option maxHeartbeats 1600000 in
theorem pth_awake (H : PathOk) (w : World) : Calls Try.prog 7 #[] w fun e w' => e = .returned (.bool true) ∧ Below w.heap.size w w' := by
  have C1 : Hid (∀ W, Calls Try.prog 15 #[.string ⟨#[97, 47, 98]⟩, .string ⟨#[97]⟩] W fun e w' => e = .returned (.tuple #[.string ⟨#[97, 47, 98]⟩, .bool true]) ∧ Below W.heap.size W w') := Lib.hid (fun W => by
    have := H.meet [97, 47, 98] [97] W (by decide) (by decide)
    rw [show Pth.meet [97, 47, 98] [97] = ([97, 47, 98], true) by decide +kernel] at this
    exact this)
  have C2 : Hid (∀ W, Calls Try.prog 9 #[.string ⟨#[97, 47, 98, 46, 99]⟩] W fun e w' => (∃ v, e = .returned (.tuple #[v, .int .i64 0]) ∧ Cells w' (NewIn W w') v (texts pthTwo)) ∧ Below W.heap.size W w') := Lib.hid (fun W => by
    refine (H.names [97, 47, 98, 46, 99] W (by decide)).mono ?_
    rintro e w' ⟨v, rfl, h1, h2⟩
    have hR : Pth.Right [97, 47, 98, 46, 99] := by decide +kernel
    rw [if_pos hR] at h1
    rw [if_pos hR]
    rw [show Pth.split [97, 47, 98, 46, 99] = pthTwo by decide +kernel] at h1
    exact ⟨⟨v, rfl, h1⟩, h2⟩)
  have C3 : Hid (∀ W, Calls Try.prog 17 #[.string ⟨#[97]⟩, .string ⟨#[97, 47, 98]⟩] W fun e w' => e = .returned (.bool true) ∧ Below W.heap.size W w') := Lib.hid (fun W => by
    have := H.covers [97] [97, 47, 98] W (by decide) (by decide)
    rw [show decide (Pth.Covers [97] [97, 47, 98]) = true by decide +kernel] at this
    exact this)
  have C4 : Hid (∀ W, Calls Try.prog 17 #[.string ⟨#[97]⟩, .string ⟨#[97, 98]⟩] W fun e w' => e = .returned (.bool false) ∧ Below W.heap.size W w') := Lib.hid (fun W => by
    have := H.covers [97] [97, 98] W (by decide) (by decide)
    rw [show decide (Pth.Covers [97] [97, 98]) = false by decide +kernel] at this
    exact this)
  have C5 : Hid (∀ W, Calls Try.prog 8 #[.string ⟨#[46, 46]⟩] W fun e w' => e = .returned (.int .i64 13) ∧ Below W.heap.size W w') := Lib.hid (fun W => by
    have := H.check [46, 46] W (by decide)
    rw [if_neg (show ¬ Pth.Right [46, 46] by decide +kernel)] at this
    exact this)
  go_enter Try.func7, Try.ntmps7
  go_wp2_with (first
    | (go_at_call 15; refine (C1.out _).mono ?_; rintro e w1 ⟨rfl, b1⟩)
    | (go_at_call 9; refine (C2.out _).mono ?_; rintro e w2 ⟨⟨v, rfl, hc⟩, b2⟩)
    | (go_at_call 17; first | ((with_reducible refine (C3.out _).mono ?_); rintro e w3 ⟨rfl, b3⟩) | ((with_reducible refine (C4.out _).mono ?_); rintro e w4 ⟨rfl, b4⟩))
    | (go_at_call 8; refine (C5.out _).mono ?_; rintro e w6 ⟨rfl, b6⟩))
  have hcc : Cells w4 (NewIn w1 w2) v (texts pthTwo) := (hc.below b3).below b4
  refine (texts_same (hcc.below ((Below.refl _ _).alloc (Nat.le_refl _) _)) (pthTwo_cells _) (by decide)).mono ?_
  rintro e w5 ⟨rfl, b5⟩
  have B5 := Lib.hid b5
  clear b5
  go_wp2_with (first
    | (go_at_call 8; refine (C5.out _).mono ?_; rintro e w6 ⟨rfl, b6⟩))
  go_ret
  have s1 := b1.size
  have s2 := b2.size
  have s3 := b3.size
  have s4 := b4.size
  have b5 := B5.out
  have s5 := b5.size
  simp only [World.alloc] at s5
  simp at s5
  exact ⟨rfl, (((((b1.trans (b2.mono s1)).trans (b3.mono (by omega))).trans (b4.mono (by omega))).alloc (by omega) _).trans (b5.mono (by simp; omega))).trans (b6.mono (by omega))⟩
end Go.Proofs.Ytadgdppkokbphaa
