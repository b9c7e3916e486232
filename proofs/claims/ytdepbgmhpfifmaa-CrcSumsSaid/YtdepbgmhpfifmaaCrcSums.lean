/- Any bytes' sum, and whether four bytes are it: CrcSums's walk, out of what the package's functions are to answer (CrcOk). -/
import Derived.Test.YtdepbgmhpfifmaaCrcAwake
namespace Go.Proofs.Ytdepbgmhpfifmaa
open Go.RowKit

theorem bytes_eq {a b : ByteArray} (h : a.data.toList = b.data.toList) : a = b := by
  cases a; cases b; simp only [ByteArray.mk.injEq]; exact Array.ext' h

set_option maxRecDepth 100000 in
set_option maxHeartbeats 1600000 in
theorem sums_long (H : CrcOk) (s four : ByteArray) (w : World) (h : 600 < s.size) :
    Calls Try.prog 3 #[.string s, .string four] w fun e w' => e = .returned (.bool true) ∧ Below w.heap.size w w' := by
  have hb : decide ((600 : Int) < (s.size : Int)) = true := by simp; omega
  have HH := Lib.hid H
  clear H h
  go_enter Try.func3, Try.ntmps3
  go_wp2_with (go_at_call 6; with_reducible refine (crc_awake HH.out _).mono ?_; rintro e w1 ⟨rfl, hb1⟩)
  go_ret
  exact ⟨rfl, hb1⟩

set_option maxRecDepth 100000 in
set_option maxHeartbeats 3200000 in
theorem sums_few (H : CrcOk) (s four : ByteArray) (w : World) (h : s.size ≤ 600) :
    Calls Try.prog 3 #[.string s, .string four] w fun e w' => e = .returned (.bool true) ∧ Below w.heap.size w w' := by
  have hb : decide ((600 : Int) < (s.size : Int)) = false := by simp; omega
  obtain ⟨want, hw⟩ : ∃ want : ByteArray, want = ⟨(fourOf (Crc.sum s.data.toList).toNat).toArray⟩ := ⟨_, rfl⟩
  have hwl : want.data.toList = fourOf (Crc.sum s.data.toList).toNat := by rw [hw]
  have hw4 : want.size = 4 := by rw [hw]; rfl
  have R : Hid (∀ W, Calls Try.prog 7 #[.string s] W fun e w' => e = .returned (.string want) ∧ Below W.heap.size W w') := Lib.hid (fun W => by rw [hw]; exact ref_four s W h)
  have F : Hid (∀ W, Calls Try.prog 11 #[.string s] W fun e w' => e = .returned (.string want) ∧ Below W.heap.size W w') := Lib.hid (fun W => by rw [hw]; exact H.four s W (by omega))
  have S : Hid (∀ W, Calls Try.prog 9 #[.string s] W fun e w' => e = .returned (.int .i64 ((Crc.sum s.data.toList).toNat : Int)) ∧ Below W.heap.size W w') := Lib.hid (fun W => H.sum s W (by omega))
  have RS : Hid (∀ W, Calls Try.prog 10 #[.string s] W fun e w' => e = .returned (.int .i64 ((Crc.sum s.data.toList).toNat : Int)) ∧ Below W.heap.size W w') := Lib.hid (fun W => ref_sum s W h)
  have C0 : Hid (∀ W, Calls Try.prog 8 #[.string s, .string want] W fun e w' => e = .returned (.int .i64 0) ∧ Below W.heap.size W w') := Lib.hid (fun W => by
    have := H.check s want W (by omega)
    unfold checkOf at this
    rw [if_pos hw4, if_pos hwl] at this
    exact this)
  have C1 : ∀ W, Calls Try.prog 8 #[.string s, .string four] W fun e w' => e = .returned (.int .i64 (if four.size = 4 then (if four = want then 0 else 7) else 5)) ∧ Below W.heap.size W w' := fun W => by
    have := H.check s four W (by omega)
    unfold checkOf at this
    have e : (four.data.toList = fourOf (Crc.sum s.data.toList).toNat) ↔ four = want := by
      rw [← hwl]; exact ⟨bytes_eq, fun h => by rw [h]⟩
    simp only [e] at this
    exact this
  have gw : (want.toList == want.toList) = true := beq_self_eq_true _
  have HH := Lib.hid H
  generalize (Crc.sum s.data.toList).toNat = x at *
  by_cases h4 : four.size = 4
  · rw [if_pos h4] at C1
    have g4 : ((four.size : Int) != 4) = false := by rw [h4]; rfl
    by_cases he : four = want
    · rw [if_pos he] at C1
      have C := Lib.hid C1
      have gb : (four.toList == want.toList) = true := by rw [he]; exact beq_self_eq_true _
      clear C1 hw hwl hw4 H h h4 he
      go_enter Try.func3, Try.ntmps3
      go_wp2_with (first
        | (go_at_call 7; with_reducible refine (R.out _).mono ?_; rintro e w1 ⟨rfl, hb1⟩)
        | (go_at_call 8; with_reducible refine (C.out _).mono ?_; rintro e w2 ⟨rfl, hb2⟩)
        | (go_at_call 6; with_reducible refine (crc_awake HH.out _).mono ?_; rintro e w3 ⟨rfl, hb3⟩)
        | (go_at_call 9; with_reducible refine (S.out _).mono ?_; rintro e w4 ⟨rfl, hb4⟩)
        | (go_at_call 10; with_reducible refine (RS.out _).mono ?_; rintro e w5 ⟨rfl, hb5⟩)
        | (go_at_call 11; with_reducible refine (F.out _).mono ?_; rintro e w6 ⟨rfl, hb6⟩)
        | (go_at_call 8; with_reducible refine (C0.out _).mono ?_; rintro e w7 ⟨rfl, hb7⟩))
      go_ret
      have z1 := hb1.size
      have z2 := hb2.size
      have z3 := hb3.size
      have z4 := hb4.size
      have z5 := hb5.size
      have z6 := hb6.size
      exact ⟨rfl, (((((hb1.trans (hb2.mono (by omega))).trans (hb3.mono (by omega))).trans (hb4.mono (by omega))).trans (hb5.mono (by omega))).trans (hb6.mono (by omega))).trans (hb7.mono (by omega))⟩
    · rw [if_neg he] at C1
      have C := Lib.hid C1
      have gb : (four.toList == want.toList) = false := by
        rw [beq_eq_false_iff_ne, Lib.toList_data, Lib.toList_data]
        exact fun hh => he (bytes_eq hh)
      clear C1 hw hwl hw4 H h h4 he
      go_enter Try.func3, Try.ntmps3
      go_wp2_with (first
        | (go_at_call 7; with_reducible refine (R.out _).mono ?_; rintro e w1 ⟨rfl, hb1⟩)
        | (go_at_call 8; with_reducible refine (C.out _).mono ?_; rintro e w2 ⟨rfl, hb2⟩)
        | (go_at_call 6; with_reducible refine (crc_awake HH.out _).mono ?_; rintro e w3 ⟨rfl, hb3⟩)
        | (go_at_call 9; with_reducible refine (S.out _).mono ?_; rintro e w4 ⟨rfl, hb4⟩)
        | (go_at_call 10; with_reducible refine (RS.out _).mono ?_; rintro e w5 ⟨rfl, hb5⟩)
        | (go_at_call 11; with_reducible refine (F.out _).mono ?_; rintro e w6 ⟨rfl, hb6⟩)
        | (go_at_call 8; with_reducible refine (C0.out _).mono ?_; rintro e w7 ⟨rfl, hb7⟩))
      go_ret
      have z1 := hb1.size
      have z2 := hb2.size
      have z3 := hb3.size
      have z4 := hb4.size
      have z5 := hb5.size
      have z6 := hb6.size
      exact ⟨rfl, (((((hb1.trans (hb2.mono (by omega))).trans (hb3.mono (by omega))).trans (hb4.mono (by omega))).trans (hb5.mono (by omega))).trans (hb6.mono (by omega))).trans (hb7.mono (by omega))⟩
  · rw [if_neg h4] at C1
    have C := Lib.hid C1
    have g4 : ((four.size : Int) != 4) = true := by simp; omega
    clear C1 hw hwl hw4 H h h4
    go_enter Try.func3, Try.ntmps3
    go_wp2_with (first
      | (go_at_call 7; with_reducible refine (R.out _).mono ?_; rintro e w1 ⟨rfl, hb1⟩)
      | (go_at_call 8; with_reducible refine (C.out _).mono ?_; rintro e w2 ⟨rfl, hb2⟩)
      | (go_at_call 6; with_reducible refine (crc_awake HH.out _).mono ?_; rintro e w3 ⟨rfl, hb3⟩)
      | (go_at_call 9; with_reducible refine (S.out _).mono ?_; rintro e w4 ⟨rfl, hb4⟩)
      | (go_at_call 10; with_reducible refine (RS.out _).mono ?_; rintro e w5 ⟨rfl, hb5⟩)
      | (go_at_call 11; with_reducible refine (F.out _).mono ?_; rintro e w6 ⟨rfl, hb6⟩)
      | (go_at_call 8; with_reducible refine (C0.out _).mono ?_; rintro e w7 ⟨rfl, hb7⟩))
    go_ret
    have z1 := hb1.size
    have z2 := hb2.size
    have z3 := hb3.size
    have z4 := hb4.size
    have z5 := hb5.size
    have z6 := hb6.size
    exact ⟨rfl, (((((hb1.trans (hb2.mono (by omega))).trans (hb3.mono (by omega))).trans (hb4.mono (by omega))).trans (hb5.mono (by omega))).trans (hb6.mono (by omega))).trans (hb7.mono (by omega))⟩
end Go.Proofs.Ytdepbgmhpfifmaa
