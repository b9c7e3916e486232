/- FrameLays's and FrameReads's walks, out of FrameOk. -/
import Derived.Test.YtlccbebociknaaaFrmAwake
namespace Go.Proofs.Ytlccbebociknaaa
open Go.RowKit

theorem Frm.all_le (n : Nat) (l : List (List UInt8)) (h : ∀ t ∈ l, t.length ≤ n) : (Frm.all l).length ≤ l.length * (n + 13) := by
  induction l with
  | nil => exact Nat.zero_le _
  | cons t l ih =>
    have h1 := ih (fun x hx => h x (by simp [hx]))
    have h2 := h t (by simp)
    have h3 := (Leb.enc_len t.length).2
    rw [Frm.all_cons, List.length_append, Frm.one_len, List.length_cons, Nat.add_mul, Nat.one_mul]
    omega

theorem light_all {l : List (List UInt8)} (h : Light l) : (Frm.all l).length ≤ 12520 := by
  have h1 := Frm.all_le 300 l h.1
  have h2 := h.2
  omega

set_option maxRecDepth 100000 in
set_option maxHeartbeats 1600000 in
theorem frm_lays (H : FrameOk) {w : World} {F : Nat → Prop} {v : Value} {l : List (List UInt8)} (h : Cells w F v (texts l)) (hl : l.length ≤ 9223372036854775807) :
    Calls Try.prog 3 #[v] w fun e w' => e = .returned (.bool true) ∧ Below w.heap.size w w' := by
  have hlight := Lib.hid (light_any h hl)
  have haw := fun W => frm_awake H W
  have HA := Lib.hid haw
  clear haw
  by_cases hL : Light l
  · have hd : decide (Light l) = true := decide_eq_true hL
    rw [hd] at hlight
    have hla := light_all hL
    have h1 : l.length ≤ 1000 := by have := hL.2; omega
    have h2 : ∀ t ∈ l, t.length ≤ 131072 := fun t ht => by have := hL.1 t ht; omega
    have h3 : ∀ t ∈ l, t.length ≤ 100000 := fun t ht => by have := hL.1 t ht; omega
    have hlay := H.lay h (by omega) (fun t ht => by have := h2 t ht; omega)
    rw [if_pos (by omega)] at hlay
    have hsize : ∀ W, Below w.heap.size w W → Calls Try.prog 11 #[v] W fun e w' => e = .returned (.int .i64 ((Frm.all l).length : Int)) ∧ Below W.heap.size W w' := fun W hW => by
      have := H.size (h.below hW) (by omega) (fun t ht => by have := h2 t ht; omega)
      rw [if_pos (by omega)] at this
      exact this
    have hall : ∀ W, Below w.heap.size w W → Calls Try.prog 10 #[v] W fun e w' => e = .returned (.string (mk (Frm.all l))) ∧ Below W.heap.size W w' := fun W hW => ref_all (h.below hW) h1 h3
    have hz : ((Frm.all l).length : Int) = ((mk (Frm.all l)).size : Int) := by rw [mk_len]
    rw [hz] at hsize
    have hbb : ((mk (Frm.all l)).toList == (mk (Frm.all l)).toList) = true := beq_self_eq_true _
    have hb2 : (((mk (Frm.all l)).size : Int) == ((mk (Frm.all l)).size : Int)) = true := beq_self_eq_true _
    have HL := Lib.hid hlay
    have HS := Lib.hid hsize
    have HX := Lib.hid hall
    clear hlay hsize hall hz hL hd hla h1 h2 h3 h H hl
    generalize mk (Frm.all l) = s at *
    go_enter Try.func3, Try.ntmps3
    go_wp2_with fail
    refine hlight.out.mono ?_
    rintro e w0 ⟨rfl, rfl⟩
    go_wp2_with fail
    refine HL.out.mono ?_
    rintro e w1 ⟨rfl, h1⟩
    have h1 := Lib.hid h1
    go_wp2_with fail
    refine (HA.out w1).mono ?_
    rintro e w2 ⟨rfl, h2⟩
    have h2 := Lib.hid (h1.out.trans (h2.mono h1.out.size))
    go_wp2_with fail
    refine (HX.out w2 h2.out).mono ?_
    rintro e w3 ⟨rfl, h3⟩
    have h3 := Lib.hid (h2.out.trans (h3.mono h2.out.size))
    go_wp2_with fail
    refine (HS.out w3 h3.out).mono ?_
    rintro e w4 ⟨rfl, h4⟩
    have h4 := Lib.hid (h3.out.trans (h4.mono h3.out.size))
    go_wp2_with fail
    go_ret
    exact ⟨rfl, h4.out⟩
  · have hd : decide (Light l) = false := decide_eq_false hL
    rw [hd] at hlight
    clear hL hd h H hl
    go_enter Try.func3, Try.ntmps3
    go_wp2_with fail
    refine hlight.out.mono ?_
    rintro e w0 ⟨rfl, rfl⟩
    go_wp2_with fail
    refine (HA.out w0).mono ?_
    rintro e w2 ⟨rfl, h2⟩
    have h2 := Lib.hid h2
    go_wp2_with fail
    go_ret
    exact ⟨rfl, h2.out⟩

set_option maxRecDepth 100000 in
set_option maxHeartbeats 1600000 in
theorem frm_reads (H : FrameOk) (s : ByteArray) (w : World) :
    Calls Try.prog 4 #[.string s] w fun e w' => e = .returned (.bool true) ∧ Below w.heap.size w w' := by
  have haw := fun W => frm_awake H W
  have HA := Lib.hid haw
  clear haw
  by_cases hs : s.size ≤ 2000
  · have hb : decide ((2000 : Int) < (s.size : Int)) = false := by simp; omega
    have hb2 : ¬ (2000 < s.size) := by omega
    have hb3 : ¬ ((2000 : Int) < (s.size : Int)) := by omega
    have f1 := fun W => H.first s W (by omega)
    have f2 := fun W => ref_frame s W (by omega)
    have r1 := fun W => H.read s W (by omega)
    have r2 := fun W => ref_records s W (by omega)
    have hlen : (Frm.read s.data.toList).1.length ≤ 1000000 := by
      by_cases he : (Frm.read s.data.toList).2 = 0
      · have h1 := Frm.read_only s.data.toList (Frm.read s.data.toList).1 (by rw [← he])
        have h2 := congrArg List.length h1
        have h3 : ∀ l : List (List UInt8), l.length ≤ (Frm.all l).length := fun l => by
          induction l with
          | nil => exact Nat.zero_le _
          | cons t l ih => have := Frm.one_pos t; rw [Frm.all_cons, List.length_append, List.length_cons]; omega
        have h4 := h3 (Frm.read s.data.toList).1
        rw [← Lib.size_eq] at h2
        omega
      · rw [Frm.read_none _ he]; decide
    have F1 := Lib.hid f1
    have F2 := Lib.hid f2
    have R1 := Lib.hid r1
    have R2 := Lib.hid r2
    have g1 : ((mk (Frm.first s.data.toList).1).toList == (mk (Frm.first s.data.toList).1).toList) = true := beq_self_eq_true _
    have g2 : (((Frm.first s.data.toList).2.1 : Int) == ((Frm.first s.data.toList).2.1 : Int)) = true := beq_self_eq_true _
    have g3 : ((Frm.first s.data.toList).2.2 == (Frm.first s.data.toList).2.2) = true := beq_self_eq_true _
    have g4 : ((Frm.read s.data.toList).2 == (Frm.read s.data.toList).2) = true := beq_self_eq_true _
    have Hlen := Lib.hid hlen
    clear f1 f2 r1 r2 H hlen
    unfold FirstIs at F1 F2
    generalize (Frm.first s.data.toList).2.2 = x at *
    generalize (Frm.first s.data.toList).2.1 = n at *
    generalize mk (Frm.first s.data.toList).1 = t at *
    generalize (Frm.read s.data.toList).2 = y at *
    generalize (Frm.read s.data.toList).1 = l at *
    go_enter Try.func4, Try.ntmps4
    go_wp2_with fail
    refine (F1.out w).mono ?_
    rintro e w1 ⟨rfl, h1⟩
    have h1 := Lib.hid h1
    go_wp2_with fail
    refine (F2.out w1).mono ?_
    rintro e w2 ⟨rfl, h2⟩
    have h2 := Lib.hid (h1.out.trans (h2.mono h1.out.size))
    go_wp2_with fail
    refine (R1.out w2).mono ?_
    rintro e w3 ⟨v1, rfl, c1, h3⟩
    have c1 := Lib.hid c1
    have h3 := Lib.hid (h2.out.trans (h3.mono h2.out.size))
    go_wp2_with fail
    refine (R2.out w3).mono ?_
    rintro e w4 ⟨v2, rfl, c2, h4⟩
    have c1 := Lib.hid (c1.out.below h4)
    have c2 := Lib.hid c2
    have h4 := Lib.hid (h3.out.trans (h4.mono h3.out.size))
    go_wp2_with fail
    refine (HA.out w4).mono ?_
    rintro e w5 ⟨rfl, h5⟩
    have c1 := Lib.hid (c1.out.below h5)
    have c2 := Lib.hid (c2.out.below h5)
    have h5 := Lib.hid (h4.out.trans (h5.mono h4.out.size))
    go_wp2_with fail
    refine (texts_same c1.out c2.out Hlen.out).mono ?_
    rintro e w6 ⟨rfl, h6⟩
    have h6 := Lib.hid (h5.out.trans (h6.mono h5.out.size))
    go_wp2_with fail
    go_ret
    exact ⟨rfl, h6.out⟩
  · have hb : decide ((2000 : Int) < (s.size : Int)) = true := by simp; omega
    have hb2 : (2000 < s.size) := by omega
    have hb3 : ((2000 : Int) < (s.size : Int)) := by omega
    clear H hs
    go_enter Try.func4, Try.ntmps4
    go_wp2_with fail
    refine (HA.out w).mono ?_
    rintro e w2 ⟨rfl, h2⟩
    have h2 := Lib.hid h2
    go_wp2_with fail
    go_ret
    exact ⟨rfl, h2.out⟩
end Go.Proofs.Ytlccbebociknaaa
