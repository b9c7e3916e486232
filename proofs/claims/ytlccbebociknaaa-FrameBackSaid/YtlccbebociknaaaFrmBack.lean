/- FrameBack's walk, out of FrameOk. -/
import Derived.Test.YtlccbebociknaaaFrmLays
namespace Go.Proofs.Ytlccbebociknaaa
open Go.RowKit

/-- What is read of few bytes is few and short. -/
theorem Frm.read_small (s : List UInt8) (n : Nat) (hs : s.length ≤ n) : (Frm.read s).1.length ≤ n ∧ ∀ t ∈ (Frm.read s).1, t.length ≤ n := by
  by_cases he : (Frm.read s).2 = 0
  · have h1 := Frm.read_only s (Frm.read s).1 (by rw [← he])
    have h2 := congrArg List.length h1
    have h3 : ∀ l : List (List UInt8), l.length ≤ (Frm.all l).length ∧ ∀ t ∈ l, t.length ≤ (Frm.all l).length := fun l => by
      induction l with
      | nil => exact ⟨Nat.zero_le _, fun t h => by cases h⟩
      | cons t l ih =>
        have := Frm.one_pos t
        have h5 := Frm.one_len t
        rw [Frm.all_cons, List.length_append, List.length_cons]
        refine ⟨by omega, fun x hx => ?_⟩
        rcases List.mem_cons.1 hx with rfl | hx
        · omega
        · have := ih.2 x hx; omega
    obtain ⟨h4, h5⟩ := h3 (Frm.read s).1
    exact ⟨by omega, fun t ht => by have := h5 t ht; omega⟩
  · rw [Frm.read_none _ he]
    exact ⟨Nat.zero_le _, fun t h => by cases h⟩

set_option maxRecDepth 100000 in
set_option maxHeartbeats 1600000 in
theorem back_heavy (H : FrameOk) {w : World} {F : Nat → Prop} {v : Value} {l : List (List UInt8)} (h : Cells w F v (texts l)) (hl : l.length ≤ 9223372036854775807) (s : ByteArray) (hh : ¬ (Light l ∧ s.size ≤ 2000)) :
    Calls Try.prog 5 #[v, .string s] w fun e w' => e = .returned (.bool true) ∧ Below w.heap.size w w' := by
  have hlight := Lib.hid (light_any h hl)
  have haw := fun W => frm_awake H W
  have HA := Lib.hid haw
  clear haw
  by_cases hL : Light l
  · have hd : decide (Light l) = true := decide_eq_true hL
    have hb2 : (2000 < s.size) := by
      rcases Nat.lt_or_ge 2000 s.size with h | h
      · exact h
      · exact absurd ⟨hL, h⟩ hh
    have hb3 : ((2000 : Int) < (s.size : Int)) := by omega
    have hb : decide ((2000 : Int) < (s.size : Int)) = true := by simp; omega
    rw [hd] at hlight
    clear hL hd h H hl hh
    go_enter Try.func5, Try.ntmps5
    go_wp2_with fail
    refine hlight.out.mono ?_
    rintro e w0 ⟨rfl, rfl⟩
    go_wp2_with fail
    refine (HA.out w0).mono ?_
    rintro e w2 ⟨rfl, h2⟩
    have h2 := Lib.hid h2
    go_wp2_with fail
    go_ret
    exact ⟨rfl, h2.out⟩
  · have hd : decide (Light l) = false := decide_eq_false hL
    rw [hd] at hlight
    clear hL hd h H hl hh
    go_enter Try.func5, Try.ntmps5
    go_wp2_with fail
    refine hlight.out.mono ?_
    rintro e w0 ⟨rfl, rfl⟩
    go_wp2_with fail
    refine (HA.out w0).mono ?_
    rintro e w2 ⟨rfl, h2⟩
    have h2 := Lib.hid h2
    go_wp2_with fail
    go_ret
    exact ⟨rfl, h2.out⟩

set_option maxRecDepth 100000 in
set_option maxHeartbeats 3200000 in
theorem back_light (H : FrameOk) {w : World} {F : Nat → Prop} {v : Value} {l : List (List UInt8)} (h : Cells w F v (texts l)) (hL : Light l) (s : ByteArray) (hs : s.size ≤ 2000) :
    Calls Try.prog 5 #[v, .string s] w fun e w' => e = .returned (.bool true) ∧ Below w.heap.size w w' := by
  have hl40 := hL.2
  have hlight := light_any h (by omega)
  rw [decide_eq_true hL] at hlight
  have hlight := Lib.hid hlight
  have haw := fun W => frm_awake H W
  have HA := Lib.hid haw
  clear haw
  have hb2 : ¬ (2000 < s.size) := by omega
  have hb3 : ¬ ((2000 : Int) < (s.size : Int)) := by omega
  have hb : decide ((2000 : Int) < (s.size : Int)) = false := by simp; omega
  have hla := light_all hL
  have k2 : ∀ t ∈ l, t.length ≤ 131072 := fun t ht => by have := hL.1 t ht; omega
  have hlay := H.lay h (by omega) (fun t ht => by have := k2 t ht; omega)
  rw [if_pos (by omega)] at hlay
  have hread : ∀ W, Calls Try.prog 14 #[.string (mk (Frm.all l))] W fun e w' => ∃ v, e = .returned (.tuple #[v, .int .i64 0]) ∧ Cells w' (NewIn W w') v (texts l) ∧ Below W.heap.size W w' := fun W => by
    have h := H.read (mk (Frm.all l)) W (by rw [mk_len]; omega)
    rw [mk_data, Frm.read_all l (fun t ht => by have := hL.1 t ht; omega)] at h
    exact h
  have hrd := fun W => H.read s W (by omega)
  have hsl : s.data.toList.length ≤ 2000 := by rw [← Lib.size_eq]; exact hs
  have Hl := Lib.hid (show l.length ≤ 1000000 by omega)
  have HL := Lib.hid hlay
  have HR := Lib.hid hread
  have Hc := Lib.hid h
  by_cases he : (Frm.read s.data.toList).2 = 0
  · have honly := Frm.read_only s.data.toList (Frm.read s.data.toList).1 (by rw [← he])
    have hrs : (Frm.read s.data.toList).1.length ≤ 1000 := by
      have h5 : ∀ l : List (List UInt8), 5 * l.length ≤ (Frm.all l).length := fun l => by
        induction l with
        | nil => exact Nat.zero_le _
        | cons t l ih => have := Frm.one_pos t; rw [Frm.all_cons, List.length_append, List.length_cons]; omega
      have h6 := h5 (Frm.read s.data.toList).1
      rw [honly] at h6
      omega
    have hrt := (Frm.read_small s.data.toList 2000 hsl).2
    have hlay2 : ∀ (W : World) (G : Nat → Prop) (u : Value), Cells W G u (texts (Frm.read s.data.toList).1) → Calls Try.prog 9 #[u] W fun e w' => e = .returned (.tuple #[.string s, .int .i64 0]) ∧ Below W.heap.size W w' := fun W G u hu => by
      have := H.lay hu (by omega) (fun t ht => by have := hrt t ht; omega)
      rw [honly, if_pos (by omega), mk_of] at this
      exact this
    rw [he] at hrd
    have HD := Lib.hid hrd
    have HL2 := Lib.hid hlay2
    have hss : (s.toList == s.toList) = true := beq_self_eq_true _
    clear hlay hread hrd hlay2 hrs hrt honly he hla k2 hL hl40 h H hsl hs
    generalize mk (Frm.all l) = a at *
    generalize (Frm.read s.data.toList).1 = m at *
    go_enter Try.func5, Try.ntmps5
    go_wp2_with fail
    refine hlight.out.mono ?_
    rintro e w0 ⟨rfl, rfl⟩
    go_wp2_with fail
    refine HL.out.mono ?_
    rintro e w1 ⟨rfl, h1⟩
    have h1 := Lib.hid h1
    go_wp2_with fail
    refine (HR.out w1).mono ?_
    rintro e w2 ⟨v1, rfl, c1, h2⟩
    have c1 := Lib.hid c1
    have h2 := Lib.hid (h1.out.trans (h2.mono h1.out.size))
    go_wp2_with fail
    refine (texts_same c1.out (Hc.out.below h2.out) Hl.out).mono ?_
    rintro e w3 ⟨rfl, h3⟩
    have h3 := Lib.hid (h2.out.trans (h3.mono h2.out.size))
    go_wp2_with fail
    refine (HD.out w3).mono ?_
    rintro e w4 ⟨v2, rfl, c2, h4⟩
    have c2 := Lib.hid c2
    have h4 := Lib.hid (h3.out.trans (h4.mono h3.out.size))
    go_wp2_with fail
    refine (HL2.out w4 _ v2 c2.out).mono ?_
    rintro e w5 ⟨rfl, h5⟩
    have h5 := Lib.hid (h4.out.trans (h5.mono h4.out.size))
    go_wp2_with fail
    refine (HA.out w5).mono ?_
    rintro e w6 ⟨rfl, h6⟩
    have h6 := Lib.hid (h5.out.trans (h6.mono h5.out.size))
    go_wp2_with fail
    go_ret
    exact ⟨rfl, h6.out⟩
  · have hnone := Frm.read_none _ he
    rw [hnone] at hrd
    have hne : ((Frm.read s.data.toList).2 != 0) = true := by simp [he]
    have HD := Lib.hid hrd
    clear hlay hread hrd hla k2 hL hl40 h H hsl hs hnone
    generalize mk (Frm.all l) = a at *
    generalize (Frm.read s.data.toList).2 = y at *
    go_enter Try.func5, Try.ntmps5
    go_wp2_with fail
    refine hlight.out.mono ?_
    rintro e w0 ⟨rfl, rfl⟩
    go_wp2_with fail
    refine HL.out.mono ?_
    rintro e w1 ⟨rfl, h1⟩
    have h1 := Lib.hid h1
    go_wp2_with fail
    refine (HR.out w1).mono ?_
    rintro e w2 ⟨v1, rfl, c1, h2⟩
    have c1 := Lib.hid c1
    have h2 := Lib.hid (h1.out.trans (h2.mono h1.out.size))
    go_wp2_with fail
    refine (texts_same c1.out (Hc.out.below h2.out) Hl.out).mono ?_
    rintro e w3 ⟨rfl, h3⟩
    have h3 := Lib.hid (h2.out.trans (h3.mono h2.out.size))
    go_wp2_with fail
    refine (HD.out w3).mono ?_
    rintro e w4 ⟨v2, rfl, c2, h4⟩
    obtain ⟨A2, cap2, rfl, -, -⟩ := c2
    have h4 := Lib.hid (h3.out.trans (h4.mono h3.out.size))
    go_wp2_with fail
    refine (HA.out w4).mono ?_
    rintro e w6 ⟨rfl, h6⟩
    have h6 := Lib.hid (h4.out.trans (h6.mono h4.out.size))
    go_wp2_with fail
    go_ret
    exact ⟨rfl, h6.out⟩
end Go.Proofs.Ytlccbebociknaaa
