/- The package frame as it landed: First. -/
import Derived.Test.YtlccbebociknaaaFrmOk
import Derived.Test.YtlccbebociknaaaCopy
import Derived.Test.YtlccbebociknaaaCrcOk
namespace Go.Proofs.Ytlccbebociknaaa
open Go.ChangeShapes Go.WideShapes Go.ChangeAt Go.RowKit Go.Deep

theorem stepT_ok (S : List UInt8) (h : (Leb.second S).2.2 = 0) : stepT S 0 = ((Leb.second S).1, S.drop (Leb.second S).2.1, 0) := by simp [stepT, h]
theorem stepT_bad (S : List UInt8) (h : (Leb.second S).2.2 ≠ 0) : stepT S 0 = ([], [], (Leb.second S).2.2) := by simp [stepT, h]

set_option maxRecDepth 100000 in
set_option maxHeartbeats 1600000 in
/-- Where there is a text at the front. -/
theorem first_some {s t rest four : ByteArray} {k m : Nat} {x : Int} (w : World) (hs : s.size ≤ 65536)
    (hT : ∀ (W : World) (b : Nat), RdL W b s.data.toList 0 → Calls Try.prog 22 #[.pointer (some ⟨b, 0, none⟩)] W fun e w' => e = .returned (.string t) ∧ Rd w' b rest 0 ∧ W.grownBy w' (some b))
    (hC : ∀ W : World, Calls Try.prog 25 #[.string t, .string four] W fun e w' => e = .returned (.int .i64 x) ∧ Below W.heap.size W w')
    (hrest : s.extract k s.size = rest) (hk : k ≤ s.size) (hr : rest.size = s.size - k) (hm : m = min 4 rest.size) (hfour : rest.extract 0 m = four) :
    Calls Try.prog 12 #[.string s] w fun e w' => e = .returned (.tuple (if x = 0 then #[.string t, .int .i64 (k + 4 : Nat), .int .i64 0] else #[.string (mk []), .int .i64 0, .int .i64 x])) ∧ Below w.heap.size w w' := by
  have hsub : (s.size : Int) - (rest.size : Int) = (k : Int) := by omega
  have hk0 : (k : Int) ≤ (s.size : Int) := by omega
  have hrs : (rest.size : Int) ≤ 65536 := by omega
  have hss : (s.size : Int) ≤ 65536 := by omega
  have hmm : m ≤ rest.size := by omega
  have hmi : (m : Int) ≤ (rest.size : Int) := by omega
  have hmin : min (4 : Int) (rest.size : Int) = (m : Int) := by omega
  have hm0 : (0 : Int) ≤ (m : Int) := by omega
  have h5 : (4 : Int) ≤ (rest.size : Int) ∧ m = 4 ∨ (rest.size : Int) < 4 ∧ m = rest.size := by omega
  have HT := Lib.hid hT
  have HC := Lib.hid hC
  clear hT hC hs hr hm
  by_cases hx : x = 0
  · subst hx
    rw [if_pos rfl]
    rcases h5 with ⟨h5, rfl⟩ | ⟨h5, rfl⟩
    all_goals
      go_enter Try.func12, Try.ntmps12
      go_wp2_with (first
        | (go_at_call 21; refine (over_any _ _).mono ?_; rintro e w1 ⟨rfl, h1, hb1⟩)
        | (go_at_call 22; refine (HT.out _ _ h1).mono ?_; rintro e w2 ⟨rfl, h2, hb2⟩)
        | (go_at_call 23; refine (err_any h2).mono ?_; rintro e w' ⟨rfl, rfl⟩)
        | (go_at_call 24; refine (left_any h2).mono ?_; rintro e w' ⟨rfl, rfl⟩)
        | (go_at_call 25; refine (HC.out _).mono ?_; rintro e w3 ⟨rfl, hb3⟩))
      go_ret3
      have z1 := hb1.size
      have z2 := hb2.size
      exact ⟨rfl, (hb1.trans (below_gb hb2 (Nat.le_refl _) z1)).trans (hb3.mono (by omega))⟩
  · rw [if_neg hx]
    have hb : (x != 0) = true := by simp [hx]
    clear hx
    rcases h5 with ⟨h5, rfl⟩ | ⟨h5, rfl⟩
    all_goals
      go_enter Try.func12, Try.ntmps12
      go_wp2_with (first
        | (go_at_call 21; refine (over_any _ _).mono ?_; rintro e w1 ⟨rfl, h1, hb1⟩)
        | (go_at_call 22; refine (HT.out _ _ h1).mono ?_; rintro e w2 ⟨rfl, h2, hb2⟩)
        | (go_at_call 23; refine (err_any h2).mono ?_; rintro e w' ⟨rfl, rfl⟩)
        | (go_at_call 24; refine (left_any h2).mono ?_; rintro e w' ⟨rfl, rfl⟩)
        | (go_at_call 25; refine (HC.out _).mono ?_; rintro e w3 ⟨rfl, hb3⟩))
      go_ret3
      have z1 := hb1.size
      have z2 := hb2.size
      exact ⟨rfl, (hb1.trans (below_gb hb2 (Nat.le_refl _) z1)).trans (hb3.mono (by omega))⟩

set_option maxRecDepth 100000 in
set_option maxHeartbeats 1600000 in
theorem frm_first (HC : CrcOk) (s : ByteArray) (w : World) (hs : s.size ≤ 65536) :
    Calls Try.prog 12 #[.string s] w (FirstIs (Frm.first s.data.toList).1 (Frm.first s.data.toList).2.1 (Frm.first s.data.toList).2.2 w) := by
  have hss : s.data.toList.length = s.size := (Lib.size_eq s).symm
  by_cases he : (Leb.second s.data.toList).2.2 = 0
  · obtain ⟨g1, g2, g3, g4⟩ := Frm.second_only s.data.toList (Leb.second s.data.toList).1 (Leb.second s.data.toList).2.1 (by rw [← he])
    have ht := stepT_ok s.data.toList he
    have hT : ∀ (W : World) (b : Nat), RdL W b s.data.toList 0 → Calls Try.prog 22 #[.pointer (some ⟨b, 0, none⟩)] W fun e w' => e = .returned (.string (mk (Leb.second s.data.toList).1)) ∧ Rd w' b (mk (s.data.toList.drop (Leb.second s.data.toList).2.1)) 0 ∧ W.grownBy w' (some b) := by
      intro W b hW
      have := t_any hW (by omega)
      rw [ht] at this
      exact this
    have hlt : (Leb.second s.data.toList).1.length ≤ 65536 := by omega
    have hC := fun (four : ByteArray) (W : World) => HC.check (mk (Leb.second s.data.toList).1) four W (by rw [mk_len]; omega)
    have hrest : s.extract (Leb.second s.data.toList).2.1 s.size = mk (s.data.toList.drop (Leb.second s.data.toList).2.1) := bytes_ext (by rw [Lib.extract_data, mk_data, ← hss, ← List.length_drop, List.take_length])
    have hfour : (mk (s.data.toList.drop (Leb.second s.data.toList).2.1)).extract 0 (min 4 (mk (s.data.toList.drop (Leb.second s.data.toList).2.1)).size) = mk ((s.data.toList.drop (Leb.second s.data.toList).2.1).take 4) := bytes_ext (by
      rw [Lib.extract_data, mk_data, mk_data, mk_len, List.drop_zero, Nat.sub_zero]
      rcases Nat.le_total 4 (s.data.toList.drop (Leb.second s.data.toList).2.1).length with h | h
      · rw [Nat.min_eq_left h]
      · rw [Nat.min_eq_right h, List.take_length, List.take_of_length_le h])
    have hlen : (mk (s.data.toList.drop (Leb.second s.data.toList).2.1)).size = s.size - (Leb.second s.data.toList).2.1 := by rw [mk_len, List.length_drop, hss]
    refine (first_some w hs hT (hC _) hrest (by omega) hlen rfl hfour).mono ?_
    rintro e w' ⟨rfl, hb⟩
    refine ⟨?_, hb⟩
    have hcheck : checkOf (mk (Leb.second s.data.toList).1) (mk ((s.data.toList.drop (Leb.second s.data.toList).2.1).take 4)) = if s.data.toList.length - (Leb.second s.data.toList).2.1 < 4 then 5 else if (s.data.toList.drop (Leb.second s.data.toList).2.1).take 4 = Frm.sumOf (Leb.second s.data.toList).1 then 0 else 7 := by
      unfold checkOf
      rw [mk_len, mk_data, mk_data, List.length_take, List.length_drop]
      by_cases h4 : s.data.toList.length - (Leb.second s.data.toList).2.1 < 4
      · rw [if_neg (by omega), if_pos h4]
      · rw [if_pos (by omega), if_neg h4]
        rfl
    rw [hcheck]
    unfold Frm.first
    rw [if_pos he]
    by_cases h4 : s.data.toList.length - (Leb.second s.data.toList).2.1 < 4
    · rw [if_pos h4, if_pos h4]
      rfl
    · rw [if_neg h4, if_neg h4]
      by_cases hq : (s.data.toList.drop (Leb.second s.data.toList).2.1).take 4 = Frm.sumOf (Leb.second s.data.toList).1
      · rw [if_pos hq, if_pos hq]
        rfl
      · rw [if_neg hq, if_neg hq]
        rfl
  · have hfin : Hid (Frm.first s.data.toList = ([], 0, (Leb.second s.data.toList).2.2)) := by
      unfold Frm.first
      rw [if_neg he]; rfl
    have hb : ((Leb.second s.data.toList).2.2 != 0) = true := by simp [he]
    have ht := stepT_bad s.data.toList he
    have hT : Hid (∀ (W : World) (b : Nat), RdL W b s.data.toList 0 → Calls Try.prog 22 #[.pointer (some ⟨b, 0, none⟩)] W fun e w' => e = .returned (.string (mk [])) ∧ Rd w' b (mk []) (Leb.second s.data.toList).2.2 ∧ W.grownBy w' (some b)) := Lib.hid (by
      intro W b hW
      have := t_any hW (by omega)
      rw [ht] at this
      exact this)
    clear ht he
    generalize (Leb.second s.data.toList).2.2 = x at *
    go_enter Try.func12, Try.ntmps12
    go_wp2_with (first
      | (go_at_call 21; refine (over_any _ _).mono ?_; rintro e w1 ⟨rfl, h1, hb1⟩)
      | (go_at_call 22; refine (hT.out _ _ h1).mono ?_; rintro e w2 ⟨rfl, h2, hb2⟩)
      | (go_at_call 23; refine (err_any h2).mono ?_; rintro e w' ⟨rfl, rfl⟩))
    go_ret3
    have z1 := hb1.size
    exact ⟨by rw [hfin.out]; rfl, hb1.trans (below_gb hb2 (Nat.le_refl _) z1)⟩
end Go.Proofs.Ytlccbebociknaaa
