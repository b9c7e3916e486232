/- The landed path: Covers, Meet, Parent; a text parted at its first / (strings.Cut). -/
import Derived.Test.YtadgdppkokbphaaPthFit
import Derived.Test.YtadgdppkokbphaaTexts
import Derived.Test.YtadgdppkokbphaaShelf
import Derived.BigQuiet
set_option linter.unusedSimpArgs false
set_option linter.unusedVariables false
namespace Go.Proofs.Ytadgdppkokbphaa
open Go.RowKit

set_option maxRecDepth 100000 in
theorem extract_mk (l : List UInt8) (i j : Nat) : (mk l).extract i j = mk ((l.drop i).take (j - i)) := bytes_ext (by rw [Lib.extract_data, mk_data, mk_data])

def slashT : ByteArray := ⟨#[47]⟩

set_option maxRecDepth 100000 in
set_option maxHeartbeats 1600000 in
theorem lite_cut_no (s : List UInt8) (w : World) (hs : s.length ≤ 100000) (h : ∀ c ∈ s, c.toNat ≠ 47) :
    Calls Try.prog 27 #[.string (mk s), .string ⟨#[47]⟩] w fun e w' => e = .returned (.tuple #[.string (mk s), .string ⟨#[]⟩, .bool false]) ∧ Below w.heap.size w w' := by
  have hi : Lib.indexByte s 47 = -1 := by
    rcases Pth.index_cases s with ⟨h1, -⟩ | ⟨a, b, rfl, -, -⟩
    · exact h1
    · exact absurd rfl (h 47 (by simp))
  have HI := fun W => Try.stringslite_Index_one (mk s) 47 W
  rw [mk_data, hi] at HI
  have HI0 := HI
  clear HI
  have HI := Lib.hid HI0
  clear HI0
  clear h hi
  generalize mk s = x at *
  go_enter Try.func27, Try.ntmps27
  go_wp2_with (go_at_call 35; refine (HI.out _).mono ?_; rintro e w1 ⟨rfl, rfl⟩)
  go_ret3
  exact ⟨rfl, Below.refl _ _⟩

set_option maxRecDepth 100000 in
set_option maxHeartbeats 1600000 in
theorem lite_cut_at (a b : List UInt8) (w : World) (hs : (a ++ 47 :: b).length ≤ 100000) (h : ∀ c ∈ a, c.toNat ≠ 47) :
    Calls Try.prog 27 #[.string (mk (a ++ 47 :: b)), .string ⟨#[47]⟩] w fun e w' => e = .returned (.tuple #[.string (mk a), .string (mk b), .bool true]) ∧ Below w.heap.size w w' := by
  have hi : Lib.indexByte (a ++ 47 :: b) 47 = (a.length : Int) := by
    rcases Pth.index_cases (a ++ 47 :: b) with ⟨-, h2⟩ | ⟨a2, b2, e, h2, h3⟩
    · exact absurd rfl (h2 47 (by simp))
    · have : a2 = a := by
        rcases List.append_eq_append_iff.1 e with ⟨c, e1, e2⟩ | ⟨c, e1, e2⟩
        · cases c with
          | nil => simpa using e1
          | cons y c =>
            injection e2 with e2 e3
            exact absurd rfl (h2 47 (by rw [e1, e2]; simp))
        · cases c with
          | nil => simpa using e1.symm
          | cons y c =>
            injection e2 with e2 e3
            exact absurd rfl (h 47 (by rw [e1, e2]; simp))
      rw [h3, this]
  have HI := fun W => Try.stringslite_Index_one (mk (a ++ 47 :: b)) 47 W
  rw [mk_data, hi] at HI
  have HI0 := HI
  clear HI
  have HI := Lib.hid HI0
  clear HI0
  have hl : (mk (a ++ 47 :: b)).size = a.length + 1 + b.length := by rw [mk_len, List.length_append, List.length_cons]; omega
  have x1 : (mk (a ++ 47 :: b)).extract 0 a.length = mk a := by rw [extract_mk]; congr 1; simp
  have x2 : (mk (a ++ 47 :: b)).extract (a.length + 1) (mk (a ++ 47 :: b)).size = mk b := by
    rw [hl, extract_mk]; congr 1
    rw [List.drop_append, List.drop_eq_nil_of_le (by omega)]
    simp
  rw [List.length_append, List.length_cons] at hs
  have g0 : (0 : Int) ≤ (a.length : Int) := by omega
  have g1 : (a.length : Int) ≤ 100000 := by omega
  have g2 : (a.length : Int) ≤ ((mk (a ++ 47 :: b)).size : Int) := by omega
  have g3 : (a.length : Int) + 1 ≤ ((mk (a ++ 47 :: b)).size : Int) := by omega
  have g4 : ((mk (a ++ 47 :: b)).size : Int) ≤ 100001 := by omega
  have X1 := Lib.hid x1
  have X2 := Lib.hid x2
  clear h hi x1 x2 hl hs
  generalize mk (a ++ 47 :: b) = x at *
  generalize mk a = y at *
  generalize mk b = z at *
  generalize a.length = n at *
  go_enter Try.func27, Try.ntmps27
  go_wp2_with (go_at_call 35; refine (HI.out _).mono ?_; rintro e w1 ⟨rfl, rfl⟩)
  go_quiet (fail)
  go_wp2_with fail
  go_ret3
  exact ⟨by show Ending.returned (.tuple #[.string (x.extract 0 n), .string (x.extract (n + 1) x.size), .bool true]) = _; rw [X1.out, X2.out], below_drews' _ _⟩

set_option maxRecDepth 100000 in
set_option maxHeartbeats 1600000 in
theorem cut_no (s : List UInt8) (w : World) (hs : s.length ≤ 100000) (h : ∀ c ∈ s, c.toNat ≠ 47) :
    Calls Try.prog 20 #[.string (mk s), .string ⟨#[47]⟩] w fun e w' => e = .returned (.tuple #[.string (mk s), .string ⟨#[]⟩, .bool false]) ∧ Below w.heap.size w w' := by
  have HI := Lib.hid (fun W => lite_cut_no s W hs h)
  clear h hs
  generalize mk s = x at *
  go_enter Try.func20, Try.ntmps20
  go_wp2_with (go_at_call 27; refine (HI.out _).mono ?_; rintro e w1 ⟨rfl, hb⟩)
  go_ret3
  exact ⟨rfl, hb⟩

set_option maxRecDepth 100000 in
set_option maxHeartbeats 1600000 in
theorem cut_at (a b : List UInt8) (w : World) (hs : (a ++ 47 :: b).length ≤ 100000) (h : ∀ c ∈ a, c.toNat ≠ 47) :
    Calls Try.prog 20 #[.string (mk (a ++ 47 :: b)), .string ⟨#[47]⟩] w fun e w' => e = .returned (.tuple #[.string (mk a), .string (mk b), .bool true]) ∧ Below w.heap.size w w' := by
  have HI := Lib.hid (fun W => lite_cut_at a b W hs h)
  clear h hs
  generalize mk (a ++ 47 :: b) = x at *
  generalize mk a = y at *
  generalize mk b = z at *
  go_enter Try.func20, Try.ntmps20
  go_wp2_with (go_at_call 27; refine (HI.out _).mono ?_; rintro e w1 ⟨rfl, hb⟩)
  go_ret3
  exact ⟨rfl, hb⟩

set_option maxRecDepth 100000 in
theorem hasp (s p : List UInt8) : Lib.hasPrefix s p = decide (p.length ≤ s.length ∧ s.take p.length = p) := by
  unfold Lib.hasPrefix
  rw [Bool.eq_iff_iff, List.isPrefixOf_iff_prefix, decide_eq_true_eq, List.prefix_iff_eq_take]
  constructor
  · intro h; exact ⟨by have := congrArg List.length h; rw [List.length_take] at this; omega, h.symm⟩
  · intro h; exact h.2.symm

set_option maxRecDepth 100000 in
theorem hasp_slash (s : List UInt8) : Lib.hasPrefix s [47] = decide (s[0]? = some 47) := by
  cases s with
  | nil => rfl
  | cons c s =>
    show (47 == c && true) = _
    rw [Bool.and_true, Bool.eq_iff_iff, beq_iff_eq, decide_eq_true_eq]
    simp [eq_comm]

set_option maxRecDepth 100000 in
set_option maxHeartbeats 1600000 in
theorem pth_covers (a b : List UInt8) (w : World) :
    Calls Try.prog 17 #[.string (mk a), .string (mk b)] w fun e w' => e = .returned (.bool (decide (Pth.Covers a b))) ∧ Below w.heap.size w w' := by
  have ia : (mk a).toList.isEmpty = decide (a = []) := by rw [Lib.toList_data, mk_data]; cases a <;> rfl
  have ea : ((mk a).toList == []) = decide (a = []) := by rw [Lib.toList_data, mk_data]; cases a <;> rfl
  have eb : ((mk a).toList == (mk b).toList) = decide (a = b) := by
    rw [Lib.toList_data, Lib.toList_data, mk_data, mk_data]
    by_cases h : a = b
    · rw [h, decide_eq_true rfl]; exact beq_self_eq_true _
    · rw [decide_eq_false h, beq_eq_false_iff_ne]; exact h
  by_cases h1 : a = []
  · have hc : Hid (decide (Pth.Covers a b) = true) := Lib.hid (decide_eq_true (Or.inl h1))
    rw [decide_eq_true h1] at ia ea
    clear h1 eb
    generalize mk a = x at *
    generalize mk b = y at *
    go_enter Try.func17, Try.ntmps17
    go_wp2_with fail
    go_ret
    exact ⟨by rw [hc.out]; rfl, Below.refl _ _⟩
  · rw [decide_eq_false h1] at ia ea
    by_cases h2 : a = b
    · have hc : Hid (decide (Pth.Covers a b) = true) := Lib.hid (decide_eq_true (Or.inr (Or.inl h2)))
      rw [decide_eq_true h2] at eb
      clear h1 h2
      generalize mk a = x at *
      generalize mk b = y at *
      go_enter Try.func17, Try.ntmps17
      go_wp2_with fail
      go_ret
      exact ⟨by rw [hc.out]; rfl, Below.refl _ _⟩
    · rw [decide_eq_false h2] at eb
      have hcov : Pth.Covers a b ↔ (a.length < b.length ∧ b.take a.length = a ∧ b[a.length]? = some 47) := by
        unfold Pth.Covers
        exact ⟨fun k => (k.resolve_left h1).resolve_left h2, fun k => Or.inr (Or.inr k)⟩
      have HP := fun W => Try.strings_CutPrefix (mk b) (mk a) W
      rw [mk_data, mk_data] at HP
      have hh := hasp b a
      unfold Lib.trimPrefix at HP
      by_cases h3 : a.length ≤ b.length ∧ b.take a.length = a
      · rw [decide_eq_true h3] at hh
        have HP : Hid (∀ W, Calls Try.prog 22 #[.string (mk b), .string (mk a)] W fun e w' => e = .returned (.tuple #[.string (mk (b.drop a.length)), .bool true]) ∧ w' = W) := Lib.hid (fun W => by
          have := HP W
          rw [hh, if_pos rfl] at this
          exact this)
        have HH := fun W => Try.strings_HasPrefix (mk (b.drop a.length)) ⟨#[47]⟩ W
        rw [mk_data] at HH
        have h47 : Lib.hasPrefix (b.drop a.length) [47] = decide (Pth.Covers a b) := by
          rw [hasp_slash, List.getElem?_drop, Nat.add_zero, decide_eq_decide, hcov]
          constructor
          · intro h
            have := (List.getElem?_eq_some_iff.1 h).1
            exact ⟨this, h3.2, h⟩
          · intro h; exact h.2.2
        have HH : Hid (∀ W, Calls Try.prog 23 #[.string (mk (b.drop a.length)), .string ⟨#[47]⟩] W fun e w' => e = .returned (.bool (decide (Pth.Covers a b))) ∧ w' = W) := Lib.hid (fun W => by
          have := HH W
          rw [show (⟨#[47]⟩ : ByteArray).data.toList = [47] from rfl, h47] at this
          exact this)
        clear h47 hh h3 hcov h1 h2
        generalize decide (Pth.Covers a b) = R at *
        generalize mk (b.drop a.length) = z at *
        generalize mk a = x at *
        generalize mk b = y at *
        go_enter Try.func17, Try.ntmps17
        go_wp2_with (first
          | (go_at_call 22; with_reducible refine (HP.out _).mono ?_; rintro e w1 ⟨rfl, rfl⟩)
          | (go_at_call 23; with_reducible refine (HH.out _).mono ?_; rintro e w1 ⟨rfl, rfl⟩))
        go_ret
        exact ⟨rfl, Below.refl _ _⟩
      · rw [decide_eq_false h3] at hh
        have HP : Hid (∀ W, Calls Try.prog 22 #[.string (mk b), .string (mk a)] W fun e w' => e = .returned (.tuple #[.string (mk b), .bool false]) ∧ w' = W) := Lib.hid (fun W => by
          have := HP W
          rw [hh, if_neg (by decide)] at this
          exact this)
        have hc : Hid (decide (Pth.Covers a b) = false) := Lib.hid (decide_eq_false (fun k => h3 (by have := hcov.1 k; exact ⟨by omega, this.2.1⟩)))
        clear hh h3 hcov h1 h2
        generalize mk a = x at *
        generalize mk b = y at *
        go_enter Try.func17, Try.ntmps17
        go_wp2_with (go_at_call 22; refine (HP.out _).mono ?_; rintro e w1 ⟨rfl, rfl⟩)
        go_ret
        exact ⟨by rw [hc.out]; rfl, Below.refl _ _⟩

set_option maxRecDepth 100000 in
set_option maxHeartbeats 1600000 in
theorem pth_meet (a b : List UInt8) (w : World) (ha : a.length ≤ 100000) (hb : b.length ≤ 100000) :
    Calls Try.prog 15 #[.string (mk a), .string (mk b)] w fun e w' => e = .returned (.tuple #[.string (mk (Pth.meet a b).1), .bool (Pth.meet a b).2]) ∧ Below w.heap.size w w' := by
  have la : ((mk a).size : Int) ≤ 100000 := by rw [mk_len]; omega
  have lb : ((mk b).size : Int) ≤ 100000 := by rw [mk_len]; omega
  by_cases h : b.length < a.length
  · have g : decide ((mk b).size < (mk a).size) = true := by rw [mk_len, mk_len]; exact decide_eq_true (by omega)
    have HC0 := fun W => pth_covers b a W
    have hn : ¬ Pth.Covers a b := fun k => by have := Pth.covers_len k; omega
    by_cases hc : Pth.Covers b a
    · have hm : Hid (Pth.meet a b = (a, true)) := Lib.hid (by unfold Pth.meet; rw [if_neg hn, if_pos hc])
      rw [decide_eq_true hc] at HC0
      have HC := Lib.hid HC0
      rw [hm.out]
      simp only
      clear h hn hc hm ha hb HC0
      generalize mk a = x at *
      generalize mk b = y at *
      go_enter Try.func15, Try.ntmps15
      go_wp2_with (go_at_call 17; refine (HC.out _).mono ?_; rintro e w1 ⟨rfl, hb1⟩)
      go_ret2
      exact ⟨rfl, hb1⟩
    · have hm : Hid (Pth.meet a b = ([], false)) := Lib.hid (by unfold Pth.meet; rw [if_neg hn, if_neg hc])
      rw [decide_eq_false hc] at HC0
      have HC := Lib.hid HC0
      rw [hm.out]
      simp only
      clear h hn hc hm ha hb HC0
      generalize mk a = x at *
      generalize mk b = y at *
      go_enter Try.func15, Try.ntmps15
      go_wp2_with (go_at_call 17; refine (HC.out _).mono ?_; rintro e w1 ⟨rfl, hb1⟩)
      go_ret2
      exact ⟨rfl, hb1⟩
  · have g : decide ((mk b).size < (mk a).size) = false := by rw [mk_len, mk_len]; exact decide_eq_false (by omega)
    have HC0 := fun W => pth_covers a b W
    by_cases hc : Pth.Covers a b
    · have hm : Hid (Pth.meet a b = (b, true)) := Lib.hid (by unfold Pth.meet; rw [if_pos hc])
      rw [decide_eq_true hc] at HC0
      have HC := Lib.hid HC0
      rw [hm.out]
      simp only
      clear h hc hm ha hb HC0
      generalize mk a = x at *
      generalize mk b = y at *
      go_enter Try.func15, Try.ntmps15
      go_wp2_with (go_at_call 17; refine (HC.out _).mono ?_; rintro e w1 ⟨rfl, hb1⟩)
      go_ret2
      exact ⟨rfl, hb1⟩
    · have hm : Hid (Pth.meet a b = ([], false)) := Lib.hid (by
        unfold Pth.meet
        rw [if_neg hc, if_neg (fun k => ?_)]
        have hl := Pth.covers_len k
        rcases k with k | k | k
        · subst k
          have : a = [] := List.eq_nil_of_length_eq_zero (by simpa using h)
          exact hc (Or.inl this)
        · exact hc (Or.inr (Or.inl k.symm))
        · omega)
      rw [decide_eq_false hc] at HC0
      have HC := Lib.hid HC0
      rw [hm.out]
      simp only
      clear h hc hm ha hb HC0
      generalize mk a = x at *
      generalize mk b = y at *
      go_enter Try.func15, Try.ntmps15
      go_wp2_with (go_at_call 17; refine (HC.out _).mono ?_; rintro e w1 ⟨rfl, hb1⟩)
      go_ret2
      exact ⟨rfl, hb1⟩

set_option maxRecDepth 100000 in
set_option maxHeartbeats 1600000 in
theorem pth_parent (a : List UInt8) (w : World) (ha : a.length ≤ 100000) :
    Calls Try.prog 18 #[.string (mk a)] w fun e w' => e = .returned (.string (mk (Pth.parent a))) ∧ Below w.heap.size w w' := by
  have HL := fun W => Try.strings_LastIndex_one (mk a) ⟨#[47]⟩ rfl (by rw [mk_len]; omega) W
  have ls : (mk a).size = a.length := mk_len a
  rcases Pth.last_cases (mk a) with ⟨h1, h2⟩ | ⟨i, hi, h1, h2⟩
  · rw [mk_data] at h2
    have HL : Hid (∀ W, Calls Try.prog 24 #[.string (mk a), .string ⟨#[47]⟩] W fun e w' => e = .returned (.int .i64 (-1)) ∧ w' = W) := Lib.hid (fun W => (HL W).mono (fun e w' hh => ⟨by rw [hh.1]; exact congrArg (fun n => Ending.returned (.int .i64 n)) h1, hh.2⟩))
    rw [h2]
    have x1 : Hid ((mk a).extract 0 0 = mk []) := Lib.hid (by rw [extract_mk]; simp)
    have g4 : ((mk a).size : Int) ≤ 100000 := by omega
    clear h1 h2 ls
    generalize mk a = x at *
    go_enter Try.func18, Try.ntmps18
    go_wp2_with (go_at_call 24; refine (HL.out _).mono ?_; rintro e w1 ⟨rfl, rfl⟩)
    go_ret
    exact ⟨by show Ending.returned (.string (x.extract 0 (max (-1) 0 : Int).toNat)) = _; rw [show (max (-1) 0 : Int).toNat = 0 from rfl, x1.out], Below.refl _ _⟩
  · rw [mk_data] at h2
    have HL : Hid (∀ W, Calls Try.prog 24 #[.string (mk a), .string ⟨#[47]⟩] W fun e w' => e = .returned (.int .i64 (i : Int)) ∧ w' = W) := Lib.hid (fun W => (HL W).mono (fun e w' hh => ⟨by rw [hh.1]; exact congrArg (fun n => Ending.returned (.int .i64 n)) h1, hh.2⟩))
    rw [h2]
    have x1 : Hid ((mk a).extract 0 i = mk (a.take i)) := Lib.hid (by rw [extract_mk]; simp)
    have g1 : (0 : Int) ≤ (i : Int) := by omega
    have g2 : (i : Int) ≤ ((mk a).size : Int) := by omega
    have g4 : ((mk a).size : Int) ≤ 100000 := by omega
    clear h1 h2 ls hi
    generalize mk a = x at *
    go_enter Try.func18, Try.ntmps18
    go_wp2_with (go_at_call 24; refine (HL.out _).mono ?_; rintro e w1 ⟨rfl, rfl⟩)
    go_ret
    exact ⟨by rw [← x1.out]; rfl, Below.refl _ _⟩
end Go.Proofs.Ytadgdppkokbphaa
