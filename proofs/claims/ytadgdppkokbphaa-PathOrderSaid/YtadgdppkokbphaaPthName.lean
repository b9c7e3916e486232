/- The document's own answers of layer 7: Name, Right. -/
import Derived.Test.YtadgdppkokbphaaPthRef
namespace Go.Proofs.Ytadgdppkokbphaa
open Go.RowKit

set_option maxRecDepth 100000 in
theorem char_cases (n : Nat) (h : n < 256) : n = 46 ∨ (97 ≤ n ∧ n ≤ 122) ∨ (48 ≤ n ∧ n ≤ 57) ∨ n = 45 ∨ n = 95 ∨ n < 45 ∨ n = 47 ∨ (57 < n ∧ n < 95) ∨ n = 96 ∨ 122 < n := by omega

set_option maxRecDepth 100000 in
set_option maxHeartbeats 6400000 in
theorem ref_name (s : List UInt8) (w : World) (hs : s.length ≤ 100000) :
    Calls Try.prog 14 #[.string (mk s)] w fun e w' => e = .returned (.bool (decide (Pth.Name s))) ∧ Below w.heap.size w w' := by
  have ls : (mk s).size = s.length := mk_len s
  have hS : ((mk s).size : Int) ≤ 100000 := by rw [ls]; omega
  have Ls := Lib.hid ls
  clear ls
  generalize hxs : mk s = xs at *
  have Hxs := Lib.hid hxs
  go_enter Try.func14, Try.ntmps14
  go_wp2_with fail
  go_loopw [3, 4] (fun d i wr => ∃ k : Nat, k ≤ s.length ∧ i = .int .i64 (k : Int) ∧ d = .int .i64 (Pth.dots (s.take k) : Int) ∧ (∀ c ∈ s.take k, Pth.okChar c = true) ∧ Below w.heap.size w wr) (fun _ i _ => s.length - (intOf i).toNat)
  case atStart => exact ⟨0, Nat.zero_le _, rfl, rfl, by simp, Below.refl _ _⟩
  case round =>
    obtain ⟨k, hk, rfl, rfl, hall, hbel⟩ := hrel
    have hk0 : (0 : Int) ≤ (k : Int) := by omega
    have hdk : Pth.dots (s.take k) ≤ k := by
      have := List.countP_le_length (p := fun c : UInt8 => c.toNat == 46) (l := s.take k)
      rw [List.length_take] at this
      unfold Pth.dots; omega
    have Hall := Lib.hid hall
    have Hbel := Lib.hid hbel
    clear hall hbel
    by_cases hlt : k < s.length
    · have hk1 : (k : Int) < (xs.size : Int) := by have := Ls.out; omega
      obtain ⟨c, hc, ic⟩ := idx xs k (by have := Ls.out; omega)
      have hsc : s[k]? = some c := by rw [← hc, ← Hxs.out, mk_data]
      obtain ⟨hl, he⟩ := List.getElem?_eq_some_iff.1 hsc
      have htk : s.take (k + 1) = s.take k ++ [c] := by rw [List.take_succ_eq_append_getElem hl, he]
      have hdn : Hid (Pth.dots (s.take (k + 1)) = Pth.dots (s.take k) + (if c.toNat = 46 then 1 else 0)) := Lib.hid (by
        rw [htk]
        unfold Pth.dots
        rw [List.countP_append, List.countP_singleton]
        by_cases h : c.toNat = 46
        · rw [if_pos h, h]; rfl
        · rw [if_neg h, if_neg (by simpa using h)])
      have hgood : Hid (Pth.okChar c = true → ∀ x ∈ s.take (k + 1), Pth.okChar x = true) := Lib.hid (fun h x hx => by
        rw [htk, List.mem_append] at hx
        rcases hx with hx | hx
        · exact Hall.out x hx
        · rw [List.mem_singleton.1 hx]; exact h)
      have hbad : Hid (Pth.okChar c = false → decide (Pth.Name s) = false) := Lib.hid (fun h => decide_eq_false (fun m => by
        have := m.1 c (List.mem_of_getElem? hsc)
        rw [h] at this; cases this))
      have hok : Hid (Pth.okChar c = ((decide (97 ≤ c.toNat) && decide (c.toNat ≤ 122)) || (decide (48 ≤ c.toNat) && decide (c.toNat ≤ 57)) || c.toNat == 45 || c.toNat == 95 || c.toNat == 46)) := Lib.hid rfl
      have hc256 := c.toNat_lt
      have hd9 : ((Pth.dots (s.take k) : Nat) : Int) ≤ 100000 := by omega
      clear hc hsc htk he hl hdk
      generalize c.toNat = cn at *
      generalize Pth.dots (s.take k) = dk at *
      rcases char_cases cn hc256 with h | h | h | h | h | h | h | h | h | h
      all_goals
        first | (have e46 : ((cn : Int) == 46) = true := by rw [beq_iff_eq]; omega) | (have e46 : ((cn : Int) == 46) = false := by rw [beq_eq_false_iff_ne]; omega)
        first | (have d97 : decide ((97 : Int) ≤ (cn : Int)) = true := decide_eq_true (by omega)) | (have d97 : decide ((97 : Int) ≤ (cn : Int)) = false := decide_eq_false (by omega))
        first | (have d122 : decide ((cn : Int) ≤ 122) = true := decide_eq_true (by omega)) | (have d122 : decide ((cn : Int) ≤ 122) = false := decide_eq_false (by omega))
        first | (have d48 : decide ((48 : Int) ≤ (cn : Int)) = true := decide_eq_true (by omega)) | (have d48 : decide ((48 : Int) ≤ (cn : Int)) = false := decide_eq_false (by omega))
        first | (have d57 : decide ((cn : Int) ≤ 57) = true := decide_eq_true (by omega)) | (have d57 : decide ((cn : Int) ≤ 57) = false := decide_eq_false (by omega))
        first | (have e45 : ((cn : Int) == 45) = true := by rw [beq_iff_eq]; omega) | (have e45 : ((cn : Int) == 45) = false := by rw [beq_eq_false_iff_ne]; omega)
        first | (have e95 : ((cn : Int) == 95) = true := by rw [beq_iff_eq]; omega) | (have e95 : ((cn : Int) == 95) = false := by rw [beq_eq_false_iff_ne]; omega)
        first
          | (have hT : Hid (Pth.okChar c = true) := Lib.hid (by rw [hok.out]; simp; omega))
          | (have hF : Hid (Pth.okChar c = false) := Lib.hid (by rw [hok.out]; simp; omega))
        have HH := Lib.hid h
        clear h
        go_wp2_with fail
        first
          | (go_ret
             exact ⟨by rw [hbad.out hF.out]; rfl, Hbel.out⟩)
          | (refine ⟨⟨k + 1, by omega, rfl, ?_, hgood.out hT.out, Hbel.out⟩, ?_⟩
             · rw [hdn.out]
               first
                 | (rw [if_pos (by have := HH.out; omega)]; rfl)
                 | (rw [if_neg (by have := HH.out; omega)]; rfl)
             · show s.length - ((k : Int) + 1).toNat < s.length - (k : Int).toNat
               omega)
    · obtain rfl : k = s.length := by omega
      rw [List.take_length] at hdk ⊢
      have Hall2 := Lib.hid (show ∀ c ∈ s, Pth.okChar c = true from by have := Hall.out; rw [List.take_length] at this; exact this)
      have hk1 : ¬ (s.length : Int) < (xs.size : Int) := by have := Ls.out; omega
      have hcase : (decide ((1 : Int) ≤ (xs.size : Int)) = false ∧ Hid (decide (Pth.Name s) = false)) ∨ (decide ((1 : Int) ≤ (xs.size : Int)) = true ∧ decide ((xs.size : Int) ≤ 12) = false ∧ Hid (decide (Pth.Name s) = false)) ∨
          (decide ((1 : Int) ≤ (xs.size : Int)) = true ∧ decide ((xs.size : Int) ≤ 12) = true ∧ decide (Pth.dots s < xs.size) = false ∧ Hid (decide (Pth.Name s) = false)) ∨ (decide ((1 : Int) ≤ (xs.size : Int)) = true ∧ decide ((xs.size : Int) ≤ 12) = true ∧ decide (Pth.dots s < xs.size) = true ∧ Hid (decide (Pth.Name s) = true)) := by
        have e := Ls.out
        by_cases h1 : 1 ≤ s.length
        · by_cases h2 : s.length ≤ 12
          · by_cases h3 : Pth.dots s < s.length
            · exact Or.inr (Or.inr (Or.inr ⟨decide_eq_true (by omega), decide_eq_true (by omega), decide_eq_true (by omega), Lib.hid (decide_eq_true ⟨Hall2.out, h1, h2, h3⟩)⟩))
            · exact Or.inr (Or.inr (Or.inl ⟨decide_eq_true (by omega), decide_eq_true (by omega), decide_eq_false (by omega), Lib.hid (decide_eq_false (fun m => h3 m.2.2.2))⟩))
          · exact Or.inr (Or.inl ⟨decide_eq_true (by omega), decide_eq_false (by omega), Lib.hid (decide_eq_false (fun m => h2 m.2.2.1))⟩)
        · exact Or.inl ⟨decide_eq_false (by omega), Lib.hid (decide_eq_false (fun m => h1 m.2.1))⟩
      have hdl : ((Pth.dots s : Nat) : Int) ≤ 100000 := by omega
      clear hdk
      generalize Pth.dots s = dk at *
      rcases hcase with ⟨g1, hf⟩ | ⟨g1, g2, hf⟩ | ⟨g1, g2, g3, hf⟩ | ⟨g1, g2, g3, hf⟩
      all_goals
        go_wp2_with fail
        go_ret
        exact ⟨by rw [hf.out]; rfl, Hbel.out⟩
end Go.Proofs.Ytadgdppkokbphaa
