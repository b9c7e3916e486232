/- The document's own answers of layer 7: Right. -/
import Derived.Test.YtadgdppkokbphaaPthName
namespace Go.Proofs.Ytadgdppkokbphaa
open Go.RowKit

set_option maxRecDepth 100000 in
theorem Pth.splitA_len (s : Tx) : ∀ cur, (splitA cur s).length ≤ s.length + 1 := by
  induction s with
  | nil => intro cur; simp [splitA]
  | cons c s ih =>
    intro cur
    unfold splitA
    split
    · simp only [List.length_cons]; have := ih []; omega
    · have := ih (cur ++ [c]); simp only [List.length_cons]; omega

set_option maxRecDepth 100000 in
theorem Pth.splitA_small (s : Tx) : ∀ cur, ∀ t ∈ splitA cur s, t.length ≤ cur.length + s.length := by
  induction s with
  | nil => intro cur t ht; simp [splitA] at ht; rw [ht]; simp
  | cons c s ih =>
    intro cur t ht
    unfold splitA at ht
    split at ht
    · rcases List.mem_cons.1 ht with rfl | ht
      · omega
      · have := ih [] t ht; simp only [List.length_cons, List.length_nil] at *; omega
    · have := ih (cur ++ [c]) t ht
      simp only [List.length_cons, List.length_append, List.length_nil] at *; omega

set_option maxRecDepth 100000 in
theorem Pth.split_len (s : Tx) : (split s).length ≤ s.length + 1 := splitA_len s []
set_option maxRecDepth 100000 in
theorem Pth.split_small {s t : Tx} (h : t ∈ split s) : t.length ≤ s.length := by have := splitA_small s [] t h; simpa using this

set_option maxRecDepth 100000 in
set_option maxHeartbeats 1600000 in
theorem ref_right (s : List UInt8) (w : World) (hs : s.length ≤ 100000) :
    Calls Try.prog 10 #[.string (mk s)] w fun e w' => e = .returned (.bool (decide (Pth.Right s))) ∧ Below w.heap.size w w' := by
  have HS := Lib.hid (ref_split s w hs)
  have HN : Hid (∀ t ∈ Pth.split s, ∀ W, Calls Try.prog 14 #[.string (mk t)] W fun e w' => e = .returned (.bool (decide (Pth.Name t))) ∧ Below W.heap.size W w') :=
    Lib.hid (fun t ht W => ref_name t W (by have := Pth.split_small ht; omega))
  have ls : (mk s).size = s.length := mk_len s
  have hll := Pth.split_len s
  have hR : decide (Pth.Right s) = true ↔ ((∀ t ∈ Pth.split s, Pth.Name t) ∧ s.length ≤ 40 ∧ (Pth.split s).length ≤ 6) := decide_eq_true_iff
  have HR := Lib.hid hR
  clear hR
  have Hlen := Lib.hid ls
  have hS : ((mk s).size : Int) ≤ 100000 := by rw [ls]; omega
  clear ls
  generalize decide (Pth.Right s) = R at *
  generalize Pth.split s = L at *
  generalize mk s = xs at *
  go_enter Try.func10, Try.ntmps10
  go_wp2_with (go_at_call 13; refine HS.out.mono ?_; rintro e w1 ⟨v, rfl, ⟨A, cap, rfl, hcap, hat⟩, hb⟩; rw [texts_len])
  rw [texts_len] at hcap hat
  have Hat := Lib.hid hat
  have Hb := Lib.hid hb
  clear hat hb
  have hL9 : (L.length : Int) ≤ 100001 := by omega
  go_loopw [4] (fun i wr => ∃ k : Nat, k ≤ L.length ∧ i = .int .i64 (k : Int) ∧ (∀ t ∈ L.take k, Pth.Name t) ∧ Below w1.heap.size w1 wr) (fun i _ => L.length - (intOf i).toNat)
  case atStart => exact ⟨0, Nat.zero_le _, rfl, by simp, Below.refl _ _⟩
  case round =>
    obtain ⟨k, hk, rfl, hall, hbel⟩ := hrel
    have Hall := Lib.hid hall
    have Hbel := Lib.hid hbel
    clear hall hbel
    have hk0 : (0 : Int) ≤ (k : Int) := by omega
    by_cases hlt : k < L.length
    · have hk1 : (k : Int) < (L.length : Int) := by omega
      obtain ⟨ub, uo, rfl, -, hub, huk⟩ := Hat.out (by omega)
      obtain ⟨t, ht⟩ : ∃ t, L[k]? = some t := ⟨_, List.getElem?_eq_getElem hlt⟩
      obtain ⟨hl, he⟩ := List.getElem?_eq_some_iff.1 ht
      have hmem : t ∈ L := List.mem_of_getElem? ht
      have hc1 : wr.cell? ⟨ub, uo + k, none⟩ = some (.string (mk t)) := (Hbel.out.cell (p := ⟨ub, uo + k, none⟩) hub).trans (huk k _ (texts_at ht))
      have HNt := Lib.hid (HN.out t hmem wr)
      have htk : L.take (k + 1) = L.take k ++ [t] := by rw [List.take_succ_eq_append_getElem hl, he]
      clear huk ht he hl
      by_cases hn : Pth.Name t
      · rw [decide_eq_true hn] at HNt
        have Hnext : Hid (∀ x ∈ L.take (k + 1), Pth.Name x) := Lib.hid (fun x hx => by
          rw [htk, List.mem_append] at hx
          rcases hx with hx | hx
          · exact Hall.out x hx
          · rw [List.mem_singleton.1 hx]; exact hn)
        clear hn htk hmem
        generalize mk t = y at *
        go_wp2_with (go_at_call 14; refine HNt.out.mono ?_; rintro e w2 ⟨rfl, hb2⟩)
        refine ⟨⟨k + 1, by omega, rfl, Hnext.out, Hbel.out.trans (hb2.mono Hbel.out.size)⟩, ?_⟩
        show L.length - ((k : Int) + 1).toNat < L.length - (k : Int).toNat
        omega
      · rw [decide_eq_false hn] at HNt
        have HF : Hid (R = false) := Lib.hid (by
          cases R with
          | false => rfl
          | true => exact absurd ((HR.out.1 rfl).1 t hmem) hn)
        clear hn htk hmem
        generalize mk t = y at *
        go_wp2_with (go_at_call 14; refine HNt.out.mono ?_; rintro e w2 ⟨rfl, hb2⟩)
        go_ret
        exact ⟨by rw [HF.out]; rfl, Hb.out.trans ((Hbel.out.trans (hb2.mono Hbel.out.size)).mono Hb.out.size)⟩
    · obtain rfl : k = L.length := by omega
      have Hall2 : Hid (∀ t ∈ L, Pth.Name t) := Lib.hid (by have := Hall.out; rw [List.take_length] at this; exact this)
      have hcase : (decide ((xs.size : Int) ≤ 40) = false ∧ Hid (R = false)) ∨ (decide ((xs.size : Int) ≤ 40) = true ∧ decide ((L.length : Int) ≤ 6) = false ∧ Hid (R = false)) ∨ (decide ((xs.size : Int) ≤ 40) = true ∧ decide ((L.length : Int) ≤ 6) = true ∧ Hid (R = true)) := by
        have e := Hlen.out
        by_cases h1 : s.length ≤ 40
        · by_cases h2 : L.length ≤ 6
          · exact Or.inr (Or.inr ⟨decide_eq_true (by omega), decide_eq_true (by omega), Lib.hid (HR.out.2 ⟨Hall2.out, h1, h2⟩)⟩)
          · refine Or.inr (Or.inl ⟨decide_eq_true (by omega), decide_eq_false (by omega), Lib.hid ?_⟩)
            cases R with
            | false => rfl
            | true => exact absurd (HR.out.1 rfl).2.2 h2
        · refine Or.inl ⟨decide_eq_false (by omega), Lib.hid ?_⟩
          cases R with
          | false => rfl
          | true => exact absurd (HR.out.1 rfl).2.1 h1
      rcases hcase with ⟨g1, hf⟩ | ⟨g1, g2, hf⟩ | ⟨g1, g2, hf⟩
      all_goals
        go_wp2_with fail
        go_ret
        exact ⟨by rw [hf.out]; rfl, Hb.out.trans (Hbel.out.mono Hb.out.size)⟩
end Go.Proofs.Ytadgdppkokbphaa
