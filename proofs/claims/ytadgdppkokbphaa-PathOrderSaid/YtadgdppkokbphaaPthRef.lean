/- The document's own answers of layer 7: Split. -/
import Derived.Test.YtadgdppkokbphaaPthOk
namespace Go.Proofs.Ytadgdppkokbphaa
open Go.RowKit

namespace Pth
/-- Behind i bytes: the parts that are done, the place where the one at hand begins. -/
def Cut (s : Tx) (D : List Tx) (p i : Nat) : Prop := p ≤ i ∧ i ≤ s.length ∧ split s = D ++ splitA ((s.take i).drop p) (s.drop i) ∧ D.length ≤ i

set_option maxRecDepth 100000 in
theorem cut_start (s : Tx) : Cut s [] 0 0 := ⟨Nat.le_refl _, Nat.zero_le _, by simp [split], Nat.le_refl _⟩

set_option maxRecDepth 100000 in
theorem cut_end {s : Tx} {D : List Tx} {p : Nat} (h : Cut s D p s.length) : split s = D ++ [s.drop p] := by
  have := h.2.2.1
  rw [List.take_length, List.drop_length] at this
  exact this

set_option maxRecDepth 100000 in
theorem cut_next {s : Tx} {D : List Tx} {p i : Nat} {c : UInt8} (h : Cut s D p i) (hc : s[i]? = some c) : if c.toNat = 47 then Cut s (D ++ [(s.take i).drop p]) (i + 1) (i + 1) else Cut s D p (i + 1) := by
  obtain ⟨h1, h2, h3, h4⟩ := h
  obtain ⟨hl, he⟩ := List.getElem?_eq_some_iff.1 hc
  have hd : s.drop i = c :: s.drop (i + 1) := by rw [List.drop_eq_getElem_cons hl, he]
  rw [hd] at h3
  unfold splitA at h3
  split
  · rename_i h7
    rw [if_pos h7] at h3
    refine ⟨Nat.le_refl _, hl, ?_, by rw [List.length_append]; simp; omega⟩
    rw [h3, List.append_assoc]
    congr 2
    have : (s.take (i + 1)).drop (i + 1) = [] := List.drop_of_length_le (by rw [List.length_take]; omega)
    rw [this]
    rfl
  · rename_i h7
    rw [if_neg h7] at h3
    refine ⟨by omega, hl, ?_, by omega⟩
    rw [h3]
    congr 2
    rw [List.take_succ_eq_append_getElem hl, he, List.drop_append_of_le_length (by rw [List.length_take]; omega)]
end Pth

set_option maxRecDepth 100000 in
set_option maxHeartbeats 1600000 in
theorem ref_split (s : List UInt8) (w : World) (hs : s.length ≤ 100000) :
    Calls Try.prog 13 #[.string (mk s), .int .u8 47] w fun e w' => ∃ v, e = .returned v ∧ Cells w' (NewIn w w') v (texts (Pth.split s)) ∧ Below w.heap.size w w' := by
  obtain ⟨i0, hi, hz0, hz1, hz2⟩ := info_parts strInfo
  have ls : (mk s).size = s.length := mk_len s
  have hS : ((mk s).size : Int) ≤ 100000 := by rw [ls]; omega
  have Ls := Lib.hid ls
  clear ls
  generalize hxs : mk s = xs at *
  have Hxs := Lib.hid hxs
  go_enter Try.func13, Try.ntmps13
  go_wp2_with fail
  go_loopw [5, 6, 7] (fun o p i wr => ∃ (D : List (List UInt8)) (at_ k : Nat), p = .int .i64 (at_ : Int) ∧ i = .int .i64 (k : Int) ∧ Pth.Cut s D at_ k ∧ TextsOwn w D o wr) (fun _ _ i _ => s.length - (intOf i).toNat)
  case atStart => exact ⟨[], 0, 0, rfl, rfl, Pth.cut_start s, texts_start w⟩
  case round =>
    obtain ⟨D, p, k, rfl, rfl, hcut, hown⟩ := hrel
    have hk0 : (0 : Int) ≤ (k : Int) := by omega
    have hp0 : (0 : Int) ≤ (p : Int) := by omega
    have hpk : (p : Int) ≤ (k : Int) := by have := hcut.1; omega
    have hks : (k : Int) ≤ (xs.size : Int) := by have := hcut.2.1; have := Ls.out; omega
    have hDl : Hid (D.length ≤ 100000) := Lib.hid (by have := hcut.2.2.2; have := hcut.2.1; omega)
    by_cases hlt : k < s.length
    · have hk1 : (k : Int) < (xs.size : Int) := by have := Ls.out; omega
      obtain ⟨c, hc, ic⟩ := idx xs k (by have := Ls.out; omega)
      have hsc : s[k]? = some c := by rw [← hc, ← Hxs.out, mk_data]
      have hnext := Pth.cut_next hcut hsc
      by_cases h7 : c.toNat = 47
      · rw [if_pos h7] at hnext
        have hb1 : ((c.toNat : Int) == 47) = true := by rw [h7]; rfl
        have hext : xs.extract p k = mk ((s.take k).drop p) := by
          rw [← Hxs.out]
          exact bytes_ext (by rw [Lib.extract_data, mk_data, mk_data, List.take_drop, Nat.add_sub_cancel' (by omega)])
        have Hnext := Lib.hid hnext
        have Hown := Lib.hid hown
        have hz := hown.2.size
        have hown1 := hown.1
        clear hc hsc hnext hcut hown h7
        generalize c.toNat = cn at *
        generalize hx1 : mk ((s.take k).drop p) = x1 at *
        have hc1 : ∀ {w1 : World} j u, [Value.string x1][j]? = some u → (w1.alloc (.cells #[.string x1] 9)).cell? ((⟨w1.heap.size, 0, none⟩ : Addr).add j) = some u := by
          intro w1 j u hj
          match j, hj with
          | 0, hj => simp at hj; subst hj; simp [Addr.add]
        go_wp2_with (at_builtin; refine wpList_append_own _ rfl _ _ 25 rfl w.heap.size 9 i0 (.string ⟨#[]⟩) 1 16 Try.underlying25 hi hz0 hz1 hz2 rfl (by decide) _ _ _ rfl (hown1.alloc _) ⟨wr.heap.size, 0, none⟩ 1 1 [.string x1] rfl rfl hc1 ?c2 ?c3 ?c4 ?c5 ?_)
        case c2 => first | rfl | (intro u hu; simp at hu; subst hu; rfl)
        case c3 => have := hDl.out; unfold maxLen; omega
        case c4 => have := hDl.out; omega
        case c5 => first | omega | (simp; omega)
        intro v' w2 hown' hgrow' _
        have hnew := texts_more Hown.out (x := (s.take k).drop p) (v' := v') (by rw [hx1]; simpa using hown') hgrow'
        clear hown' hgrow' hown1
        go_wp2
        go_roundw
        case rel => exact ⟨_, k + 1, k + 1, by go_num, by go_num, Hnext.out, hnew⟩
        case measure => simp [intOf]; omega
      · rw [if_neg h7] at hnext
        have hb1 : ((c.toNat : Int) == 47) = false := by rw [beq_eq_false_iff_ne]; omega
        have Hnext := Lib.hid hnext
        have Hown := Lib.hid hown
        clear hc hsc hnext hcut hown h7
        generalize c.toNat = cn at *
        go_wp2_with fail
        refine ⟨⟨D, p, k + 1, rfl, rfl, Hnext.out, Hown.out⟩, ?_⟩
        show s.length - ((k : Int) + 1).toNat < s.length - (k : Int).toNat
        omega
    · obtain rfl : k = s.length := by have := hcut.2.1; omega
      have hfin := Lib.hid (Pth.cut_end hcut)
      have hk1 : ¬ (s.length : Int) < (xs.size : Int) := by have := Ls.out; omega
      have hext : xs.extract p xs.size = mk (s.drop p) := by
        rw [← Hxs.out]
        exact bytes_ext (by rw [Lib.extract_data, mk_data, mk_len, mk_data, ← List.length_drop, List.take_length])
      have hps : (p : Int) ≤ (xs.size : Int) := by omega
      have Hown := Lib.hid hown
      have hz := hown.2.size
      have hown1 := hown.1
      clear hcut hown
      generalize hx1 : mk (s.drop p) = x1 at *
      have hc1 : ∀ {w1 : World} j u, [Value.string x1][j]? = some u → (w1.alloc (.cells #[.string x1] 9)).cell? ((⟨w1.heap.size, 0, none⟩ : Addr).add j) = some u := by
        intro w1 j u hj
        match j, hj with
        | 0, hj => simp at hj; subst hj; simp [Addr.add]
      go_wp2_with (at_builtin; refine wpList_append_own _ rfl _ _ 25 rfl w.heap.size 9 i0 (.string ⟨#[]⟩) 1 16 Try.underlying25 hi hz0 hz1 hz2 rfl (by decide) _ _ _ rfl (hown1.alloc _) ⟨wr.heap.size, 0, none⟩ 1 1 [.string x1] rfl rfl hc1 ?c2 ?c3 ?c4 ?c5 ?_)
      case c2 => first | rfl | (intro u hu; simp at hu; subst hu; rfl)
      case c3 => have := hDl.out; unfold maxLen; omega
      case c4 => have := hDl.out; omega
      case c5 => first | omega | (simp; omega)
      intro v' w2 hown' hgrow' _
      have hnew := texts_more Hown.out (x := s.drop p) (v' := v') (by rw [hx1]; simpa using hown') hgrow'
      clear hown' hgrow' hown1
      go_wp2
      go_ret
      exact ⟨v', rfl, by rw [hfin.out]; exact hnew.cells, hnew.2⟩
end Go.Proofs.Ytadgdppkokbphaa
