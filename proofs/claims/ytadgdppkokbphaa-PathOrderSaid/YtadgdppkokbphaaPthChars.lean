/- The landed path: which texts are names (isName). -/
import Derived.Test.YtadgdppkokbphaaPthFit
import Derived.Test.YtadgdppkokbphaaTexts
import Derived.Test.YtadgdppkokbphaaPthName
import Derived.Lib.OthersKept
import Derived.WalkMore
set_option linter.unusedSimpArgs false
set_option linter.unusedVariables false
namespace Go.Proofs.Ytadgdppkokbphaa
open Go.RowKit

set_option maxRecDepth 100000 in
/-- What a range over a text finds: a byte below 128 as it is, else a great number. -/
theorem rune_cases (s : ByteArray) (k : Nat) (h : k < s.size) {c : UInt8} (hc : s.data.toList[k]? = some c) : ∃ r wd : Nat, (Utf8.decode s k).1 = r ∧ (Utf8.decode s k).2 = wd ∧ r ≤ 2147483647 ∧ 1 ≤ wd ∧ (r < 128 → r = c.toNat ∧ wd = 1) ∧ (128 ≤ r → 128 ≤ c.toNat) := by
  have hc' : s[k]'h = c := by
    rw [List.getElem?_eq_getElem (by rw [← Lib.size_eq]; exact h), Array.getElem_toList] at hc
    injection hc
  refine ⟨_, _, rfl, rfl, decode_le s k, ?_, ?_, ?_⟩
  all_goals
    by_cases ha : (s[k]'h).toNat < 128
    · rw [decode_ascii s k h ha, hc']
      rw [hc'] at ha
      first | omega | (intro; exact ⟨rfl, rfl⟩) | (intro hh; simp only at hh; omega)
    · have := decode_high s k h (by omega)
      rw [hc'] at ha
      omega

set_option maxRecDepth 100000 in
theorem good_cases (n : Nat) : n = 46 ∨ (97 ≤ n ∧ n ≤ 122) ∨ (48 ≤ n ∧ n ≤ 57) ∨ n = 45 ∨ n = 95 ∨ n < 45 ∨ n = 47 ∨ (57 < n ∧ n < 95) ∨ n = 96 ∨ 122 < n := by omega

set_option maxRecDepth 100000 in
set_option maxHeartbeats 6400000 in
theorem pth_isname (s : List UInt8) (w : World) (hs : s.length ≤ 100000) :
    Calls Try.prog 26 #[.string (mk s)] w fun e w' => e = .returned (.bool (decide (Pth.Name s))) ∧ Below w.heap.size w w' := by
  have ls : (mk s).size = s.length := mk_len s
  have hS : ((mk s).size : Int) ≤ 100000 := by rw [ls]; omega
  by_cases h12 : s.length ≤ 12
  · have g1 : decide ((12 : Int) < ((mk s).size : Int)) = false := by rw [ls]; exact decide_eq_false (by omega)
    have Ls := Lib.hid ls
    clear ls
    generalize hxs : mk s = xs at *
    have Hxs := Lib.hid hxs
    go_enter Try.func26, Try.ntmps26
    go_wp2_with fail
    go_step3
    go_wp2_with fail
    go_step3
    go_wp2_with fail
    go_loopw [3, 4] (fun g d wr => ∃ k : Nat, k ≤ s.length ∧ g = .int .i64 (k : Int) ∧ d = .int .i64 (Pth.dots (s.take k) : Int) ∧ (∀ c ∈ s.take k, Pth.okChar c = true) ∧ wr.heap[w.heap.size]? = some (.stringIter xs k) ∧ Below w.heap.size w wr) (fun _ _ wr => s.length - wr.iterPos w.heap.size)
    case atStart => exact ⟨0, Nat.zero_le _, rfl, rfl, by simp, by have := World.iter_heap w xs 0; simpa using this, by first | exact (Below.refl _ w).alloc (Nat.le_refl _) _ | simpa using (Below.refl _ w).alloc (Nat.le_refl _) (.stringIter xs 0)⟩
    case round =>
      obtain ⟨k, hk, rfl, rfl, hall, hit, hbel⟩ := hrel
      have hk0 : (0 : Int) ≤ (k : Int) := by omega
      have hdk : Pth.dots (s.take k) ≤ k := by
        have := List.countP_le_length (p := fun c : UInt8 => c.toNat == 46) (l := s.take k)
        rw [List.length_take] at this
        unfold Pth.dots; omega
      have Hall := Lib.hid hall
      have Hbel := Lib.hid hbel
      clear hall hbel
      by_cases hlt : k < s.length
      · have hlx : k < xs.size := by have := Ls.out; omega
        obtain ⟨c, hc, ic⟩ := idx xs k hlx
        clear ic
        obtain ⟨r, wd, e1, e2, hr, hw1, hlow, hhigh⟩ := rune_cases xs k hlx hc
        have hnx : ∀ ty, (Instr.next (.pointer (some ⟨w.heap.size, 0, none⟩)) true ty).run Try.prog wr = .ok (.tuple #[.bool true, .int .i64 k, .int .i32 (r : Int)]) (wr.iterAt w.heap.size xs (k + wd)) := fun ty => by
          rw [Lib.run_next_any_at wr w.heap.size xs k ty hit hlx, e1, e2]
        have hit2 := Lib.hid (Lib.iterAt_heap wr w.heap.size xs k (k + wd) hit)
        have hbel2 := Lib.hid (Lib.below_iterAt Hbel.out (k := w.heap.size) (Nat.le_refl _) xs (k + wd))
        have hsc : s[k]? = some c := by rw [← hc, ← Hxs.out, mk_data]
        obtain ⟨hl, he⟩ := List.getElem?_eq_some_iff.1 hsc
        have htk : s.take (k + 1) = s.take k ++ [c] := by rw [List.take_succ_eq_append_getElem hl, he]
        have hdn : Hid (Pth.dots (s.take (k + 1)) = Pth.dots (s.take k) + (if c.toNat = 46 then 1 else 0)) := Lib.hid (by
          rw [htk]
          unfold Pth.dots
          rw [List.countP_append, List.countP_singleton]
          by_cases h : c.toNat = 46
          · rw [if_pos h, h]; rfl
          · rw [if_neg h, if_neg (by simpa using h)])
        have hgood : Hid (Pth.okChar c = true → ∀ x ∈ s.take (k + 1), Pth.okChar x = true) := Lib.hid (fun h x hx => by
          rw [htk, List.mem_append] at hx
          rcases hx with hx | hx
          · exact Hall.out x hx
          · rw [List.mem_singleton.1 hx]; exact h)
        have hbad : Hid (Pth.okChar c = false → decide (Pth.Name s) = false) := Lib.hid (fun h => decide_eq_false (fun m => by
          have := m.1 c (List.mem_of_getElem? hsc)
          rw [h] at this; cases this))
        have hok : Hid (Pth.okChar c = ((decide (97 ≤ c.toNat) && decide (c.toNat ≤ 122)) || (decide (48 ≤ c.toNat) && decide (c.toNat ≤ 57)) || c.toNat == 45 || c.toNat == 95 || c.toNat == 46)) := Lib.hid rfl
        have hc256 := c.toNat_lt
        have hd9 : ((Pth.dots (s.take k) : Nat) : Int) ≤ 100000 := by omega
        have hpos : wr.iterPos w.heap.size = k := by simp [World.iterPos, hit]
        have hpos2 : Hid ((wr.iterAt w.heap.size xs (k + wd)).iterPos w.heap.size = k + wd) := Lib.hid (by have := hit2.out; simp [World.iterPos, this])
        have Hpos := Lib.hid hpos
        have hge : ((k : Int) == (xs.size : Int)) = false := by rw [beq_eq_false_iff_ne]; omega
        have hkx : (k : Int) ≤ 100000 := by omega
        clear hc hsc htk he hl hdk e1 e2 hit hpos
        generalize wr.iterAt w.heap.size xs (k + wd) = wi at *
        generalize c.toNat = cn at *
        generalize Pth.dots (s.take k) = dk at *
        rcases good_cases r with h | h | h | h | h | h | h | h | h | h
        all_goals
          first | (have e46 : ((r : Int) == 46) = true := by rw [beq_iff_eq]; omega) | (have e46 : ((r : Int) == 46) = false := by rw [beq_eq_false_iff_ne]; omega)
          first | (have d97 : decide ((97 : Int) ≤ (r : Int)) = true := decide_eq_true (by omega)) | (have d97 : decide ((97 : Int) ≤ (r : Int)) = false := decide_eq_false (by omega))
          first | (have d122 : decide ((r : Int) ≤ 122) = true := decide_eq_true (by omega)) | (have d122 : decide ((r : Int) ≤ 122) = false := decide_eq_false (by omega))
          first | (have d48 : decide ((48 : Int) ≤ (r : Int)) = true := decide_eq_true (by omega)) | (have d48 : decide ((48 : Int) ≤ (r : Int)) = false := decide_eq_false (by omega))
          first | (have d57 : decide ((r : Int) ≤ 57) = true := decide_eq_true (by omega)) | (have d57 : decide ((r : Int) ≤ 57) = false := decide_eq_false (by omega))
          first | (have e45 : ((r : Int) == 45) = true := by rw [beq_iff_eq]; omega) | (have e45 : ((r : Int) == 45) = false := by rw [beq_eq_false_iff_ne]; omega)
          first | (have e95 : ((r : Int) == 95) = true := by rw [beq_iff_eq]; omega) | (have e95 : ((r : Int) == 95) = false := by rw [beq_eq_false_iff_ne]; omega)
          first
            | (have hT : Hid (Pth.okChar c = true ∧ wd = 1 ∧ r = cn) := Lib.hid (by
                 have := hlow (by omega)
                 refine ⟨?_, this.2, this.1⟩
                 rw [hok.out]; simp; omega))
            | (have hF : Hid (Pth.okChar c = false) := Lib.hid (by
                 rw [hok.out]
                 by_cases h8 : r < 128
                 · have := hlow h8; simp; omega
                 · have := hhigh (by omega); simp; omega))
          have HH := Lib.hid h
          have Hr := Lib.hid hr
          clear h hlow hhigh hr hw1
          go_wp2_with fail
          first
            | (try rw [Exit.noGoto_ret]
               go_ret
               exact ⟨by rw [hbad.out hF.out]; rfl, hbel2.out⟩)
            | (refine ⟨⟨k + 1, by omega, rfl, ?_, hgood.out hT.out.1, by have := hit2.out; rw [hT.out.2.1] at this; exact this, hbel2.out⟩, ?_⟩
               · rw [hdn.out]
                 first
                   | (rw [if_pos (by have := HH.out; have := hT.out; omega)]; rfl)
                   | (rw [if_neg (by have := HH.out; have := hT.out; omega)]; rfl)
               · rw [hpos2.out, Hpos.out, hT.out.2.1]; omega)
      · have hks : s.length = k := by omega
        have hnx : ∀ ty, (Instr.next (.pointer (some ⟨w.heap.size, 0, none⟩)) true ty).run Try.prog wr = .ok (.tuple #[.bool false]) wr := fun ty => Lib.run_next_end_at wr w.heap.size xs k ty hit (by have := Ls.out; omega)
        have htk : s.take k = s := by rw [← hks]; exact List.take_length
        rw [htk] at Hall hdk
        have hge : ((k : Int) == (xs.size : Int)) = true := by rw [beq_iff_eq]; have := Ls.out; omega
        have hfin : Hid (decide (Pth.Name s) = decide (((Pth.dots s : Nat) : Int) < (k : Int))) := Lib.hid (by
          rw [decide_eq_decide]
          unfold Pth.Name
          constructor
          · rintro ⟨-, -, -, h⟩; omega
          · intro h; exact ⟨Hall.out, by omega, h12, by omega⟩)
        rw [htk]
        clear hit hks htk hlt hdk hk
        generalize ((Pth.dots s : Nat) : Int) = dk at *
        cases hd : decide (dk < (k : Int))
        all_goals
          rw [hd] at hfin
          go_wp2_with fail
          try rw [Exit.noGoto_ret]
          go_ret
          exact ⟨by rw [hfin.out]; rfl, Hbel.out⟩
  · have g1 : decide ((12 : Int) < ((mk s).size : Int)) = true := by rw [ls]; exact decide_eq_true (by omega)
    have hx : Hid (decide (Pth.Name s) = false) := Lib.hid (decide_eq_false (fun h => h12 h.2.2.1))
    clear h12 ls
    generalize mk s = xs at *
    go_enter Try.func26, Try.ntmps26
    go_wp2_with fail
    go_step3
    go_wp2_with fail
    try rw [Exit.noGoto_ret]
    go_ret
    exact ⟨by rw [hx.out]; rfl, Below.refl _ _⟩
end Go.Proofs.Ytadgdppkokbphaa
