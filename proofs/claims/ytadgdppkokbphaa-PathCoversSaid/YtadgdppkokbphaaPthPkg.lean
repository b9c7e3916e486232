/- The package path as it landed answers as its contracts say. -/
import Derived.Test.YtadgdppkokbphaaPthNames
import Derived.Test.YtadgdppkokbphaaPthOk
set_option linter.unusedSimpArgs false
set_option linter.unusedVariables false
namespace Go.Proofs.Ytadgdppkokbphaa
open Go.RowKit

set_option maxRecDepth 100000 in
set_option maxHeartbeats 3200000 in
theorem pth_join {w : World} {F : Nat → Prop} {v : Value} {l : List (List UInt8)} (hv : Cells w F v (texts l)) (hl : l.length ≤ 100000) (ht : ∀ t ∈ l, t.length ≤ 100000) :
    Calls Try.prog 11 #[v] w fun e w' => e = .returned (.tuple (if Pth.Joins l then #[.string (mk (Pth.join l)), .int .i64 0] else #[.string (mk []), .int .i64 13])) ∧ Below w.heap.size w w' := by
  obtain ⟨A, c, rfl, hc, ha⟩ := hv
  rw [texts_len] at hc ha ⊢
  have hl9 : (l.length : Int) ≤ 100000 := by omega
  by_cases h0 : l = []
  · have hJ : ¬ Pth.Joins l := fun h => h.1 h0
    rw [if_neg hJ]
    subst h0
    clear ha hJ
    go_enter Try.func11, Try.ntmps11
    go_wp2_with fail
    go_ret2
    exact ⟨rfl, Below.refl _ _⟩
  · have hpos : 0 < l.length := List.length_pos_iff.2 h0
    obtain ⟨b, o, rfl, hF, hb, hk⟩ := ha hpos
    have hz : ((l.length : Int) == 0) = false := by rw [beq_eq_false_iff_ne]; omega
    have HN := Lib.hid (pth_namer w)
    unfold mayF at HN
    have Hk := Lib.hid hk
    have H0 := Lib.hid h0
    have Ht := Lib.hid ht
    have HJ : ∀ J, J = (if Pth.Joins l then #[Value.string (mk (Pth.join l)), .int .i64 0] else #[.string (mk []), .int .i64 13]) → Hid (J = (if Pth.Joins l then #[Value.string (mk (Pth.join l)), .int .i64 0] else #[.string (mk []), .int .i64 13])) := fun J h => h
    generalize hJ : (if Pth.Joins l then #[Value.string (mk (Pth.join l)), .int .i64 0] else #[.string (mk []), .int .i64 13]) = J
    have HJ := Lib.hid hJ
    clear hk h0 ht hJ ha
    go_enter Try.func11, Try.ntmps11
    go_wp2_with (go_at_call 19; refine HN.out.mono ?_; rintro e w1 ⟨rfl, e1⟩
                 have hs := Lib.hid (e1 ▸ NmAt.start w)
                 clear e1)
    go_loopw [13] (fun i wr => ∃ k : Nat, k ≤ l.length ∧ i = .int .i64 (k : Int) ∧ Pth.Fit (l.take k) ∧ NmAt w [] (l.take k) (.slice none 0 0) wr) (fun i _ => l.length - (intOf i).toNat)
    case atStart => exact ⟨0, Nat.zero_le _, rfl, Pth.fit_nil, hs.out⟩
    case round =>
      obtain ⟨k, hkl, rfl, hfit, hat⟩ := hrel
      by_cases hlt : k < l.length
      · obtain ⟨t, ht⟩ : ∃ t, l[k]? = some t := ⟨_, List.getElem?_eq_getElem hlt⟩
        have hcell : wr.cell? ⟨b, o + k, none⟩ = some (.string (mk t)) := (hat.bel.cell (p := ⟨b, o + k, none⟩) hb).trans (Hk.out k _ (texts_at ht))
        have hk0 : (0 : Int) ≤ (k : Int) := by omega
        have hk1 : (k : Int) < (l.length : Int) := by omega
        obtain ⟨i1, e1⟩ := List.getElem?_eq_some_iff.1 ht
        have htk : l.take (k + 1) = l.take k ++ [t] := by rw [List.take_succ_eq_append_getElem i1, e1]
        have htl : t.length ≤ 100000 := Ht.out t (List.mem_of_getElem? ht)
        have HM := Lib.hid (pth_may (d := l.take k) t hat.r1 hat.r2 (by omega) hfit htl)
        have Hat := Lib.hid hat
        by_cases hn : Pth.Next (l.take k) t
        · have hfit2 := Lib.hid (htk ▸ Pth.fit_next hfit hn)
          have Htk := Lib.hid htk
          have Hn := Lib.hid hn
          rw [decide_eq_true hn] at HM
          clear hat hfit hn e1 htk ht htl
          generalize mk t = x at *
          go_wp2_with fail
          refine HM.out.mono ?_
          rintro e w2 ⟨rfl, hr2, hk2⟩
          have h2 := Lib.hid (Hat.out.told (hr2 Hn.out).1 (hr2 Hn.out).2 hk2)
          clear hr2 hk2
          go_wp2_with fail
          refine ⟨⟨k + 1, by omega, rfl, hfit2.out, by rw [Htk.out]; exact h2.out⟩, ?_⟩
          show l.length - ((k : Int) + 1).toNat < l.length - (k : Int).toNat
          omega
        · have hJ : ¬ Pth.Joins l := fun h => by
            have hf := (Pth.joins_fit H0.out).1 h
            have : l = l.take k ++ t :: l.drop (k + 1) := by
              rw [← e1, List.getElem_cons_drop, List.take_append_drop]
            rw [this] at hf
            exact Pth.fit_not hn hf
          have hJ2 : Hid (J = #[.string (mk []), .int .i64 13]) := Lib.hid (by rw [← HJ.out, if_neg hJ])
          rw [decide_eq_false hn] at HM
          clear hat hfit hn e1 htk ht htl hJ
          generalize mk t = x at *
          go_wp2_with fail
          refine HM.out.mono ?_
          rintro e w2 ⟨rfl, -, hk2⟩
          have hb2 : Hid (Below w.heap.size w w2) := Lib.hid (Hat.out.bel.trans (hk2.below Hat.out.bel.size (fun i hi => by omega)))
          clear hk2
          go_wp2_with fail
          go_ret2
          exact ⟨by rw [hJ2.out]; rfl, hb2.out⟩
      · have hkl2 : k = l.length := by omega
        subst hkl2
        rw [List.take_length] at hfit hat
        have hJ : Pth.Joins l := (Pth.joins_fit H0.out).2 hfit
        have hJ2 : Hid (J = #[.string (mk (Pth.join l)), .int .i64 0]) := Lib.hid (by rw [← HJ.out, if_pos hJ])
        have hjl := Pth.join_lens H0.out
        have hj41 := hfit.2.2
        have hS := Try.strings_Join b o c (l.map mk) ⟨#[47]⟩ wr (fun j x hx => by
          rw [List.getElem?_map] at hx
          obtain ⟨t, ht, rfl⟩ := Option.map_eq_some_iff.1 hx
          exact (hat.bel.cell (p := ⟨b, o + j, none⟩) hb).trans (Hk.out j _ (texts_at ht))) (by have := hat.bel.size; omega) (by rw [List.length_map]; omega) (by rw [List.length_map]; exact hc) (by
          rw [List.map_map, show ((fun x : ByteArray => x.data.toList) ∘ mk) = id from rfl, List.map_id, show (⟨#[47]⟩ : ByteArray).data.toList = [47] from rfl, Pth.join_lib H0.out]
          omega)
        rw [List.map_map, show ((fun x : ByteArray => x.data.toList) ∘ mk) = id from rfl, List.map_id, show (⟨#[47]⟩ : ByteArray).data.toList = [47] from rfl, Pth.join_lib H0.out, List.length_map] at hS
        have HS := Lib.hid hS
        have Hat := Lib.hid hat
        have hk1 : ¬ (l.length : Int) < (l.length : Int) := by omega
        clear hS hat hfit hJ hjl hj41
        go_wp2_with fail
        refine HS.out.mono ?_
        rintro e w2 ⟨rfl, hb2⟩
        have Hb2 := Lib.hid hb2
        clear hb2
        go_wp2_with fail
        go_ret2
        exact ⟨by rw [hJ2.out]; rfl, Hat.out.bel.trans (Hb2.out.mono Hat.out.bel.size)⟩

set_option maxRecDepth 100000 in
theorem path_ok : PathOk where
  check := pth_check
  names := pth_names
  join := pth_join
  covers := fun a b w _ _ => pth_covers a b w
  meet := pth_meet
  parent := pth_parent
end Go.Proofs.Ytadgdppkokbphaa
