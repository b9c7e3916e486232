/- Any names, joined: PathJoins out of the contracts. -/
import Derived.Test.YtadgdppkokbphaaPthAwake
import Derived.Test.YtadgdppkokbphaaPthRight
namespace Go.Proofs.Ytadgdppkokbphaa
open Go.RowKit

namespace Pth
set_option maxRecDepth 100000 in
theorem join_snoc (t : Tx) : ∀ l : List Tx, join (l ++ [t]) = if l = [] then t else join l ++ (47 :: t)
  | [] => rfl
  | [a] => rfl
  | a :: b :: l => by
    rw [if_neg (by simp)]
    have := join_snoc t (b :: l)
    rw [if_neg (by simp)] at this
    show a ++ 47 :: join ((b :: l) ++ [t]) = (a ++ 47 :: join (b :: l)) ++ _
    rw [this]
    simp

set_option maxRecDepth 100000 in
theorem join_len : ∀ (l : List Tx), (∀ t ∈ l, t.length ≤ 100) → (join l).length ≤ 101 * l.length
  | [], _ => by simp [join]
  | [a], h => by have := h a (by simp); simp [join]; omega
  | a :: b :: l, h => by
    have h1 := h a (by simp)
    have h2 := join_len (b :: l) (fun t ht => h t (List.mem_cons_of_mem _ ht))
    show (a ++ 47 :: join (b :: l)).length ≤ _
    simp only [List.length_append, List.length_cons] at *
    omega
end Pth

set_option maxRecDepth 100000 in
theorem mk_app (a b : List UInt8) : mk a ++ mk b = mk (a ++ b) := bytes_ext (by
  rw [← Lib.toList_data, ← Lib.toList_data]
  simp [Lib.toList_data, mk_data])

set_option maxRecDepth 100000 in
theorem cut_cells {w : World} {F : Nat → Prop} {A : Option Addr} {n c : Nat} {l : List (List UInt8)} (h : Cells w F (.slice A n c) (texts l)) (k : Nat) (hk : k ≤ l.length) : Cells w F (.slice A k c) (texts (l.take k)) := by
  obtain ⟨A', c', e, hc, hat⟩ := h
  injection e with e1 e2 e3
  subst e1 e3
  rw [texts_len] at hc hat
  have hl : (l.take k).length = k := by rw [List.length_take]; omega
  refine ⟨A, c, by rw [texts_len, hl], by rw [texts_len, hl]; omega, fun hp => ?_⟩
  rw [texts_len, hl] at hp
  obtain ⟨b, o, rfl, h1, h2, h3⟩ := hat (by omega)
  refine ⟨b, o, rfl, h1, h2, fun i u hu => h3 i u ?_⟩
  unfold texts at hu ⊢
  rw [List.map_take, List.getElem?_take] at hu
  split at hu
  · exact hu
  · cases hu

set_option maxRecDepth 100000 in
set_option maxHeartbeats 6400000 in
theorem pjoins_walk (H : PathOk) {w : World} {F : Nat → Prop} {v : Value} {l : List (List UInt8)} (hv : Cells w F v (texts l)) (hl63 : l.length ≤ 9223372036854775807) :
    Calls Try.prog 4 #[v] w fun e w' => e = .returned (.bool true) ∧ Below w.heap.size w w' := by
  have AW := Lib.hid (fun W => pth_awake H W)
  have STEP : Hid (∀ (A B : World), Below w.heap.size w A → Below A.heap.size A B → Below w.heap.size w B) := Lib.hid (fun A B h k => h.trans (k.mono h.size))
  have RN : Hid (∀ (t : List UInt8), t.length ≤ 100000 → ∀ W, Calls Try.prog 14 #[.string (mk t)] W fun e w' => e = .returned (.bool (decide (Pth.Name t))) ∧ Below W.heap.size W w') := Lib.hid (fun t ht W => ref_name t W ht)
  have RR : Hid (∀ (t : List UInt8), t.length ≤ 100000 → ∀ W, Calls Try.prog 10 #[.string (mk t)] W fun e w' => e = .returned (.bool (decide (Pth.Right t))) ∧ Below W.heap.size W w') := Lib.hid (fun t ht W => ref_right t W ht)
  have HJ0 : Hid (∀ (m : List (List UInt8)), m.length ≤ 20 → (∀ t ∈ m, t.length ≤ 100) → ∀ (W : World) (G : Nat → Prop) (u : Value), Cells W G u (texts m) → Calls Try.prog 11 #[u] W fun e w' => e = .returned (.tuple (if Pth.Joins m then #[.string (mk (Pth.join m)), .int .i64 0] else #[.string ⟨#[]⟩, .int .i64 13])) ∧ Below W.heap.size W w') :=
    Lib.hid (fun m h1 h2 W G u hc => H.join hc (by omega) (fun t ht => by have := h2 t ht; omega))
  have B0 := Below.refl w.heap.size w
  obtain ⟨A, c, rfl, hlc, hat⟩ := hv
  rw [texts_len] at hlc hat ⊢
  by_cases h20 : l.length ≤ 20
  · have hm : l.length ≤ 20 := h20
    have g1 : decide ((20 : Int) < (l.length : Int)) = false := decide_eq_false (by omega)
    have Hcells : Hid (Cells w F (.slice A l.length c) (texts l)) := Lib.hid ⟨A, c, by rw [texts_len], by rw [texts_len]; exact hlc, fun h => hat (by rwa [texts_len] at h)⟩
    have hM : l.length = l.length := rfl
    clear hlc hat hl63 h20
    have Hcells := Hcells
    go_enter Try.func4, Try.ntmps4
    go_wp2_with fail
    have Hlen := Lib.hid hM
    go_loopw [3, 4, 5] (fun q r i wr => ∃ (k : Nat) (b : Bool), k ≤ l.length ∧ i = .int .i64 (k : Int) ∧ q = .string (mk (Pth.join (l.take k))) ∧ r = .bool b ∧ (b = true ↔ (0 < l.length ∧ ∀ t ∈ l.take k, Pth.Name t)) ∧ (∀ t ∈ l.take k, t.length ≤ 100) ∧ Below w.heap.size w wr) (fun _ _ i _ => l.length - (intOf i).toNat)
    case atStart => exact ⟨0, decide (0 < l.length), Nat.zero_le _, rfl, rfl, (by simp), by simp, by simp, Below.refl _ _⟩
    case round =>
      obtain ⟨k, r, hk, rfl, rfl, rfl, hr, hsm, hbel⟩ := hrel
      have hk0 : (0 : Int) ≤ (k : Int) := by omega
      have Hr := Lib.hid hr
      have Hsm := Lib.hid hsm
      have Hbel := Lib.hid hbel
      have Hjl : Hid ((Pth.join (l.take k)).length ≤ 101 * k) := Lib.hid (by
        have := Pth.join_len (l.take k) hsm
        rw [List.length_take] at this
        omega)
      clear hr hsm hbel
      by_cases hlt : k < l.length
      · have hk1 : (k : Int) < (l.length : Int) := by omega
        have hltl : k < l.length := by have := Hlen.out; omega
        obtain ⟨t, ht⟩ : ∃ t, l[k]? = some t := ⟨_, List.getElem?_eq_getElem hltl⟩
        obtain ⟨hl, he⟩ := List.getElem?_eq_some_iff.1 ht
        obtain ⟨ub, uo, rfl, hub, huk⟩ : ∃ ub uo, A = some ⟨ub, uo, none⟩ ∧ ub < w.heap.size ∧ w.cell? ⟨ub, uo + k, none⟩ = some (.string (mk t)) := by
          obtain ⟨A', c', e, hc, hat⟩ := Hcells.out
          injection e with e1 e2 e3
          subst e1 e3
          rw [texts_len] at hat
          obtain ⟨b, o, h1, -, h2, h3⟩ := hat (by omega)
          exact ⟨b, o, h1, h2, h3 k _ (texts_at ht)⟩
        have hc1 : wr.cell? ⟨ub, uo + k, none⟩ = some (.string (mk t)) := (Hbel.out.cell (p := ⟨ub, uo + k, none⟩) hub).trans huk
        have htk : l.take (k + 1) = l.take k ++ [t] := by rw [List.take_succ_eq_append_getElem hl, he]
        have lt : (mk t).size = t.length := mk_len t
        by_cases hbig : 100 < t.length
        · have gb : decide ((100 : Int) < ((mk t).size : Int)) = true := by rw [lt]; exact decide_eq_true (by omega)
          clear huk ht hl he htk lt
          generalize mk t = y at *
          generalize mk (Pth.join (l.take k)) = jx at *
          go_wp2_with (go_at_call 7; refine (AW.out _).mono ?_; rintro e w5 ⟨rfl, bb⟩)
          go_ret
          exact ⟨rfl, STEP.out _ _ Hbel.out bb⟩
        · have gb : decide ((100 : Int) < ((mk t).size : Int)) = false := by rw [lt]; exact decide_eq_false (by omega)
          have hyl : ((mk t).size : Int) ≤ 100 := by rw [lt]; omega
          have hjl : ((mk (Pth.join (l.take k))).size : Int) ≤ 2020 := by rw [mk_len]; have := Hjl.out; omega
          have RNt := Lib.hid (RN.out t (by omega) wr)
          have Hnr : Hid (∀ b : Bool, (b = true ↔ (r = true ∧ Pth.Name t)) → (b = true ↔ (0 < l.length ∧ ∀ x ∈ l.take (k + 1), Pth.Name x))) := Lib.hid (fun b hb => by
            rw [hb, Hr.out, htk]
            constructor
            · rintro ⟨⟨a1, a2⟩, a3⟩
              refine ⟨a1, fun x hx => ?_⟩
              rw [List.mem_append] at hx
              rcases hx with hx | hx
              · exact a2 x hx
              · rw [List.mem_singleton.1 hx]; exact a3
            · rintro ⟨a1, a2⟩
              exact ⟨⟨a1, fun x hx => a2 x (List.mem_append_left _ hx)⟩, a2 t (by simp)⟩)
          have Hns : Hid (∀ x ∈ l.take (k + 1), x.length ≤ 100) := Lib.hid (fun x hx => by
            rw [htk, List.mem_append] at hx
            rcases hx with hx | hx
            · exact Hsm.out x hx
            · rw [List.mem_singleton.1 hx]; omega)
          have Hjoin0 : Hid (k = 0 → mk (Pth.join (l.take k)) ++ mk t = mk (Pth.join (l.take (k + 1)))) := Lib.hid (fun h0 => by
            rw [htk, Pth.join_snoc, h0, if_pos (by simp), mk_app]
            rfl)
          have Hjoin1 : Hid (0 < k → mk (Pth.join (l.take k)) ++ ⟨#[47]⟩ ++ mk t = mk (Pth.join (l.take (k + 1)))) := Lib.hid (fun h0 => by
            rw [htk, Pth.join_snoc, if_neg (by intro e; have := congrArg List.length e; rw [List.length_take, List.length_nil] at this; omega)]
            rw [show (⟨#[47]⟩ : ByteArray) = mk [47] from rfl, mk_app, mk_app, List.append_assoc]
            rfl)
          clear huk ht hl he htk lt hbig hltl
          generalize hdn : decide (Pth.Name t) = dn at *
          have Hdn : Hid (dn = true ↔ Pth.Name t) := Lib.hid (by rw [← hdn]; exact decide_eq_true_iff)
          clear hdn
          generalize mk t = y at *
          generalize mk (Pth.join (l.take k)) = jx at *
          have hs1 : ¬ 9223372036854775807 < jx.size + 1 := by omega
          have hs2 : ¬ 9223372036854775807 < jx.size + y.size := by omega
          have hs3 : ¬ 9223372036854775807 < (jx ++ ⟨#[47]⟩).size + y.size := by
            have : (jx ++ (⟨#[47]⟩ : ByteArray)).size = jx.size + 1 := by rw [ByteArray.size_append]; rfl
            omega
          have hs4 : ¬ 9223372036854775807 < jx.size + 1 + y.size := by omega
          rcases Nat.eq_zero_or_pos k with h0 | h0
          · have gk : decide ((0 : Int) < (k : Int)) = false := decide_eq_false (by omega)
            have gk2 : decide (0 < k) = false := decide_eq_false (by omega)
            have gk3 : ¬ 0 < k := by omega
            have Hj := Lib.hid (Hjoin0.out h0)
            clear h0 Hjoin0 Hjoin1
            cases r
            · go_wp2_with fail
              refine ⟨⟨k + 1, false, by omega, rfl, by rw [Hj.out], rfl, Hnr.out false ⟨fun h => (by cases h), fun h => (by cases h.1)⟩, Hns.out, Hbel.out⟩, ?_⟩
              show l.length - ((k : Int) + 1).toNat < l.length - (k : Int).toNat
              omega
            · go_wp2_with (go_at_call 14; refine RNt.out.mono ?_; rintro e w2 ⟨rfl, hb2⟩; have hc2 := (hb2.cell (p := ⟨ub, uo + k, none⟩) (Nat.lt_of_lt_of_le hub Hbel.out.size)).trans hc1)
              refine ⟨⟨k + 1, dn, by omega, rfl, by rw [Hj.out], rfl, Hnr.out dn (by simpa using Hdn.out), Hns.out, STEP.out _ _ Hbel.out hb2⟩, ?_⟩
              show l.length - ((k : Int) + 1).toNat < l.length - (k : Int).toNat
              omega
          · have gk2 : decide (0 < k) = true := decide_eq_true h0
            have Hj := Lib.hid (Hjoin1.out h0)
            clear Hjoin0 Hjoin1
            cases r
            · go_wp2_with fail
              refine ⟨⟨k + 1, false, by omega, rfl, by rw [Hj.out], rfl, Hnr.out false ⟨fun h => (by cases h), fun h => (by cases h.1)⟩, Hns.out, Hbel.out⟩, ?_⟩
              show l.length - ((k : Int) + 1).toNat < l.length - (k : Int).toNat
              omega
            · go_wp2_with (go_at_call 14; refine RNt.out.mono ?_; rintro e w2 ⟨rfl, hb2⟩; have hc2 := (hb2.cell (p := ⟨ub, uo + k, none⟩) (Nat.lt_of_lt_of_le hub Hbel.out.size)).trans hc1)
              refine ⟨⟨k + 1, dn, by omega, rfl, by rw [Hj.out], rfl, Hnr.out dn (by simpa using Hdn.out), Hns.out, STEP.out _ _ Hbel.out hb2⟩, ?_⟩
              show l.length - ((k : Int) + 1).toNat < l.length - (k : Int).toNat
              omega
      · obtain rfl : k = l.length := by omega
        have htl : l.take (l.length) = l := List.take_of_length_le (by have := Hlen.out; omega)
        have hk1 : decide (((l.length : Nat) : Int) < (l.length : Int)) = false := decide_eq_false (by omega)
        rw [htl] at Hr Hsm Hjl ⊢
        have HJ := Lib.hid (HJ0.out l hm Hsm.out wr F _ (Hcells.out.below Hbel.out))
        have RR2 := Lib.hid (RR.out (Pth.join l) (by have := Hjl.out; omega))
        have hJ : Pth.Joins l ↔ (r = true ∧ Pth.Right (Pth.join l)) := by
          unfold Pth.Joins
          rw [Hr.out]
          constructor
          · rintro ⟨a1, a2, a3⟩
            exact ⟨⟨by have := List.length_pos_iff.2 a1; have := Hlen.out; omega, a2⟩, a3⟩
          · rintro ⟨⟨a1, a2⟩, a3⟩
            exact ⟨List.length_pos_iff.1 (by have := Hlen.out; omega), a2, a3⟩
        have hee : ((mk (Pth.join l)).toList == (mk (Pth.join l)).toList) = true := beq_self_eq_true _
        cases r
        · rw [if_neg (fun h => by have := (hJ.1 h).1; cases this)] at HJ
          clear hJ
          generalize mk (Pth.join l) = jx at *
          go_wp2_with (first
            | (go_at_call 11; refine HJ.out.mono ?_; rintro e w4 ⟨rfl, bb⟩; have B1 := STEP.out _ _ Hbel.out bb; clear bb)
            | (go_at_call 7; refine (AW.out _).mono ?_; rintro e w5 ⟨rfl, bb⟩; have B1 := STEP.out _ _ B1 bb; clear bb))
          go_ret
          exact ⟨rfl, B1⟩
        · by_cases hR : Pth.Right (Pth.join l)
          · rw [if_pos (hJ.2 ⟨rfl, hR⟩)] at HJ
            rw [decide_eq_true hR] at RR2
            clear hJ hR
            generalize mk (Pth.join l) = jx at *
            go_wp2_with (first
              | (go_at_call 11; refine HJ.out.mono ?_; rintro e w4 ⟨rfl, bb⟩; have B1 := STEP.out _ _ Hbel.out bb; clear bb)
              | (go_at_call 10; refine (RR2.out _).mono ?_; rintro e w6 ⟨rfl, bb⟩; have B1 := STEP.out _ _ B1 bb; clear bb)
              | (go_at_call 7; refine (AW.out _).mono ?_; rintro e w5 ⟨rfl, bb⟩; have B1 := STEP.out _ _ B1 bb; clear bb))
            go_ret
            exact ⟨rfl, B1⟩
          · rw [if_neg (fun h => hR (hJ.1 h).2)] at HJ
            rw [decide_eq_false hR] at RR2
            clear hJ hR
            generalize mk (Pth.join l) = jx at *
            go_wp2_with (first
              | (go_at_call 11; refine HJ.out.mono ?_; rintro e w4 ⟨rfl, bb⟩; have B1 := STEP.out _ _ Hbel.out bb; clear bb)
              | (go_at_call 10; refine (RR2.out _).mono ?_; rintro e w6 ⟨rfl, bb⟩; have B1 := STEP.out _ _ B1 bb; clear bb)
              | (go_at_call 7; refine (AW.out _).mono ?_; rintro e w5 ⟨rfl, bb⟩; have B1 := STEP.out _ _ B1 bb; clear bb))
            go_ret
            exact ⟨rfl, B1⟩
  · have g1 : decide ((20 : Int) < (l.length : Int)) = true := decide_eq_true (by omega)
    have hcap : (20 : Int) ≤ (c : Int) := by omega
    have hl0 : l.length ≤ 9223372036854775807 := hl63
    have Hcells : Hid (Cells w F (.slice A 20 c) (texts (l.take 20))) := Lib.hid (cut_cells (n := l.length) ⟨A, c, by rw [texts_len], by rw [texts_len]; exact hlc, fun h => hat (by rwa [texts_len] at h)⟩ 20 (by omega))
    have hM : (l.take 20).length = 20 := by rw [List.length_take]; omega
    clear hat
    generalize hN : l.length = N at *
    generalize hl2 : l.take 20 = m at *
    clear hl2 hN l
    obtain ⟨l, rfl⟩ : ∃ l, l = m := ⟨m, rfl⟩
    have hm : l.length ≤ 20 := by omega
    have Hcells := Hcells
    go_enter Try.func4, Try.ntmps4
    go_wp2_with fail
    have Hlen := Lib.hid hM
    go_loopw [3, 4, 5] (fun q r i wr => ∃ (k : Nat) (b : Bool), k ≤ 20 ∧ i = .int .i64 (k : Int) ∧ q = .string (mk (Pth.join (l.take k))) ∧ r = .bool b ∧ (b = true ↔ (0 < 20 ∧ ∀ t ∈ l.take k, Pth.Name t)) ∧ (∀ t ∈ l.take k, t.length ≤ 100) ∧ Below w.heap.size w wr) (fun _ _ i _ => 20 - (intOf i).toNat)
    case atStart => exact ⟨0, true, Nat.zero_le _, rfl, rfl, rfl, by simp, by simp, Below.refl _ _⟩
    case round =>
      obtain ⟨k, r, hk, rfl, rfl, rfl, hr, hsm, hbel⟩ := hrel
      have hk0 : (0 : Int) ≤ (k : Int) := by omega
      have Hr := Lib.hid hr
      have Hsm := Lib.hid hsm
      have Hbel := Lib.hid hbel
      have Hjl : Hid ((Pth.join (l.take k)).length ≤ 101 * k) := Lib.hid (by
        have := Pth.join_len (l.take k) hsm
        rw [List.length_take] at this
        omega)
      clear hr hsm hbel
      by_cases hlt : k < 20
      · have hk1 : (k : Int) < (20 : Int) := by omega
        have hltl : k < l.length := by have := Hlen.out; omega
        obtain ⟨t, ht⟩ : ∃ t, l[k]? = some t := ⟨_, List.getElem?_eq_getElem hltl⟩
        obtain ⟨hl, he⟩ := List.getElem?_eq_some_iff.1 ht
        obtain ⟨ub, uo, rfl, hub, huk⟩ : ∃ ub uo, A = some ⟨ub, uo, none⟩ ∧ ub < w.heap.size ∧ w.cell? ⟨ub, uo + k, none⟩ = some (.string (mk t)) := by
          obtain ⟨A', c', e, hc, hat⟩ := Hcells.out
          injection e with e1 e2 e3
          subst e1 e3
          rw [texts_len] at hat
          obtain ⟨b, o, h1, -, h2, h3⟩ := hat (by omega)
          exact ⟨b, o, h1, h2, h3 k _ (texts_at ht)⟩
        have hc1 : wr.cell? ⟨ub, uo + k, none⟩ = some (.string (mk t)) := (Hbel.out.cell (p := ⟨ub, uo + k, none⟩) hub).trans huk
        have htk : l.take (k + 1) = l.take k ++ [t] := by rw [List.take_succ_eq_append_getElem hl, he]
        have lt : (mk t).size = t.length := mk_len t
        by_cases hbig : 100 < t.length
        · have gb : decide ((100 : Int) < ((mk t).size : Int)) = true := by rw [lt]; exact decide_eq_true (by omega)
          clear huk ht hl he htk lt
          generalize mk t = y at *
          generalize mk (Pth.join (l.take k)) = jx at *
          go_wp2_with (go_at_call 7; refine (AW.out _).mono ?_; rintro e w5 ⟨rfl, bb⟩)
          go_ret
          exact ⟨rfl, STEP.out _ _ Hbel.out bb⟩
        · have gb : decide ((100 : Int) < ((mk t).size : Int)) = false := by rw [lt]; exact decide_eq_false (by omega)
          have hyl : ((mk t).size : Int) ≤ 100 := by rw [lt]; omega
          have hjl : ((mk (Pth.join (l.take k))).size : Int) ≤ 2020 := by rw [mk_len]; have := Hjl.out; omega
          have RNt := Lib.hid (RN.out t (by omega) wr)
          have Hnr : Hid (∀ b : Bool, (b = true ↔ (r = true ∧ Pth.Name t)) → (b = true ↔ (0 < 20 ∧ ∀ x ∈ l.take (k + 1), Pth.Name x))) := Lib.hid (fun b hb => by
            rw [hb, Hr.out, htk]
            constructor
            · rintro ⟨⟨a1, a2⟩, a3⟩
              refine ⟨a1, fun x hx => ?_⟩
              rw [List.mem_append] at hx
              rcases hx with hx | hx
              · exact a2 x hx
              · rw [List.mem_singleton.1 hx]; exact a3
            · rintro ⟨a1, a2⟩
              exact ⟨⟨a1, fun x hx => a2 x (List.mem_append_left _ hx)⟩, a2 t (by simp)⟩)
          have Hns : Hid (∀ x ∈ l.take (k + 1), x.length ≤ 100) := Lib.hid (fun x hx => by
            rw [htk, List.mem_append] at hx
            rcases hx with hx | hx
            · exact Hsm.out x hx
            · rw [List.mem_singleton.1 hx]; omega)
          have Hjoin0 : Hid (k = 0 → mk (Pth.join (l.take k)) ++ mk t = mk (Pth.join (l.take (k + 1)))) := Lib.hid (fun h0 => by
            rw [htk, Pth.join_snoc, h0, if_pos (by simp), mk_app]
            rfl)
          have Hjoin1 : Hid (0 < k → mk (Pth.join (l.take k)) ++ ⟨#[47]⟩ ++ mk t = mk (Pth.join (l.take (k + 1)))) := Lib.hid (fun h0 => by
            rw [htk, Pth.join_snoc, if_neg (by intro e; have := congrArg List.length e; rw [List.length_take, List.length_nil] at this; omega)]
            rw [show (⟨#[47]⟩ : ByteArray) = mk [47] from rfl, mk_app, mk_app, List.append_assoc]
            rfl)
          clear huk ht hl he htk lt hbig hltl
          generalize hdn : decide (Pth.Name t) = dn at *
          have Hdn : Hid (dn = true ↔ Pth.Name t) := Lib.hid (by rw [← hdn]; exact decide_eq_true_iff)
          clear hdn
          generalize mk t = y at *
          generalize mk (Pth.join (l.take k)) = jx at *
          have hs1 : ¬ 9223372036854775807 < jx.size + 1 := by omega
          have hs2 : ¬ 9223372036854775807 < jx.size + y.size := by omega
          have hs3 : ¬ 9223372036854775807 < (jx ++ ⟨#[47]⟩).size + y.size := by
            have : (jx ++ (⟨#[47]⟩ : ByteArray)).size = jx.size + 1 := by rw [ByteArray.size_append]; rfl
            omega
          have hs4 : ¬ 9223372036854775807 < jx.size + 1 + y.size := by omega
          rcases Nat.eq_zero_or_pos k with h0 | h0
          · have gk : decide ((0 : Int) < (k : Int)) = false := decide_eq_false (by omega)
            have gk2 : decide (0 < k) = false := decide_eq_false (by omega)
            have gk3 : ¬ 0 < k := by omega
            have Hj := Lib.hid (Hjoin0.out h0)
            clear h0 Hjoin0 Hjoin1
            cases r
            · go_wp2_with fail
              refine ⟨⟨k + 1, false, by omega, rfl, by rw [Hj.out], rfl, Hnr.out false ⟨fun h => (by cases h), fun h => (by cases h.1)⟩, Hns.out, Hbel.out⟩, ?_⟩
              show 20 - ((k : Int) + 1).toNat < 20 - (k : Int).toNat
              omega
            · go_wp2_with (go_at_call 14; refine RNt.out.mono ?_; rintro e w2 ⟨rfl, hb2⟩; have hc2 := (hb2.cell (p := ⟨ub, uo + k, none⟩) (Nat.lt_of_lt_of_le hub Hbel.out.size)).trans hc1)
              refine ⟨⟨k + 1, dn, by omega, rfl, by rw [Hj.out], rfl, Hnr.out dn (by simpa using Hdn.out), Hns.out, STEP.out _ _ Hbel.out hb2⟩, ?_⟩
              show 20 - ((k : Int) + 1).toNat < 20 - (k : Int).toNat
              omega
          · have gk2 : decide (0 < k) = true := decide_eq_true h0
            have Hj := Lib.hid (Hjoin1.out h0)
            clear Hjoin0 Hjoin1
            cases r
            · go_wp2_with fail
              refine ⟨⟨k + 1, false, by omega, rfl, by rw [Hj.out], rfl, Hnr.out false ⟨fun h => (by cases h), fun h => (by cases h.1)⟩, Hns.out, Hbel.out⟩, ?_⟩
              show 20 - ((k : Int) + 1).toNat < 20 - (k : Int).toNat
              omega
            · go_wp2_with (go_at_call 14; refine RNt.out.mono ?_; rintro e w2 ⟨rfl, hb2⟩; have hc2 := (hb2.cell (p := ⟨ub, uo + k, none⟩) (Nat.lt_of_lt_of_le hub Hbel.out.size)).trans hc1)
              refine ⟨⟨k + 1, dn, by omega, rfl, by rw [Hj.out], rfl, Hnr.out dn (by simpa using Hdn.out), Hns.out, STEP.out _ _ Hbel.out hb2⟩, ?_⟩
              show 20 - ((k : Int) + 1).toNat < 20 - (k : Int).toNat
              omega
      · obtain rfl : k = 20 := by omega
        have htl : l.take (20) = l := List.take_of_length_le (by have := Hlen.out; omega)
        have hk1 : decide (((20 : Nat) : Int) < (20 : Int)) = false := decide_eq_false (by omega)
        rw [htl] at Hr Hsm Hjl ⊢
        have HJ := Lib.hid (HJ0.out l hm Hsm.out wr F _ (Hcells.out.below Hbel.out))
        have RR2 := Lib.hid (RR.out (Pth.join l) (by have := Hjl.out; omega))
        have hJ : Pth.Joins l ↔ (r = true ∧ Pth.Right (Pth.join l)) := by
          unfold Pth.Joins
          rw [Hr.out]
          constructor
          · rintro ⟨a1, a2, a3⟩
            exact ⟨⟨by have := List.length_pos_iff.2 a1; have := Hlen.out; omega, a2⟩, a3⟩
          · rintro ⟨⟨a1, a2⟩, a3⟩
            exact ⟨List.length_pos_iff.1 (by have := Hlen.out; omega), a2, a3⟩
        have hee : ((mk (Pth.join l)).toList == (mk (Pth.join l)).toList) = true := beq_self_eq_true _
        cases r
        · rw [if_neg (fun h => by have := (hJ.1 h).1; cases this)] at HJ
          clear hJ
          generalize mk (Pth.join l) = jx at *
          go_wp2_with (first
            | (go_at_call 11; refine HJ.out.mono ?_; rintro e w4 ⟨rfl, bb⟩; have B1 := STEP.out _ _ Hbel.out bb; clear bb)
            | (go_at_call 7; refine (AW.out _).mono ?_; rintro e w5 ⟨rfl, bb⟩; have B1 := STEP.out _ _ B1 bb; clear bb))
          go_ret
          exact ⟨rfl, B1⟩
        · by_cases hR : Pth.Right (Pth.join l)
          · rw [if_pos (hJ.2 ⟨rfl, hR⟩)] at HJ
            rw [decide_eq_true hR] at RR2
            clear hJ hR
            generalize mk (Pth.join l) = jx at *
            go_wp2_with (first
              | (go_at_call 11; refine HJ.out.mono ?_; rintro e w4 ⟨rfl, bb⟩; have B1 := STEP.out _ _ Hbel.out bb; clear bb)
              | (go_at_call 10; refine (RR2.out _).mono ?_; rintro e w6 ⟨rfl, bb⟩; have B1 := STEP.out _ _ B1 bb; clear bb)
              | (go_at_call 7; refine (AW.out _).mono ?_; rintro e w5 ⟨rfl, bb⟩; have B1 := STEP.out _ _ B1 bb; clear bb))
            go_ret
            exact ⟨rfl, B1⟩
          · rw [if_neg (fun h => hR (hJ.1 h).2)] at HJ
            rw [decide_eq_false hR] at RR2
            clear hJ hR
            generalize mk (Pth.join l) = jx at *
            go_wp2_with (first
              | (go_at_call 11; refine HJ.out.mono ?_; rintro e w4 ⟨rfl, bb⟩; have B1 := STEP.out _ _ Hbel.out bb; clear bb)
              | (go_at_call 10; refine (RR2.out _).mono ?_; rintro e w6 ⟨rfl, bb⟩; have B1 := STEP.out _ _ B1 bb; clear bb)
              | (go_at_call 7; refine (AW.out _).mono ?_; rintro e w5 ⟨rfl, bb⟩; have B1 := STEP.out _ _ B1 bb; clear bb))
            go_ret
            exact ⟨rfl, B1⟩
end Go.Proofs.Ytadgdppkokbphaa
