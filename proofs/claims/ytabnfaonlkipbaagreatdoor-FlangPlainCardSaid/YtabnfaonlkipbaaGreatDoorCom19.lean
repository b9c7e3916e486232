/- The landed flang: layer with its closure, clauseText; strings.Join of texts. -/
import Derived.Test.YtabnfaonlkipbaaGreatDoorCom15
import Derived.Test.YtabnfaonlkipbaaGreatDoorCom12
import Derived.Test.YtabnfaonlkipbaaGreatDoorCom13
import Derived.Test.YtabnfaonlkipbaaGreatDoorCom9
import Derived.Test.YtabnfaonlkipbaaGreatDoorCom18
import Derived.Laws.StructEq
import Derived.Lib.Join
set_option linter.unusedSimpArgs false
set_option linter.unusedVariables false
namespace Go.Proofs.YtabnfaonlkipbaaGreatDoor
open Go.RowKit

set_option maxRecDepth 100000 in
theorem Flg.join_lib (c : UInt8) : ∀ l : List Flt.Tx, Lib.join l [c] = Flg.joinC c l
  | [] => rfl
  | [a] => Lib.join_one a [c]
  | a :: b :: l => by
    have h := Flg.join_lib c (b :: l)
    rw [Lib.join_cons] at h ⊢
    show _ = a ++ c :: Flg.joinC c (b :: l)
    rw [← h]
    simp [Lib.joinTail]
set_option maxRecDepth 100000 in
theorem Flg.flat_lib : ∀ l : List Flt.Tx, Lib.join l [] = l.flatten
  | [] => rfl
  | a :: l => by
    rw [Lib.join_cons]
    simp [Lib.joinTail]
set_option maxRecDepth 100000 in
theorem join_texts11 {w : World} {F : Nat → Prop} {v : Value} {l : List (List UInt8)} (sep : List UInt8) (h : Txs w F v l) (hl : l.length ≤ 100000) (hj : (Lib.join l sep).length ≤ 100000000) :
    Calls Tryz.prog 18 #[v, .string (mk sep)] w fun e w' => e = .returned (.string (mk (Lib.join l sep))) ∧ Below w.heap.size w w' := by
  obtain ⟨A, c, rfl, hc, hat⟩ := h
  by_cases h0 : 0 < l.length
  · obtain ⟨b, o, rfl, -, hb, hk⟩ := hat h0
    have hid : ((fun x : ByteArray => x.data.toList) ∘ mk) = id := rfl
    have hS := Tryz.strings_Join b o c (l.map mk) (mk sep) w (fun j x hx => by
      rw [List.getElem?_map] at hx
      obtain ⟨t, ht, rfl⟩ := Option.map_eq_some_iff.1 hx
      have := hk j t ht 0 _ rfl
      rwa [Nat.mul_one] at this) hb (by rw [List.length_map]; omega) (by rw [List.length_map]; exact hc) (by
      rw [List.map_map, hid, List.map_id, mk_data]; omega)
    rw [List.map_map, hid, List.map_id, mk_data, List.length_map] at hS
    exact hS
  · obtain rfl : l = [] := List.eq_nil_of_length_eq_zero (by omega)
    refine (Tryz.strings_Join_none A c (mk sep) w).mono ?_
    rintro e w' ⟨rfl, rfl⟩
    exact ⟨rfl, Below.refl _ _⟩

set_option maxRecDepth 100000 in
set_option maxHeartbeats 1600000 in
theorem flg_layer (c : Flt.Cl) (w : World) :
    Calls Tryz.prog 33 #[.agg #[.string (mk c.pre), .int .i64 c.lo, .int .i64 c.hi]] w fun e w' => ∃ B, e = .returned (.func (.func 53) #[] #[.pointer (some ⟨B, 0, none⟩)]) ∧ w'.cell? ⟨B, 0, none⟩ = some (.string (mk (Flg.star c.pre))) ∧ B < w'.heap.size ∧ Below w.heap.size w w' := by
  obtain ⟨p, lo, hi⟩ := c
  have ea := str_nil p
  have ia := str_empty p
  have hb1 : Below w.heap.size w (w.alloc (.cells #[.string (mk p), .int .i64 lo, .int .i64 hi] 42)) := (Below.refl _ _).alloc (Nat.le_refl _) _
  have hb2 := hb1.alloc hb1.size (.cells #[.string (mk p)] 9)
  have RW := Row.made (w.alloc (.cells #[.string (mk p), .int .i64 lo, .int .i64 hi] 42)) 9 #[.string (mk p)]
  have hz : (w.alloc (.cells #[.string (mk p), .int .i64 lo, .int .i64 hi] 42)).heap.size = w.heap.size + 1 := by simp
  rw [hz] at RW
  have q0 := RW.at 0
  have f0 := RW.free 0
  have hlt := RW.inHeap
  by_cases hp : p = []
  · have hs : Hid (mk (Flg.star p) = ⟨#[42]⟩) := Lib.hid (by unfold Flg.star; rw [if_pos hp]; rfl)
    rw [decide_eq_true hp] at ea ia
    have RS := Row.made (w.alloc (.cells #[.string (mk p), .int .i64 lo, .int .i64 hi] 42)) 9 #[.string ⟨#[42]⟩]
    rw [hz] at RS
    have HF : Hid (((w.alloc (.cells #[.string (mk p), .int .i64 lo, .int .i64 hi] 42)).alloc (.cells #[.string ⟨#[42]⟩] 9)).cell? ⟨w.heap.size + 1, 0, none⟩ = some (.string ⟨#[42]⟩)) := Lib.hid (RS.at 0)
    have HG : Hid (Below w.heap.size w ((w.alloc (.cells #[.string (mk p), .int .i64 lo, .int .i64 hi] 42)).alloc (.cells #[.string ⟨#[42]⟩] 9))) := Lib.hid (hb1.alloc hb1.size _)
    have HL : Hid (w.heap.size + 1 < ((w.alloc (.cells #[.string (mk p), .int .i64 lo, .int .i64 hi] 42)).alloc (.cells #[.string ⟨#[42]⟩] 9)).heap.size) := Lib.hid RS.inHeap
    clear hp RS hb1 hb2 RW hz hlt
    generalize mk p = x at *
    go_enter Tryz.func33, Tryz.ntmps33
    go_wp2_with fail
    go_ret
    exact ⟨_, rfl, by rw [hs.out]; exact HF.out, HL.out, HG.out⟩
  · have hs : Hid (mk (Flg.star p) = mk p) := Lib.hid (by unfold Flg.star; rw [if_neg hp])
    rw [decide_eq_false hp] at ea ia
    have HF := Lib.hid q0
    have HG := Lib.hid hb2
    have HL := Lib.hid hlt
    clear hp hb1 hb2 RW hz hlt
    generalize mk p = x at *
    go_enter Tryz.func33, Tryz.ntmps33
    go_wp2_with fail
    go_ret
    exact ⟨_, rfl, by rw [hs.out]; exact HF.out, HL.out, HG.out⟩

set_option maxRecDepth 100000 in
set_option maxHeartbeats 1600000 in
theorem flg_laid {w : World} {F : Nat → Prop} {v : Value} {l : List (List UInt8)} {p : List UInt8} {B : Nat} (hB : w.cell? ⟨B, 0, none⟩ = some (.string (mk p))) (hlt : B < w.heap.size) (h : Txs w F v l) (hl : l.length ≤ 100000) (hj : l.flatten.length ≤ 100000000) (hp : p.length ≤ 100000) :
    Calls Tryz.prog 53 #[v, .pointer (some ⟨B, 0, none⟩)] w fun e w' => e = .returned (.string (mk (p ++ l.flatten))) ∧ Below w.heap.size w w' := by
  have JO := Lib.hid (fun (W : World) (hW : Below w.heap.size w W) => join_texts11 [] (h.below hW) hl (by rw [Flg.flat_lib]; exact hj))
  rw [Flg.flat_lib] at JO
  have e0 : mk [] = ⟨#[]⟩ := rfl
  rw [e0] at JO
  have CB : Hid (∀ W, Below w.heap.size w W → W.cell? ⟨B, 0, none⟩ = some (.string (mk p))) := Lib.hid (fun W hW => (hW.cell (p := ⟨B, 0, none⟩) hlt).trans hB)
  have lp : (mk p).size ≤ 100000 := by rw [mk_len]; exact hp
  have lf : (mk l.flatten).size ≤ 100000000 := by rw [mk_len]; exact hj
  have hfin : Hid (mk p ++ mk l.flatten = mk (p ++ l.flatten)) := Lib.hid (mk_append _ _)
  have n0 : ¬ 9223372036854775807 < (mk p).size + (mk l.flatten).size := by omega
  clear hB hlt h hl hj hp e0
  generalize mk p = x at *
  generalize mk l.flatten = y at *
  go_enter Tryz.func53, Tryz.ntmps53
  go_wp2_with fail
  refine wp_region_held_drew (S := (fun w' : World => Below w.heap.size w w')) (by kernel_rfl) ((Below.refl _ _).drew) (fun hHeld => ?_)
  refine wpAnyH_take (i := 0) (v := ?_) rfl (by kernel_rfl) (by kernel_rfl) (by kernel_rfl) (fun _ _ _ h => h) (Or.inl ⟨by rfl, (by intro w hSw; have d0 := CB.out _ hSw; go_simp; try with_reducible rfl)⟩) (by assumption) ?_
  simp only [Act.put, List.getElem_toArray, List.getElem_cons_zero, List.getElem_cons_succ, List.setIfInBounds_toArray, List.set_cons_zero, List.set_cons_succ]
  refine wpAnyH_take (i := 1) (v := ?_) rfl (by kernel_rfl) (by kernel_rfl) (by kernel_rfl) (fun _ _ _ h => h) (Or.inl ⟨by rfl, (by intro w hSw; go_simp; try with_reducible rfl)⟩) (by assumption) ?_
  simp only [Act.put, List.getElem_toArray, List.getElem_cons_zero, List.getElem_cons_succ, List.setIfInBounds_toArray, List.set_cons_zero, List.set_cons_succ]
  refine wpAnyH_ready (rs := [2]) (by kernel_rfl) (by simp) ?_
  refine AllReadyH.cons rfl (fun K hK => ?_) AllReadyH.nil
  go_simp
  go_at_call 18
  refine (JO.out _ hHeld).mono ?_
  rintro e wa ⟨rfl, hbN⟩
  have hhN := hHeld.trans (hbN.mono hHeld.size)
  clear hbN
  refine hK.out _ _ hhN (fun hHeld => ?_)
  clear hhN
  clear hK K
  refine wpAnyH_take (i := 3) (v := ?_) rfl (by kernel_rfl) (by kernel_rfl) (by kernel_rfl) (fun _ _ _ h => h) (Or.inl ⟨by rfl, (by intro w hSw; go_simp; try with_reducible rfl)⟩) (by assumption) ?_
  simp only [Act.put, List.getElem_toArray, List.getElem_cons_zero, List.getElem_cons_succ, List.setIfInBounds_toArray, List.set_cons_zero, List.set_cons_succ]
  refine wpAnyH_take (i := 4) (v := ?_) rfl (by kernel_rfl) (by kernel_rfl) (by kernel_rfl) (fun _ _ _ h => h) (Or.inl ⟨by rfl, (by intro w hSw; go_simp; try with_reducible rfl)⟩) (by assumption) ?_
  simp only [Act.put, List.getElem_toArray, List.getElem_cons_zero, List.getElem_cons_succ, List.setIfInBounds_toArray, List.set_cons_zero, List.set_cons_succ]
  refine wpAnyH_done (by kernel_rfl) ?_ _
  go_wp2_with fail
  go_ret
  exact ⟨by rw [← hfin.out]; rfl, hHeld⟩

set_option maxRecDepth 100000 in
theorem flg_ite1 {α : Type} {p q : Prop} [Decidable p] [Decidable q] (h : p ∧ q) (a b : α) : (if p then if q then a else b else b) = a := by rw [if_pos h.1, if_pos h.2]
set_option maxRecDepth 100000 in
theorem flg_ite2 {α : Type} {p q : Prop} [Decidable p] [Decidable q] (h : ¬ (p ∧ q)) (a b : α) : (if p then if q then a else b else b) = b := by
  by_cases hp : p
  · rw [if_pos hp, if_neg (fun hq => h ⟨hp, hq⟩)]
  · rw [if_neg hp]

set_option maxRecDepth 100000 in
/-- Four texts that were just laid. -/
theorem four_made (w : World) (a b c d : List UInt8) : Txs (w.alloc (.cells #[.string (mk a), .string (mk b), .string (mk c), .string (mk d)] 9)) (fun i => i = w.heap.size) (.slice (some ⟨w.heap.size, 0, none⟩) 4 4) [a, b, c, d] := by
  refine ⟨_, 4, rfl, Nat.le_refl _, fun _ => ⟨w.heap.size, 0, rfl, rfl, by simp, fun i x hx j u hu => ?_⟩⟩
  rw [(Row.made w _ _).at, Nat.zero_add]
  match j, hu with
  | 0, hu =>
    match i, hx with
    | 0, hx => injection hx with hx; subst hx; simpa [txV] using hu
    | 1, hx => injection hx with hx; subst hx; simpa [txV] using hu
    | 2, hx => injection hx with hx; subst hx; simpa [txV] using hu
    | 3, hx => injection hx with hx; subst hx; simpa [txV] using hu

set_option maxRecDepth 100000 in
set_option maxHeartbeats 3200000 in
theorem flg_text (c : Flt.Cl) (w : World) (hT : Flg.Tabs w) (hc : Flt.Right c) :
    Calls Tryz.prog 17 #[.agg #[.string (mk c.pre), .int .i64 c.lo, .int .i64 c.hi]] w fun e w' => e = .returned (.string (mk (Flg.one c))) ∧ Below w.heap.size w w' := by
  have hB0 : Below w.heap.size w (w.alloc (.cells #[.string (mk c.pre), .int .i64 c.lo, .int .i64 c.hi] 42)) := (Below.refl _ _).alloc (Nat.le_refl _) _
  have LA := Lib.hid (flg_layer c (w.alloc (.cells #[.string (mk c.pre), .int .i64 c.lo, .int .i64 c.hi] 42)))
  have RW := Lib.hid (Row.made w 42 #[.string (mk c.pre), .int .i64 c.lo, .int .i64 c.hi])
  have q0 := RW.out.at 0
  have q1 := RW.out.at 1
  have q2 := RW.out.at 2
  have WH := Lib.hid (fun W => flg_whole W)
  have HB0 := Lib.hid hB0
  have HZ : Hid (w.heap.size < (w.alloc (.cells #[.string (mk c.pre), .int .i64 c.lo, .int .i64 c.hi] 42)).heap.size) := Lib.hid (by simp)
  have hbd := hc.2
  have hsl : (Flg.star c.pre).length ≤ 100000 := by
    unfold Flg.star
    split
    · simp
    · rename_i hne
      have := (hc.1.resolve_left hne).2.1
      omega
  have LI := Lib.hid (fun (P : Nat → Prop) (W : World) (B : Nat) (v : Value) (l : List (List UInt8)) (hB : W.cell? ⟨B, 0, none⟩ = some (.string (mk (Flg.star c.pre)))) (hlt : B < W.heap.size) (h : Txs W P v l) (hl : l.length ≤ 100000) (hj : l.flatten.length ≤ 100000000) => flg_laid hB hlt h hl hj hsl)
  have HTW := Lib.hid (fun (W : World) (hW : Below w.heap.size w W) => hT.below hW)
  clear hB0 hT hsl
  by_cases hw : c.lo = 0 ∧ c.hi = 200
  · have hfin : Hid (Flg.one c = Flg.star c.pre ++ ([] : List (List UInt8)).flatten) := Lib.hid (by unfold Flg.one; rw [if_pos hw]; rfl)
    have EQ := Lib.hid hw
    clear hw hc hbd
    generalize Flg.star c.pre = sp at *
    generalize mk c.pre = x at *
    generalize c.lo = lo at *
    generalize c.hi = hi at *
    go_enter Tryz.func17, Tryz.ntmps17
    go_wp2_with fail
    refine (LA.out).mono ?_
    rintro e w1 ⟨B, rfl, hB, hlt, hb1⟩
    have CB : Hid (∀ W, Below w1.heap.size w1 W → W.cell? ⟨B, 0, none⟩ = some (.string (mk sp)) ∧ B < W.heap.size) := Lib.hid (fun W hW => ⟨(hW.cell (p := ⟨B, 0, none⟩) hlt).trans hB, Nat.lt_of_lt_of_le hlt hW.size⟩)
    have CC : Hid (∀ W, Below w1.heap.size w1 W → W.cell? ⟨w.heap.size, 1, none⟩ = some (.int .i64 lo) ∧ W.cell? ⟨w.heap.size, 2, none⟩ = some (.int .i64 hi)) := Lib.hid (fun W hW => by
      have h1 := RW.out.below hb1 HZ.out
      have h2 := h1.below hW h1.inHeap
      exact ⟨h2.at 1, h2.at 2⟩)
    have K1 := Lib.hid (HB0.out.trans (hb1.mono HB0.out.size))
    clear hB hlt hb1
    go_wp2_with fail
    refine wp_region_held_drew (S := (fun w' : World => Below w1.heap.size w1 w')) (by kernel_rfl) ((Below.refl _ _).drew) (fun hHeld => ?_)
    refine wpAnyH_take (i := 0) (v := ?_) rfl (by kernel_rfl) (by kernel_rfl) (by kernel_rfl) (fun _ _ _ h => h) (Or.inl ⟨by rfl, (by intro w hSw; go_simp; try with_reducible rfl)⟩) (by assumption) ?_
    simp only [Act.put, List.getElem_toArray, List.getElem_cons_zero, List.getElem_cons_succ, List.setIfInBounds_toArray, List.set_cons_zero, List.set_cons_succ]
    refine wpAnyH_take (i := 1) (v := ?_) rfl (by kernel_rfl) (by kernel_rfl) (by kernel_rfl) (fun _ _ _ h => h) (Or.inl ⟨by rfl, (by intro w hSw; have d0 := (CC.out _ hSw).1; have d1 := (CC.out _ hSw).2; go_simp; try with_reducible rfl)⟩) (by assumption) ?_
    simp only [Act.put, List.getElem_toArray, List.getElem_cons_zero, List.getElem_cons_succ, List.setIfInBounds_toArray, List.set_cons_zero, List.set_cons_succ]
    refine wpAnyH_ready (rs := [2]) (by kernel_rfl) (by simp) ?_
    refine AllReadyH.cons rfl (fun K hK => ?_) AllReadyH.nil
    go_simp
    go_at_call 22
    refine (WH.out _).mono ?_
    rintro e wa ⟨rfl, hbN⟩
    have hhN := hHeld.trans (hbN.mono hHeld.size)
    clear hbN
    refine hK.out _ _ hhN (fun hHeld => ?_)
    clear hhN
    clear hK K
    refine wpAnyH_take (i := 3) (v := ?_) rfl (by kernel_rfl) (by kernel_rfl) (by kernel_rfl) (fun _ _ _ h => h) (Or.inl ⟨by rfl, (by intro w hSw; go_simp; exact flg_ite1 EQ.out _ _)⟩) (by assumption) ?_
    simp only [Act.put, List.getElem_toArray, List.getElem_cons_zero, List.getElem_cons_succ, List.setIfInBounds_toArray, List.set_cons_zero, List.set_cons_succ]
    refine wpAnyH_done (by kernel_rfl) ?_ _
    have K2 := Lib.hid hHeld
    clear hHeld
    have LI2 := Lib.hid (LI.out (fun _ => False) _ B (.slice none 0 0) [] (CB.out _ K2.out).1 (CB.out _ K2.out).2 (Rws.none _ _ _) (by simp) (by simp))
    go_wp2_with fail
    refine (LI2.out).mono ?_
    rintro e w3 ⟨rfl, hb3⟩
    go_wp2_with fail
    go_ret
    exact ⟨by rw [hfin.out]; simp, (K1.out.trans (K2.out.mono K1.out.size)).trans (hb3.mono (K1.out.trans (K2.out.mono K1.out.size)).size)⟩
  · have hfin : Hid (Flg.one c = Flg.star c.pre ++ [[58], Lib.itoa c.lo, [45], Lib.itoa c.hi].flatten) := Lib.hid (by
      unfold Flg.one
      rw [if_neg hw]
      have e1 : Lib.itoa c.lo = Flg.digits c.lo.toNat := by
        have := Flg.itoa_digits c.lo.toNat
        rwa [show ((c.lo.toNat : Nat) : Int) = c.lo from by omega] at this
      have e2 : Lib.itoa c.hi = Flg.digits c.hi.toNat := by
        have := Flg.itoa_digits c.hi.toNat
        rwa [show ((c.hi.toNat : Nat) : Int) = c.hi from by omega] at this
      rw [e1, e2]
      simp)
    have hfl : Hid ([[58], Lib.itoa c.lo, [45], Lib.itoa c.hi].flatten.length ≤ 100000000) := Lib.hid (by
      have h1 : (Flg.one c).length ≤ 48 := Flg.one_len hc
      have h2 := congrArg List.length hfin.out
      rw [List.length_append] at h2
      omega)
    have EQ := Lib.hid hw
    have ITA := Lib.hid (fun (W : World) (hW : Below w.heap.size w W) => itoa_flg c.lo W (HTW.out W hW) (by omega) (by omega))
    have ITB := Lib.hid (fun (W : World) (hW : Below w.heap.size w W) => itoa_flg c.hi W (HTW.out W hW) (by omega) (by omega))
    clear hw hc hbd
    generalize Flg.star c.pre = sp at *
    generalize mk c.pre = x at *
    generalize Lib.itoa c.lo = da at *
    generalize Lib.itoa c.hi = db at *
    generalize c.lo = lo at *
    generalize c.hi = hi at *
    go_enter Tryz.func17, Tryz.ntmps17
    go_wp2_with fail
    refine (LA.out).mono ?_
    rintro e w1 ⟨B, rfl, hB, hlt, hb1⟩
    have CB : Hid (∀ W, Below w1.heap.size w1 W → W.cell? ⟨B, 0, none⟩ = some (.string (mk sp)) ∧ B < W.heap.size) := Lib.hid (fun W hW => ⟨(hW.cell (p := ⟨B, 0, none⟩) hlt).trans hB, Nat.lt_of_lt_of_le hlt hW.size⟩)
    have CC : Hid (∀ W, Below w1.heap.size w1 W → W.cell? ⟨w.heap.size, 1, none⟩ = some (.int .i64 lo) ∧ W.cell? ⟨w.heap.size, 2, none⟩ = some (.int .i64 hi)) := Lib.hid (fun W hW => by
      have h1 := RW.out.below hb1 HZ.out
      have h2 := h1.below hW h1.inHeap
      exact ⟨h2.at 1, h2.at 2⟩)
    have K1 := Lib.hid (HB0.out.trans (hb1.mono HB0.out.size))
    clear hB hlt hb1
    go_wp2_with fail
    refine wp_region_held_drew (S := (fun w' : World => Below w1.heap.size w1 w')) (by kernel_rfl) ((Below.refl _ _).drew) (fun hHeld => ?_)
    refine wpAnyH_take (i := 0) (v := ?_) rfl (by kernel_rfl) (by kernel_rfl) (by kernel_rfl) (fun _ _ _ h => h) (Or.inl ⟨by rfl, (by intro w hSw; go_simp; try with_reducible rfl)⟩) (by assumption) ?_
    simp only [Act.put, List.getElem_toArray, List.getElem_cons_zero, List.getElem_cons_succ, List.setIfInBounds_toArray, List.set_cons_zero, List.set_cons_succ]
    refine wpAnyH_take (i := 1) (v := ?_) rfl (by kernel_rfl) (by kernel_rfl) (by kernel_rfl) (fun _ _ _ h => h) (Or.inl ⟨by rfl, (by intro w hSw; have d0 := (CC.out _ hSw).1; have d1 := (CC.out _ hSw).2; go_simp; try with_reducible rfl)⟩) (by assumption) ?_
    simp only [Act.put, List.getElem_toArray, List.getElem_cons_zero, List.getElem_cons_succ, List.setIfInBounds_toArray, List.set_cons_zero, List.set_cons_succ]
    refine wpAnyH_ready (rs := [2]) (by kernel_rfl) (by simp) ?_
    refine AllReadyH.cons rfl (fun K hK => ?_) AllReadyH.nil
    go_simp
    go_at_call 22
    refine (WH.out _).mono ?_
    rintro e wa ⟨rfl, hbN⟩
    have hhN := hHeld.trans (hbN.mono hHeld.size)
    clear hbN
    refine hK.out _ _ hhN (fun hHeld => ?_)
    clear hhN
    clear hK K
    refine wpAnyH_take (i := 3) (v := ?_) rfl (by kernel_rfl) (by kernel_rfl) (by kernel_rfl) (fun _ _ _ h => h) (Or.inl ⟨by rfl, (by intro w hSw; go_simp; exact flg_ite2 EQ.out _ _)⟩) (by assumption) ?_
    simp only [Act.put, List.getElem_toArray, List.getElem_cons_zero, List.getElem_cons_succ, List.setIfInBounds_toArray, List.set_cons_zero, List.set_cons_succ]
    refine wpAnyH_done (by kernel_rfl) ?_ _
    go_wp2_with fail
    refine wp_region_held_drew (S := (fun w' : World => Below w1.heap.size w1 w')) (by kernel_rfl) hHeld.drew (fun hHeld => ?_)
    refine wpAnyH_take (i := 0) (v := ?_) rfl (by kernel_rfl) (by kernel_rfl) (by kernel_rfl) (fun _ _ _ h => h) (Or.inl ⟨by rfl, (by intro w hSw; go_simp; try with_reducible rfl)⟩) (by assumption) ?_
    simp only [Act.put, List.getElem_toArray, List.getElem_cons_zero, List.getElem_cons_succ, List.setIfInBounds_toArray, List.set_cons_zero, List.set_cons_succ]
    refine wpAnyH_take (i := 1) (v := ?_) rfl (by kernel_rfl) (by kernel_rfl) (by kernel_rfl) (fun _ _ _ h => h) (Or.inl ⟨by rfl, (by intro w hSw; go_simp; try with_reducible rfl)⟩) (by assumption) ?_
    simp only [Act.put, List.getElem_toArray, List.getElem_cons_zero, List.getElem_cons_succ, List.setIfInBounds_toArray, List.set_cons_zero, List.set_cons_succ]
    refine wpAnyH_take (i := 2) (v := ?_) rfl (by kernel_rfl) (by kernel_rfl) (by kernel_rfl) (fun _ _ _ h => h) (Or.inl ⟨by rfl, (by intro w hSw; go_simp; try with_reducible rfl)⟩) (by assumption) ?_
    simp only [Act.put, List.getElem_toArray, List.getElem_cons_zero, List.getElem_cons_succ, List.setIfInBounds_toArray, List.set_cons_zero, List.set_cons_succ]
    refine wpAnyH_take (i := 3) (v := ?_) rfl (by kernel_rfl) (by kernel_rfl) (by kernel_rfl) (fun _ _ _ h => h) (Or.inl ⟨by rfl, (by intro w hSw; have d0 := (CC.out _ hSw).1; have d1 := (CC.out _ hSw).2; go_simp; try with_reducible rfl)⟩) (by assumption) ?_
    simp only [Act.put, List.getElem_toArray, List.getElem_cons_zero, List.getElem_cons_succ, List.setIfInBounds_toArray, List.set_cons_zero, List.set_cons_succ]
    refine wpAnyH_take (i := 5) (v := ?_) rfl (by kernel_rfl) (by kernel_rfl) (by kernel_rfl) (fun _ _ _ h => h) (Or.inl ⟨by rfl, (by intro w hSw; go_simp; try with_reducible rfl)⟩) (by assumption) ?_
    simp only [Act.put, List.getElem_toArray, List.getElem_cons_zero, List.getElem_cons_succ, List.setIfInBounds_toArray, List.set_cons_zero, List.set_cons_succ]
    refine wpAnyH_take (i := 6) (v := ?_) rfl (by kernel_rfl) (by kernel_rfl) (by kernel_rfl) (fun _ _ _ h => h) (Or.inl ⟨by rfl, (by intro w hSw; go_simp; try with_reducible rfl)⟩) (by assumption) ?_
    simp only [Act.put, List.getElem_toArray, List.getElem_cons_zero, List.getElem_cons_succ, List.setIfInBounds_toArray, List.set_cons_zero, List.set_cons_succ]
    refine wpAnyH_take (i := 7) (v := ?_) rfl (by kernel_rfl) (by kernel_rfl) (by kernel_rfl) (fun _ _ _ h => h) (Or.inl ⟨by rfl, (by intro w hSw; have d0 := (CC.out _ hSw).1; have d1 := (CC.out _ hSw).2; go_simp; try with_reducible rfl)⟩) (by assumption) ?_
    simp only [Act.put, List.getElem_toArray, List.getElem_cons_zero, List.getElem_cons_succ, List.setIfInBounds_toArray, List.set_cons_zero, List.set_cons_succ]
    refine wpAnyH_ready (rs := [4]) (by kernel_rfl) (by simp) ?_
    refine AllReadyH.cons rfl (fun K hK => ?_) AllReadyH.nil
    go_simp
    go_at_call 34
    refine (ITA.out _ (K1.out.trans (hHeld.mono K1.out.size))).mono ?_
    rintro e wb ⟨rfl, hbN⟩
    have hhN := hHeld.trans (hbN.mono hHeld.size)
    clear hbN
    refine hK.out _ _ hhN (fun hHeld => ?_)
    clear hhN
    clear hK K
    refine wpAnyH_ready (rs := [8]) (by kernel_rfl) (by simp) ?_
    refine AllReadyH.cons rfl (fun K hK => ?_) AllReadyH.nil
    go_simp
    go_at_call 34
    refine (ITB.out _ (K1.out.trans (hHeld.mono K1.out.size))).mono ?_
    rintro e wc ⟨rfl, hbN⟩
    have hhN := hHeld.trans (hbN.mono hHeld.size)
    clear hbN
    refine hK.out _ _ hhN (fun hHeld => ?_)
    clear hhN
    clear hK K
    refine wpAnyH_ready (rs := [9]) (by kernel_rfl) (by simp) ?_
    refine AllReadyH.cons rfl (fun K hK => ?_) AllReadyH.nil
    go_simp
    have HM := Lib.hid (four_made wc [58] da [45] db)
    have hh9 : Below w1.heap.size w1 (wc.alloc (.cells #[.string (mk [58]), .string (mk da), .string (mk [45]), .string (mk db)] 9)) := hHeld.alloc hHeld.size _
    refine hK.out _ _ hh9 (fun hHeld => ?_)
    clear hh9
    clear hK K
    refine wpAnyH_ready (rs := [10]) (by kernel_rfl) (by simp) ?_
    refine AllReadyH.cons rfl (fun K hK => ?_) AllReadyH.nil
    go_simp
    go_at_call 53
    refine (LI.out _ _ B _ [[58], da, [45], db] (CB.out _ hHeld).1 (CB.out _ hHeld).2 HM.out (by simp) hfl.out).mono ?_
    rintro e wd ⟨rfl, hbN⟩
    have hhN := hHeld.trans (hbN.mono hHeld.size)
    clear hbN
    refine hK.out _ _ hhN (fun hHeld => ?_)
    clear hhN
    clear hK K
    refine wpAnyH_take (i := 11) (v := ?_) rfl (by kernel_rfl) (by kernel_rfl) (by kernel_rfl) (fun _ _ _ h => h) (Or.inl ⟨by rfl, (by intro w hSw; go_simp; try with_reducible rfl)⟩) (by assumption) ?_
    simp only [Act.put, List.getElem_toArray, List.getElem_cons_zero, List.getElem_cons_succ, List.setIfInBounds_toArray, List.set_cons_zero, List.set_cons_succ]
    refine wpAnyH_done (by kernel_rfl) ?_ _
    go_wp2_with fail
    go_ret
    exact ⟨by rw [hfin.out]; simp, K1.out.trans (hHeld.mono K1.out.size)⟩
end Go.Proofs.YtabnfaonlkipbaaGreatDoor
/- The landed flang: Print. -/
set_option linter.unusedSimpArgs false
set_option linter.unusedVariables false
namespace Go.Proofs.YtabnfaonlkipbaaGreatDoor
open Go.RowKit

set_option maxRecDepth 100000 in
set_option maxHeartbeats 3200000 in
theorem flg_print (Z : FilterOk) {w : World} {F : Nat → Prop} {v : Value} {f : List Flt.Cl} (hT : Flg.Tabs w) (h : Cls w F v f) (hl : f.length ≤ 100000) (hb : ∀ c ∈ f, Flt.Bd c) :
    Calls Tryz.prog 8 #[v] w fun e w' => e = .returned (.tuple #[.string (mk (Flg.printT f)), .int .i64 (Flt.check f)]) ∧ Below w.heap.size w w' := by
  have CH := Lib.hid (Z.check h hl hb)
  obtain ⟨A, cap, rfl, hcap⟩ := h.parts
  obtain ⟨i0, hi0, hz0, hz1, hz2⟩ := info_parts strInfo
  by_cases hc : Flt.check f = 0
  · have hck := (Flg.check_zero f).1 hc
    have hfin : Hid (Flg.printT f = Flg.text f) := Lib.hid (by unfold Flg.printT; rw [if_pos hc])
    rw [hc] at CH ⊢
    by_cases h0 : f.length = 0
    · have hf : Hid (Flg.text f = [33]) := Lib.hid (by unfold Flg.text; rw [if_pos (List.length_eq_zero_iff.1 h0)])
      have b0 : ((f.length : Int) == 0) = true := by rw [h0]; rfl
      clear h hb hc hck h0 hl
      go_enter Tryz.func8, Tryz.ntmps8
      go_wp2_with fail
      refine (CH.out).mono ?_
      rintro e w1 ⟨rfl, hb1⟩
      go_wp2_with fail
      go_ret2
      exact ⟨by rw [hfin.out, hf.out]; rfl, hb1⟩
    · have hf : Hid (Flg.text f = Flg.joinC 44 (f.map Flg.one)) := Lib.hid (by
        unfold Flg.text
        rw [if_neg (fun e => h0 (by rw [e]; rfl))])
      have b0 : ((f.length : Int) == 0) = false := by rw [beq_eq_false_iff_ne]; omega
      have H := Lib.hid h
      have HR := Lib.hid hck.2
      have hl8 := hck.1
      have TX := Lib.hid (fun (W : World) (hW : Below w.heap.size w W) (c : Flt.Cl) (hc : Flt.Right c) => flg_text c W (hT.below hW) hc)
      have JO : Hid (∀ (P : Nat → Prop) (W : World) (x : Value), Txs W P x (f.map Flg.one) → Calls Tryz.prog 18 #[x, .string ⟨#[44]⟩] W fun e w' => e = .returned (.string (mk (Flg.text f))) ∧ Below W.heap.size W w') := Lib.hid (fun P W x hx => by
        have hj := Flg.text_len hck.2 hck.1
        rw [hf.out] at hj
        have := join_texts11 [44] hx (by rw [List.length_map]; omega) (by rw [Flg.join_lib]; omega)
        rw [Flg.join_lib] at this
        rw [hf.out]
        exact this)
      have hl' : (f.length : Int) ≤ 8 := by omega
      clear h hb hc hck h0 hl hT hf
      go_enter Tryz.func8, Tryz.ntmps8
      go_wp2_with fail
      refine (CH.out).mono ?_
      rintro e w1 ⟨rfl, hb1⟩
      have HB1 := Lib.hid hb1
      clear hb1
      go_wp2_with fail
      go_loopw [5, 7, 18] (fun out _ i wr => ∃ n : Nat, n ≤ f.length ∧ i = .int .i64 (n : Int) ∧ RowsOwn 9 1 txV w ((f.take n).map Flg.one) out wr) (fun _ _ i _ => f.length - (intOf i).toNat)
      case atStart => exact ⟨0, Nat.zero_le _, rfl, RowsOwn.first HB1.out⟩
      case round =>
        obtain ⟨n, hn, rfl, hown⟩ := hrel
        by_cases hlt : n < f.length
        · obtain ⟨b, o, cap', e, -, -, hb⟩ := H.out.block (by omega)
          injection e with e1 e2 e3
          subst e1 e3
          clear e2
          obtain ⟨x, hx⟩ : ∃ x, f[n]? = some x := ⟨_, List.getElem?_eq_getElem hlt⟩
          have hn0 : (0 : Int) ≤ (n : Int) := by omega
          have hn1 : (n : Int) < (f.length : Int) := by omega
          obtain ⟨c0, c1, c2⟩ := Cls.at (H.out.below hown.2) hx
          have hrx := HR.out x (List.mem_of_getElem? hx)
          have hst : Hid ((f.take (n + 1)).map Flg.one = (f.take n).map Flg.one ++ [Flg.one x]) := Lib.hid (by
            obtain ⟨hl, he⟩ := List.getElem?_eq_some_iff.1 hx
            rw [List.take_succ_eq_append_getElem hl, he, List.map_append]
            rfl)
          have hlen3 : ((f.take n).map Flg.one).length ≤ n := by rw [List.length_map, List.length_take]; omega
          have hba : Below wr.heap.size wr (wr.alloc (.cells #[.string (mk x.pre), .int .i64 x.lo, .int .i64 x.hi] 42)) := (Below.refl _ _).alloc (Nat.le_refl _) _
          have Hown := Lib.hid (hown.below hba)
          have CT := Lib.hid (TX.out _ Hown.out.2 x hrx)
          clear hown hx hba hrx
          generalize (f.take n).map Flg.one = out at *
          generalize Flg.one x = ox at *
          generalize mk x.pre = xp at *
          generalize x.lo = x1 at *
          generalize x.hi = x2 at *
          go_wp2_with fail
          refine (CT.out).mono ?_
          rintro e w2 ⟨rfl, hb2⟩
          have Hown2 := Lib.hid (Hown.out.below hb2)
          clear hb2
          have hown3 := Hown2.out.1.alloc (.cells #[.string (mk ox)] 9)
          have hmade := tx_made w2 9 ox
          have hsz3 : w.heap.size ≤ (w2.alloc (.cells #[.string (mk ox)] 9)).heap.size := by have := Hown2.out.2.size; simp at this ⊢; omega
          go_wp2_with (at_builtin; refine wp_joins (f := txV) (k := 1) rfl _ _ 43 rfl w.heap.size 9 i0 (.string ⟨#[]⟩) 16 Tryz.underlying43 hi0 hz0 hz1 hz2 rfl (by decide) rfl rfl hown3 hmade (fun _ _ => rfl) (fun x _ => tx_one x) ?c3 ?c4 hsz3 ?_)
          case c3 => unfold maxLen; first | omega | (simp <;> omega)
          case c4 => first | omega | (simp <;> omega)
          intro v3 w3 h1 h2 _
          have hnew := Lib.hid (Hown2.out.more (x := ox) (v' := v3) (by simpa [txV] using h1) h2)
          clear h1 h2 hown3 hmade
          go_wp2_with fail
          exact ⟨⟨n + 1, by omega, by go_num, by rw [hst.out]; exact hnew.out⟩, by show f.length - ((n : Int) + 1).toNat < f.length - (n : Int).toNat; omega⟩
        · obtain rfl : n = f.length := by omega
          rw [List.take_length] at hown
          have Hown := Lib.hid hown
          clear hown
          go_wp2_with fail
          refine (JO.out _ _ _ (Hown.out.rows (fun _ _ => rfl))).mono ?_
          rintro e w2 ⟨rfl, hb2⟩
          go_wp2_with fail
          go_ret2
          exact ⟨by rw [hfin.out]; rfl, Hown.out.2.trans (hb2.mono Hown.out.2.size)⟩
  · have hfin : Hid (Flg.printT f = []) := Lib.hid (by unfold Flg.printT; rw [if_neg hc])
    have b1 : (Flt.check f != 0) = true := by rw [bne_iff_ne]; exact hc
    clear h hb hl hT
    generalize Flt.check f = E at *
    go_enter Tryz.func8, Tryz.ntmps8
    go_wp2_with fail
    refine (CH.out).mono ?_
    rintro e w1 ⟨rfl, hb1⟩
    go_wp2_with fail
    go_ret2
    exact ⟨by rw [hfin.out]; rfl, hb1⟩
end Go.Proofs.YtabnfaonlkipbaaGreatDoor
/- The landed flang: Plain; the package answers as FlangOk asks. -/
set_option linter.unusedSimpArgs false
set_option linter.unusedVariables false
namespace Go.Proofs.YtabnfaonlkipbaaGreatDoor
open Go.RowKit

set_option maxRecDepth 100000 in
theorem Flg.right_bd {c : Flt.Cl} (h : Flt.Right c) : Flt.Bd c := by
  refine ⟨?_, Flt.right_bd h⟩
  rcases h.1 with e | e
  · rw [e]; exact Nat.zero_le _
  · have := e.2.1; omega
set_option maxRecDepth 100000 in
theorem Flg.norm_small (f : List Flt.Cl) (h : f.length ≤ 8) : (Flt.norm f).length ≤ 1616 := by
  have := Flt.norm_len f
  have h2 : f.length * 202 ≤ 8 * 202 := Nat.mul_le_mul_right _ h
  omega

set_option maxRecDepth 100000 in
set_option maxHeartbeats 3200000 in
theorem flg_plain (Z : FilterOk) (s : List UInt8) {w : World} (hT : Flg.Tabs w) (hs : s.length ≤ 9223372036854775807) :
    Calls Tryz.prog 14 #[.string (mk s)] w fun e w' => e = .returned (.tuple #[.string (mk (Flg.plainT s)), .int .i64 (Flg.parseE s)]) ∧ Below w.heap.size w w' := by
  have PA := Lib.hid (flg_parse Z s hT hs)
  by_cases he : Flg.parseE s = 0
  · obtain ⟨hr, h8⟩ := Flg.parseF_right s
    have hn8 := Flg.norm_small _ h8
    have hnr := Flt.norm_right hr
    have NO : Hid (∀ (P : Nat → Prop) (W : World) (x : Value), Cls W P x (Flg.parseF s) → Calls Tryz.prog 28 #[x] W fun e w' => ∃ v', e = .returned v' ∧ Cls w' (NewIn W w') v' (Flt.norm (Flg.parseF s)) ∧ Below W.heap.size W w') := Lib.hid (fun P W x hx => Z.norm hx (by omega) hr (fun c hc => Flg.right_bd (hr c hc)))
    have PF : Hid (∀ (P : Nat → Prop) (W : World) (x : Value), Below w.heap.size w W → Cls W P x (Flg.parseF s) → Calls Tryz.prog 8 #[x] W fun e w' => e = .returned (.tuple #[.string (mk (Flg.text (Flg.parseF s))), .int .i64 0]) ∧ Below W.heap.size W w') := Lib.hid (fun P W x hW hx => by
      have := flg_print Z (hT.below hW) hx (by omega) (fun c hc => Flg.right_bd (hr c hc))
      have hc : Flt.check (Flg.parseF s) = 0 := (Flg.check_zero _).2 ⟨h8, hr⟩
      unfold Flg.printT at this
      rw [hc, if_pos rfl] at this
      exact this)
    by_cases hn : (Flt.norm (Flg.parseF s)).length ≤ 8
    · have hfin : Hid (Flg.plainT s = Flg.text (Flt.norm (Flg.parseF s))) := Lib.hid (by unfold Flg.plainT; rw [if_pos he, if_pos hn])
      have PN : Hid (∀ (P : Nat → Prop) (W : World) (x : Value), Below w.heap.size w W → Cls W P x (Flt.norm (Flg.parseF s)) → Calls Tryz.prog 8 #[x] W fun e w' => e = .returned (.tuple #[.string (mk (Flg.text (Flt.norm (Flg.parseF s)))), .int .i64 0]) ∧ Below W.heap.size W w') := Lib.hid (fun P W x hW hx => by
        have := flg_print Z (hT.below hW) hx (by omega) (fun c hc => Flg.right_bd (hnr c hc))
        have hc : Flt.check (Flt.norm (Flg.parseF s)) = 0 := (Flg.check_zero _).2 ⟨hn, hnr⟩
        unfold Flg.printT at this
        rw [hc, if_pos rfl] at this
        exact this)
      have hni : decide (((Flt.norm (Flg.parseF s)).length : Int) ≤ 8) = true := decide_eq_true (by omega)
      have hni2 : ((Flt.norm (Flg.parseF s)).length : Int) ≤ 8 := by omega
      rw [he] at PA ⊢
      clear he hr h8 hn8 hnr hn hT hs PF
      generalize Flg.plainT s = PT at *
      generalize Flt.norm (Flg.parseF s) = NF at *
      generalize Flg.parseF s = f at *
      generalize Flg.text NF = tx at *
      generalize mk s = u at *
      go_enter Tryz.func14, Tryz.ntmps14
      go_wp2_with fail
      refine (PA.out).mono ?_
      rintro e w1 ⟨fv, rfl, hfv, hb1⟩
      have HF := Lib.hid hfv
      have HB1 := Lib.hid hb1
      clear hfv hb1
      go_wp2_with fail
      refine (NO.out _ _ _ HF.out).mono ?_
      rintro e w2 ⟨nv, rfl, hnv, hb2⟩
      have HN := Lib.hid hnv
      have HB2 := Lib.hid (HB1.out.trans (hb2.mono HB1.out.size))
      obtain ⟨NA, nc, rfl, -⟩ := hnv.parts
      clear hnv hb2
      go_wp2_with fail
      refine (PN.out _ _ _ HB2.out HN.out).mono ?_
      rintro e w3 ⟨rfl, hb3⟩
      go_wp2_with fail
      go_ret2
      exact ⟨by rw [hfin.out]; rfl, HB2.out.trans (hb3.mono HB2.out.size)⟩
    · have hfin : Hid (Flg.plainT s = Flg.text (Flg.parseF s)) := Lib.hid (by unfold Flg.plainT; rw [if_pos he, if_neg hn])
      have hni : decide (((Flt.norm (Flg.parseF s)).length : Int) ≤ 8) = false := decide_eq_false (by omega)
      have hni2 : ¬ ((Flt.norm (Flg.parseF s)).length : Int) ≤ 8 := by omega
      rw [he] at PA ⊢
      clear he hr h8 hn8 hnr hn hT hs
      generalize Flg.plainT s = PT at *
      generalize Flt.norm (Flg.parseF s) = NF at *
      generalize Flg.parseF s = f at *
      generalize Flg.text f = tx at *
      generalize mk s = u at *
      go_enter Tryz.func14, Tryz.ntmps14
      go_wp2_with fail
      refine (PA.out).mono ?_
      rintro e w1 ⟨fv, rfl, hfv, hb1⟩
      have HF := Lib.hid hfv
      have HB1 := Lib.hid hb1
      clear hfv hb1
      go_wp2_with fail
      refine (NO.out _ _ _ HF.out).mono ?_
      rintro e w2 ⟨nv, rfl, hnv, hb2⟩
      have HF2 := Lib.hid (HF.out.below hb2)
      have HB2 := Lib.hid (HB1.out.trans (hb2.mono HB1.out.size))
      obtain ⟨NA, nc, rfl, -⟩ := hnv.parts
      clear hnv hb2
      go_wp2_with fail
      refine (PF.out _ _ _ HB2.out HF2.out).mono ?_
      rintro e w3 ⟨rfl, hb3⟩
      go_wp2_with fail
      go_ret2
      exact ⟨by rw [hfin.out]; rfl, HB2.out.trans (hb3.mono HB2.out.size)⟩
  · have hfin : Hid (Flg.plainT s = []) := Lib.hid (by unfold Flg.plainT; rw [if_neg he])
    have b1 : (Flg.parseE s != 0) = true := by rw [bne_iff_ne]; exact he
    clear hT hs
    generalize Flg.plainT s = PT at *
    generalize Flg.parseE s = E at *
    generalize Flg.parseF s = f at *
    generalize mk s = u at *
    go_enter Tryz.func14, Tryz.ntmps14
    go_wp2_with fail
    refine (PA.out).mono ?_
    rintro e w1 ⟨fv, rfl, hfv, hb1⟩
    have HB1 := Lib.hid hb1
    clear hfv hb1
    go_wp2_with fail
    go_ret2
    exact ⟨by rw [hfin.out]; rfl, HB1.out⟩

set_option maxRecDepth 100000 in
theorem flang_of (Z : FilterOk) : FlangOk where
  print := flg_print Z
  parse := fun s hT hs => flg_parse Z s hT hs
  plain := fun s hT hs => flg_plain Z s hT hs
end Go.Proofs.YtabnfaonlkipbaaGreatDoor
