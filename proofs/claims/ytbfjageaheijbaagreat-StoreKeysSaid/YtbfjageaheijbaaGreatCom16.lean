/- Whether bytes are a transaction, step by step, as plain data. No program is spoken of. -/
import Derived.Test.YtbfjageaheijbaaGreatCom3
import Derived.Test.YtbfjageaheijbaaGreatCom15
import Derived.Test.YtbfjageaheijbaaGreatCom6
namespace Go.Proofs.YtbfjageaheijbaaGreat.Sto

set_option maxRecDepth 100000 in
theorem second_fits (s : List UInt8) : (Leb.second s).2.1 ≤ s.length ∧ ((Leb.second s).2.2 = 0 → 1 ≤ (Leb.second s).2.1) := by
  by_cases h : (Leb.second s).2.2 = 0
  · obtain ⟨_, g2, _, g4⟩ := Frm.second_only s (Leb.second s).1 (Leb.second s).2.1 (by rw [← h])
    have := (Leb.enc_len (Leb.second s).1.length).1
    exact ⟨g4, fun _ => by omega⟩
  · refine ⟨?_, fun e => absurd e h⟩
    unfold Leb.second at h ⊢
    by_cases he : (Leb.first s).2.2 = 0
    · rw [if_pos he] at h ⊢
      by_cases hl : s.length - (Leb.first s).2.1 < (Leb.first s).1
      · rw [if_pos hl]; exact Nat.zero_le _
      · rw [if_neg hl] at h; exact absurd rfl h
    · rw [if_neg he]; exact Nat.zero_le _

set_option maxRecDepth 100000 in
theorem one_bad {s : List UInt8} (h : ¬ ((Leb.second s).2.2 = 0 ∧ (Leb.first (s.drop (Leb.second s).2.1)).2.2 = 0 ∧ (Leb.first (s.drop (Leb.second s).2.1)).1 ≤ 1 ∧ 1 ≤ (Leb.second s).1.length ∧ (Leb.second s).1.length ≤ 32)) : one s = none := by
  unfold one
  rw [if_neg h]

set_option maxRecDepth 100000 in
theorem one_gone {s : List UInt8} (h : (Leb.second s).2.2 = 0 ∧ (Leb.first (s.drop (Leb.second s).2.1)).2.2 = 0 ∧ (Leb.first (s.drop (Leb.second s).2.1)).1 ≤ 1 ∧ 1 ≤ (Leb.second s).1.length ∧ (Leb.second s).1.length ≤ 32)
    (hg : (Leb.first (s.drop (Leb.second s).2.1)).1 = 1) : ∃ c, one s = some (c, (Leb.second s).2.1 + (Leb.first (s.drop (Leb.second s).2.1)).2.1) := by
  unfold one
  rw [if_pos h, if_pos hg]
  exact ⟨_, rfl⟩

set_option maxRecDepth 100000 in
theorem one_val {s : List UInt8} (h : (Leb.second s).2.2 = 0 ∧ (Leb.first (s.drop (Leb.second s).2.1)).2.2 = 0 ∧ (Leb.first (s.drop (Leb.second s).2.1)).1 ≤ 1 ∧ 1 ≤ (Leb.second s).1.length ∧ (Leb.second s).1.length ≤ 32)
    (hg : (Leb.first (s.drop (Leb.second s).2.1)).1 ≠ 1) (hv : (Leb.second (s.drop ((Leb.second s).2.1 + (Leb.first (s.drop (Leb.second s).2.1)).2.1))).2.2 = 0 ∧ (Leb.second (s.drop ((Leb.second s).2.1 + (Leb.first (s.drop (Leb.second s).2.1)).2.1))).1.length ≤ 4096) :
    ∃ c, one s = some (c, (Leb.second s).2.1 + (Leb.first (s.drop (Leb.second s).2.1)).2.1 + (Leb.second (s.drop ((Leb.second s).2.1 + (Leb.first (s.drop (Leb.second s).2.1)).2.1))).2.1) := by
  unfold one
  rw [if_pos h, if_neg hg, if_pos hv]
  exact ⟨_, rfl⟩

set_option maxRecDepth 100000 in
theorem one_not {s : List UInt8} (h : (Leb.second s).2.2 = 0 ∧ (Leb.first (s.drop (Leb.second s).2.1)).2.2 = 0 ∧ (Leb.first (s.drop (Leb.second s).2.1)).1 ≤ 1 ∧ 1 ≤ (Leb.second s).1.length ∧ (Leb.second s).1.length ≤ 32)
    (hg : (Leb.first (s.drop (Leb.second s).2.1)).1 ≠ 1) (hv : ¬ ((Leb.second (s.drop ((Leb.second s).2.1 + (Leb.first (s.drop (Leb.second s).2.1)).2.1))).2.2 = 0 ∧ (Leb.second (s.drop ((Leb.second s).2.1 + (Leb.first (s.drop (Leb.second s).2.1)).2.1))).1.length ≤ 4096)) :
    one s = none := by
  unfold one
  rw [if_pos h, if_neg hg, if_neg hv]

set_option maxRecDepth 100000 in
theorem one_fits {s : List UInt8} {x : Ch × Nat} (h : one s = some x) : 1 ≤ x.2 ∧ x.2 ≤ s.length := by
  have h1 := second_fits s
  have h2 := Leb.first_fits (s.drop (Leb.second s).2.1)
  have h3 := second_fits (s.drop ((Leb.second s).2.1 + (Leb.first (s.drop (Leb.second s).2.1)).2.1))
  rw [List.length_drop] at h2 h3
  unfold one at h
  split at h
  · rename_i hc
    have := h1.2 hc.1
    split at h
    · injection h with h
      rw [← h]
      exact ⟨by show 1 ≤ _ + _; omega, by show _ + _ ≤ _; omega⟩
    · split at h
      · injection h with h
        rw [← h]
        exact ⟨by show 1 ≤ _ + _ + _; omega, by show _ + _ + _ ≤ _; omega⟩
      · cases h
  · cases h

set_option maxRecDepth 100000 in
theorem parseF_enough : ∀ (f g : Nat) (s : List UInt8), s.length ≤ f → s.length ≤ g → parseF f s = parseF g s
  | 0, g, s, hf, _ => by
    have : s = [] := List.eq_nil_of_length_eq_zero (by omega)
    subst this
    cases g <;> rfl
  | f + 1, 0, s, _, hg => by
    have : s = [] := List.eq_nil_of_length_eq_zero (by omega)
    subst this
    rfl
  | f + 1, g + 1, s, hf, hg => by
    unfold parseF
    by_cases e : s = []
    · rw [if_pos e, if_pos e]
    · rw [if_neg e, if_neg e]
      cases ho : one s with
      | none => rfl
      | some x =>
        have hx := one_fits ho
        have h0 : 0 < s.length := List.length_pos_iff.2 e
        have ih := parseF_enough f g (s.drop x.2) (by rw [List.length_drop]; omega) (by rw [List.length_drop]; omega)
        show (parseF f (s.drop x.2)).map _ = (parseF g (s.drop x.2)).map _
        rw [ih]

/-- Are bytes changes, one behind the other? -/
def okS (s : List UInt8) : Bool := (parseF s.length s).isSome

set_option maxRecDepth 100000 in
theorem okS_nil : okS [] = true := rfl

set_option maxRecDepth 100000 in
theorem okS_none {s : List UInt8} (h : s ≠ []) (ho : one s = none) : okS s = false := by
  unfold okS
  obtain ⟨f, hf⟩ : ∃ f, s.length = f + 1 := ⟨s.length - 1, by have := List.length_pos_iff.2 h; omega⟩
  rw [hf, parseF, if_neg h, ho]
  rfl

set_option maxRecDepth 100000 in
theorem okS_some {s : List UInt8} (h : s ≠ []) {x : Ch × Nat} (ho : one s = some x) : okS s = okS (s.drop x.2) := by
  unfold okS
  obtain ⟨f, hf⟩ : ∃ f, s.length = f + 1 := ⟨s.length - 1, by have := List.length_pos_iff.2 h; omega⟩
  have hx := one_fits ho
  rw [hf, parseF, if_neg h, ho, parseF_enough (s.drop x.2).length f (s.drop x.2) (Nat.le_refl _) (by rw [List.length_drop]; omega)]
  show ((parseF f (s.drop x.2)).map _).isSome = _
  rw [Option.isSome_map]

set_option maxRecDepth 100000 in
theorem parse_ok {s : List UInt8} (h : s ≠ []) : (parse s).isSome = okS s := by
  unfold parse
  rw [if_neg h]
  rfl

set_option maxRecDepth 100000 in
theorem run_one (s : List UInt8) : (run [] [s]).isSome = (parse s).isSome := by
  show ((parse s).bind fun cs => run (after [] cs) []).isSome = _
  cases parse s <;> rfl

/-- What is left of a record, while it is looked at. -/
def Left (rec : List UInt8) (ok : Bool) (r : List UInt8) : Prop := if ok then rec ≠ [] ∧ (parse rec).isSome = okS r else (parse rec).isSome = false

set_option maxRecDepth 100000 in
theorem left_start (rec : List UInt8) : Left rec (decide (rec ≠ [])) rec := by
  by_cases h : rec = []
  · rw [decide_eq_false (by simpa using h), h]
    rfl
  · rw [decide_eq_true h]
    exact ⟨h, parse_ok h⟩

set_option maxRecDepth 100000 in
theorem left_none {rec r : List UInt8} (h : Left rec true r) (hr : r ≠ []) (ho : one r = none) : Left rec false r := by
  show (parse rec).isSome = false
  rw [h.2, okS_none hr ho]

set_option maxRecDepth 100000 in
theorem left_some {rec r : List UInt8} (h : Left rec true r) (hr : r ≠ []) {k : Nat} (ho : ∃ c, one r = some (c, k)) : Left rec true (r.drop k) := by
  obtain ⟨c, ho⟩ := ho
  exact ⟨h.1, by rw [h.2, okS_some hr ho]⟩
end Go.Proofs.YtbfjageaheijbaaGreat.Sto
/- The landed store: one change alone; a change that is read. -/
set_option linter.unusedSimpArgs false
set_option linter.unusedVariables false
namespace Go.Proofs.YtbfjageaheijbaaGreat
open Go.RowKit

set_option maxRecDepth 100000 in
theorem rec_one (c : Sto.Ch) : Sto.rec [c] = Sto.enc1 c := by simp [Sto.rec]

set_option maxRecDepth 100000 in
set_option maxHeartbeats 1600000 in
theorem sto_alone (c : Sto.Ch) (hm : Sto.May c) (w : World) :
    Calls Tryz.prog 92 #[chA c] w fun e w' => e = .returned (.string (mk (Sto.enc1 c))) ∧ Below w.heap.size w w' := by
  have hR : ∀ W : World, Calls Tryz.prog 67 #[.slice (some ⟨W.heap.size, 0, none⟩) 1 1] (W.alloc (.cells #[.string (mk c.key), .string (mk c.val), .bool c.gone] 52)) fun e w' => e = .returned (.tuple #[.string (mk (Sto.enc1 c)), .int .i64 0]) ∧ Below W.heap.size W w' := fun W => by
    have hc : Changes (W.alloc (.cells #[.string (mk c.key), .string (mk c.val), .bool c.gone] 52)) (fun i => i = W.heap.size) (.slice (some ⟨W.heap.size, 0, none⟩) 1 1) [c] := Rws.made (f := chV) W 52 [c] (fun x _ => rfl)
    have hone : recOf [c] = (Sto.enc1 c, 0) := by
      unfold recOf
      rw [rec_one, if_neg (by have := Sto.enc1_len hm; omega)]
    refine (sto_record hc (by simp) (by simp) (fun x hx => by rw [List.mem_singleton.1 hx]; exact hm)).mono ?_
    rintro e w' ⟨rfl, hb⟩
    rw [hone]
    exact ⟨rfl, ((Below.refl _ _).alloc (Nat.le_refl _) _).trans (hb.mono (by simp))⟩
  have hr := hR (w.alloc (.cells #[.string (mk c.key), .string (mk c.val), .bool c.gone] 52))
  have e : (w.alloc (.cells #[.string (mk c.key), .string (mk c.val), .bool c.gone] 52)).heap.size = w.heap.size + 1 := by simp
  rw [e] at hr
  have HR := Lib.hid hr
  unfold chA
  clear hR hr e
  go_enter Tryz.func92, Tryz.ntmps92
  go_wp2_with fail
  refine HR.out.mono ?_
  rintro e w1 ⟨rfl, hb1⟩
  have HB := Lib.hid hb1
  clear hb1
  go_wp2_with fail
  go_ret
  exact ⟨rfl, ((Below.refl _ _).alloc (Nat.le_refl _) _).trans (HB.out.mono (by omega))⟩

/-- What next reads: the change, whether it may be, the bytes left, the reader's error. -/
def nextC (l : List UInt8) : Sto.Ch × Bool × List UInt8 × Int :=
  if (stepN (stepT l 0).2.1 (stepT l 0).2.2).1 = 0 then
    (⟨(stepT l 0).1, (stepT (stepN (stepT l 0).2.1 (stepT l 0).2.2).2.1 (stepN (stepT l 0).2.1 (stepT l 0).2.2).2.2).1, false⟩,
     decide (Sto.May ⟨(stepT l 0).1, (stepT (stepN (stepT l 0).2.1 (stepT l 0).2.2).2.1 (stepN (stepT l 0).2.1 (stepT l 0).2.2).2.2).1, false⟩),
     (stepT (stepN (stepT l 0).2.1 (stepT l 0).2.2).2.1 (stepN (stepT l 0).2.1 (stepT l 0).2.2).2.2).2)
  else if (stepN (stepT l 0).2.1 (stepT l 0).2.2).1 = 1 then (⟨(stepT l 0).1, [], true⟩, decide (Sto.May ⟨(stepT l 0).1, [], true⟩), (stepN (stepT l 0).2.1 (stepT l 0).2.2).2)
  else (⟨[], [], false⟩, false, (stepN (stepT l 0).2.1 (stepT l 0).2.2).2)

set_option maxRecDepth 100000 in
theorem stepT_len (l : List UInt8) (e : Int) : (stepT l e).2.1.length ≤ l.length := by
  unfold stepT
  split
  · split <;> simp
  · exact Nat.le_refl _
set_option maxRecDepth 100000 in
theorem stepN_len (l : List UInt8) (e : Int) : (stepN l e).2.1.length ≤ l.length := by
  unfold stepN
  split
  · split <;> simp
  · exact Nat.le_refl _
set_option maxRecDepth 100000 in
theorem sto_stepN_fits (l : List UInt8) (e : Int) : (stepN l e).1 < 9223372036854775808 := by
  have := (Leb.first_fits l).1
  unfold stepN
  split
  · split
    · exact this
    · show 0 < _; omega
  · show 0 < _; omega

set_option maxRecDepth 100000 in
theorem next_len (l : List UInt8) : (nextC l).2.2.1.length ≤ l.length := by
  have h1 := stepT_len l 0
  have h2 := stepN_len (stepT l 0).2.1 (stepT l 0).2.2
  have h3 := stepT_len (stepN (stepT l 0).2.1 (stepT l 0).2.2).2.1 (stepN (stepT l 0).2.1 (stepT l 0).2.2).2.2
  unfold nextC
  split
  · show (stepT _ _).2.1.length ≤ _; omega
  · split <;> (show (stepN _ _).2.1.length ≤ _; omega)

set_option maxRecDepth 100000 in
/-- What next reads is what bytes begin with; where there is nothing, that is told, or the reader has an error and no bytes any more. -/
theorem next_one (l : List UInt8) : (∃ n, Sto.one l = some ((nextC l).1, n) ∧ (nextC l).2 = (true, l.drop n, 0)) ∨ (Sto.one l = none ∧ ((nextC l).2.1 = false ∨ ((nextC l).2.2.1 = [] ∧ (nextC l).2.2.2 ≠ 0))) := by
  by_cases h1 : (Leb.second l).2.2 = 0
  · have e1 : stepT l 0 = ((Leb.second l).1, l.drop (Leb.second l).2.1, 0) := by simp [stepT, h1]
    by_cases h2 : (Leb.first (l.drop (Leb.second l).2.1)).2.2 = 0
    · have e2 : stepN (l.drop (Leb.second l).2.1) 0 = ((Leb.first (l.drop (Leb.second l).2.1)).1, (l.drop (Leb.second l).2.1).drop (Leb.first (l.drop (Leb.second l).2.1)).2.1, 0) := by simp [stepN, h2]
      rw [List.drop_drop] at e2
      by_cases h3 : (Leb.first (l.drop (Leb.second l).2.1)).1 ≤ 1 ∧ 1 ≤ (Leb.second l).1.length ∧ (Leb.second l).1.length ≤ 32
      · have hh : (Leb.second l).2.2 = 0 ∧ (Leb.first (l.drop (Leb.second l).2.1)).2.2 = 0 ∧ (Leb.first (l.drop (Leb.second l).2.1)).1 ≤ 1 ∧ 1 ≤ (Leb.second l).1.length ∧ (Leb.second l).1.length ≤ 32 := ⟨h1, h2, h3⟩
        by_cases h4 : (Leb.first (l.drop (Leb.second l).2.1)).1 = 1
        · refine Or.inl ⟨(Leb.second l).2.1 + (Leb.first (l.drop (Leb.second l).2.1)).2.1, ?_⟩
          have hn : nextC l = (⟨(Leb.second l).1, [], true⟩, decide (Sto.May ⟨(Leb.second l).1, [], true⟩), l.drop ((Leb.second l).2.1 + (Leb.first (l.drop (Leb.second l).2.1)).2.1), 0) := by
            unfold nextC
            simp only [e1, e2]
            rw [if_neg (by omega), if_pos h4]
          have hm : Sto.May ⟨(Leb.second l).1, [], true⟩ := ⟨h3.2.1, h3.2.2, by simp, fun _ => rfl⟩
          rw [hn, decide_eq_true hm]
          refine ⟨?_, rfl⟩
          unfold Sto.one
          rw [if_pos hh, if_pos h4]
        · have h40 : (Leb.first (l.drop (Leb.second l).2.1)).1 = 0 := by omega
          by_cases h5 : (Leb.second (l.drop ((Leb.second l).2.1 + (Leb.first (l.drop (Leb.second l).2.1)).2.1))).2.2 = 0
          · have e3 : stepT (l.drop ((Leb.second l).2.1 + (Leb.first (l.drop (Leb.second l).2.1)).2.1)) 0 = ((Leb.second (l.drop ((Leb.second l).2.1 + (Leb.first (l.drop (Leb.second l).2.1)).2.1))).1, (l.drop ((Leb.second l).2.1 + (Leb.first (l.drop (Leb.second l).2.1)).2.1)).drop (Leb.second (l.drop ((Leb.second l).2.1 + (Leb.first (l.drop (Leb.second l).2.1)).2.1))).2.1, 0) := by simp [stepT, h5]
            rw [List.drop_drop] at e3
            have hn : nextC l = (⟨(Leb.second l).1, (Leb.second (l.drop ((Leb.second l).2.1 + (Leb.first (l.drop (Leb.second l).2.1)).2.1))).1, false⟩, decide (Sto.May ⟨(Leb.second l).1, (Leb.second (l.drop ((Leb.second l).2.1 + (Leb.first (l.drop (Leb.second l).2.1)).2.1))).1, false⟩), l.drop ((Leb.second l).2.1 + (Leb.first (l.drop (Leb.second l).2.1)).2.1 + (Leb.second (l.drop ((Leb.second l).2.1 + (Leb.first (l.drop (Leb.second l).2.1)).2.1))).2.1), 0) := by
              unfold nextC
              simp only [e1, e2, e3]
              rw [if_pos h40]
            by_cases h6 : (Leb.second (l.drop ((Leb.second l).2.1 + (Leb.first (l.drop (Leb.second l).2.1)).2.1))).1.length ≤ 4096
            · have hm : Sto.May ⟨(Leb.second l).1, (Leb.second (l.drop ((Leb.second l).2.1 + (Leb.first (l.drop (Leb.second l).2.1)).2.1))).1, false⟩ := ⟨h3.2.1, h3.2.2, h6, fun h => by cases h⟩
              refine Or.inl ⟨(Leb.second l).2.1 + (Leb.first (l.drop (Leb.second l).2.1)).2.1 + (Leb.second (l.drop ((Leb.second l).2.1 + (Leb.first (l.drop (Leb.second l).2.1)).2.1))).2.1, ?_⟩
              rw [hn, decide_eq_true hm]
              refine ⟨?_, rfl⟩
              unfold Sto.one
              rw [if_pos hh, if_neg h4, if_pos ⟨h5, h6⟩]
            · refine Or.inr ⟨Sto.one_not hh h4 (fun hx => h6 hx.2), Or.inl ?_⟩
              rw [hn]
              exact decide_eq_false (fun hm => h6 hm.2.2.1)
          · have e3 : stepT (l.drop ((Leb.second l).2.1 + (Leb.first (l.drop (Leb.second l).2.1)).2.1)) 0 = ([], [], (Leb.second (l.drop ((Leb.second l).2.1 + (Leb.first (l.drop (Leb.second l).2.1)).2.1))).2.2) := by simp [stepT, h5]
            refine Or.inr ⟨Sto.one_not hh h4 (fun hx => h5 hx.1), Or.inr ?_⟩
            unfold nextC
            simp only [e1, e2, e3]
            rw [if_pos h40]
            exact ⟨rfl, h5⟩
      · refine Or.inr ⟨Sto.one_bad (fun hx => h3 hx.2.2), Or.inl ?_⟩
        have hmay : ∀ v g, (Leb.first (l.drop (Leb.second l).2.1)).1 ≤ 1 → ¬ Sto.May ⟨(Leb.second l).1, v, g⟩ := fun v g hle hm => h3 ⟨hle, hm.1, hm.2.1⟩
        unfold nextC
        simp only [e1, e2]
        split
        · next h => exact decide_eq_false (hmay _ _ (by omega))
        · split
          · next h => exact decide_eq_false (hmay _ _ (by omega))
          · rfl
    · have e2 : stepN (l.drop (Leb.second l).2.1) 0 = (0, [], (Leb.first (l.drop (Leb.second l).2.1)).2.2) := by simp [stepN, h2]
      have e3 : stepT [] (Leb.first (l.drop (Leb.second l).2.1)).2.2 = ([], [], (Leb.first (l.drop (Leb.second l).2.1)).2.2) := by simp [stepT, h2]
      refine Or.inr ⟨Sto.one_bad (fun hx => h2 hx.2.1), Or.inr ?_⟩
      unfold nextC
      simp only [e1, e2, e3]
      exact ⟨rfl, h2⟩
  · have e1 : stepT l 0 = ([], [], (Leb.second l).2.2) := by simp [stepT, h1]
    have e2 : stepN [] (Leb.second l).2.2 = (0, [], (Leb.second l).2.2) := by simp [stepN, h1]
    have e3 : stepT [] (Leb.second l).2.2 = ([], [], (Leb.second l).2.2) := by simp [stepT, h1]
    refine Or.inr ⟨Sto.one_bad (fun hx => h1 hx.1), Or.inr ?_⟩
    unfold nextC
    simp only [e1, e2, e3]
    exact ⟨rfl, h1⟩

set_option maxRecDepth 100000 in
set_option maxHeartbeats 1600000 in
theorem sto_next {w : World} {b : Nat} {l : List UInt8} (h : RdL w b l 0) (hm : l.length ≤ 281474976710656) :
    Calls Tryz.prog 60 #[.pointer (some ⟨b, 0, none⟩)] w fun e w' => e = .returned (.tuple #[chA (nextC l).1, .bool (nextC l).2.1]) ∧ RdL w' b (nextC l).2.2.1 (nextC l).2.2.2 ∧ w.grownBy w' (some b) := by
  have hbw : b < w.heap.size := Row.inHeap h
  have H1 := Lib.hid (t_any (Row.behindNew h (.cells #[.string ⟨#[]⟩, .string ⟨#[]⟩, .bool false] 52)) hm)
  have h1l := stepT_len l 0
  have h2l := stepN_len (stepT l 0).2.1 (stepT l 0).2.2
  have hfit := sto_stepN_fits (stepT l 0).2.1 (stepT l 0).2.2
  have hdef : Hid (nextC l = if (stepN (stepT l 0).2.1 (stepT l 0).2.2).1 = 0 then _ else if (stepN (stepT l 0).2.1 (stepT l 0).2.2).1 = 1 then _ else _) := Lib.hid rfl
  rw [hdef.out]
  clear hdef h
  have HN := Lib.hid (fun (W : World) (hr : RdL W b (stepT l 0).2.1 (stepT l 0).2.2) => n_any hr (Nat.le_trans h1l hm))
  have HT := Lib.hid (fun (W : World) (hr : RdL W b (stepN (stepT l 0).2.1 (stepT l 0).2.2).2.1 (stepN (stepT l 0).2.1 (stepT l 0).2.2).2.2) => t_any hr (Nat.le_trans h2l (Nat.le_trans h1l hm)))
  generalize stepT (stepN (stepT l 0).2.1 (stepT l 0).2.2).2.1 (stepN (stepT l 0).2.1 (stepT l 0).2.2).2.2 = D3 at *
  generalize stepN (stepT l 0).2.1 (stepT l 0).2.2 = D2 at *
  generalize stepT l 0 = D1 at *
  obtain ⟨key, l1, e1⟩ := D1
  obtain ⟨n, l2, e2⟩ := D2
  obtain ⟨val, l3, e3⟩ := D3
  simp only at *
  clear h1l h2l hm
  by_cases h0 : n = 0
  · have g0 : ((n : Int) == 0) = true := by rw [h0]; rfl
    rw [if_pos h0]
    have HV := Lib.hid (sto_valid ⟨key, val, false⟩)
    unfold chA at HV
    clear h0 hfit
    go_enter Tryz.func60, Tryz.ntmps60
    go_wp2_with fail
    refine H1.out.mono ?_
    rintro e w1 ⟨rfl, r1, k1⟩
    have hw1 : w.heap.size < w1.heap.size := by have := k1.size; simp at this; omega
    have R2 := Lib.hid (HN.out _ (Row.behindNew r1 (.cells #[.string ⟨key.toArray⟩, .string ⟨#[]⟩, .bool false] 52)))
    have hres := (Row.made w 52 #[.string ⟨#[]⟩, .string ⟨#[]⟩, .bool false]).kept (Kept.ofGrown (F := fun i => i = b) k1 (fun i e => by injection e with e; exact e.symm)) (by omega)
    have K1 := Lib.hid (gb_trans (World.grownBy_alloc w _ (some b)) k1)
    clear r1 k1
    go_wp2_with fail
    refine R2.out.mono ?_
    rintro e w2 ⟨rfl, r2, k2⟩
    have hc2 := (Row.made w1 52 #[.string ⟨key.toArray⟩, .string ⟨#[]⟩, .bool false]).kept (Kept.ofGrown (F := fun i => i = b) k2 (fun i e => by injection e with e; exact e.symm)) (by omega)
    have hres2 := (Row.behindNew hres (.cells #[.string ⟨key.toArray⟩, .string ⟨#[]⟩, .bool false] 52)).kept (Kept.ofGrown (F := fun i => i = b) k2 (fun i e => by injection e with e; exact e.symm)) (by omega)
    have R3 := Lib.hid (HT.out _ r2)
    have K2 := Lib.hid (gb_trans K1.out (gb_trans (World.grownBy_alloc w1 _ (some b)) k2))
    clear r2 k2 hres
    go_wp2_with fail
    refine R3.out.mono ?_
    rintro e w3 ⟨rfl, r3, k3⟩
    have hc3 := hc2.kept (Kept.ofGrown (F := fun i => i = b) k3 (fun i e => by injection e with e; exact e.symm)) (by omega)
    have hres3 := hres2.kept (Kept.ofGrown (F := fun i => i = b) k3 (fun i e => by injection e with e; exact e.symm)) (by omega)
    have K3 := Lib.hid (gb_trans K2.out k3)
    have f1 := hc3.free 1
    have q1 : w3.cell? ⟨w1.heap.size, 1, none⟩ = some (.string ⟨#[]⟩) := hc3.at 1
    clear k3 hc2 hres2
    go_wp2_with fail
    have HcW := Lib.hid (Row.stored hc3 1 (.string ⟨val.toArray⟩))
    have HresW := Lib.hid (Row.storedElsewhere hres3 (p := ⟨w1.heap.size, 1, none⟩) (by show w1.heap.size ≠ w.heap.size; omega) (.string ⟨val.toArray⟩))
    have HrdW := Lib.hid (Row.storedElsewhere r3 (p := ⟨w1.heap.size, 1, none⟩) (by show w1.heap.size ≠ b; omega) (.string ⟨val.toArray⟩))
    have KW := Lib.hid (gb_storeNew K3.out (p := ⟨w1.heap.size, 1, none⟩) (by show w.heap.size ≤ w1.heap.size; omega) (.string ⟨val.toArray⟩))
    clear r3 hc3 hres3 q1 f1
    refine wp_region_held_drew (S := (fun w' : World => Row w' w1.heap.size 52 #[.string ⟨key.toArray⟩, .string ⟨val.toArray⟩, .bool false])) (by kernel_rfl) (HcW.out) (fun hHeld => ?_)
    refine wpAnyH_take (i := 0) (v := ?_) rfl (by kernel_rfl) (by kernel_rfl) (by kernel_rfl) (fun _ _ _ h => h) (Or.inl ⟨by rfl, (by intro w hSw; have c0 := hSw.at 0; have c1 := hSw.at 1; have c2 := hSw.at 2; go_simp; try with_reducible rfl)⟩) (by assumption) ?_
    simp only [Act.put, List.getElem_toArray, List.getElem_cons_zero, List.getElem_cons_succ, List.setIfInBounds_toArray, List.set_cons_zero, List.set_cons_succ]
    refine wpAnyH_take (i := 1) (v := ?_) rfl (by kernel_rfl) (by kernel_rfl) (by kernel_rfl) (fun _ _ _ h => h) (Or.inl ⟨by rfl, (by intro w hSw; have c0 := hSw.at 0; have c1 := hSw.at 1; have c2 := hSw.at 2; go_simp; try with_reducible rfl)⟩) (by assumption) ?_
    simp only [Act.put, List.getElem_toArray, List.getElem_cons_zero, List.getElem_cons_succ, List.setIfInBounds_toArray, List.set_cons_zero, List.set_cons_succ]
    refine wpAnyH_ready (rs := [2]) (by kernel_rfl) (by simp) ?_
    refine AllReadyH.cons rfl (fun K hK => ?_) AllReadyH.nil
    go_simp
    go_at_call 89
    refine (HV.out _).mono ?_
    rintro e w8 ⟨rfl, hb8⟩
    have hc8 := Row.below hHeld hb8 hHeld.inHeap
    have hres8 := Row.below HresW.out.behindDraw hb8 HresW.out.inHeap
    have Hrd8 := Lib.hid (Row.below (Row.behindDraw HrdW.out) hb8 (Row.inHeap HrdW.out))
    have K8 := Lib.hid (gb_trans (gb_draw KW.out) (gb_below hb8 _))
    refine hK.out _ _ hc8 (fun hHeld => ?_)
    clear hc8 hb8
    clear hK K
    refine wpAnyH_ready (rs := [3]) (by kernel_rfl) (by simp) ?_
    refine AllReadyH.cons rfl (fun K hK => ?_) AllReadyH.nil
    have f0 := hres8.free 0
    have f1 := hres8.free 1
    have f2 := hres8.free 2
    have q0 : w8.cell? ⟨w.heap.size, 0, none⟩ = some (.string ⟨#[]⟩) := hres8.at 0
    have q1 : w8.cell? ⟨w.heap.size, 1, none⟩ = some (.string ⟨#[]⟩) := hres8.at 1
    have q2 : w8.cell? ⟨w.heap.size, 2, none⟩ = some (.bool false) := hres8.at 2
    have hr9 := (((hres8.stored 0 (.string ⟨key.toArray⟩)).stored 1 (.string ⟨val.toArray⟩)).stored 2 (.bool false))
    have x0 := hr9.at 0
    have x1 := hr9.at 1
    have x2 := hr9.at 2
    simp only [List.setIfInBounds_toArray, List.set_cons_zero, List.set_cons_succ, List.getElem?_toArray, List.getElem?_cons_zero, List.getElem?_cons_succ] at x0 x1 x2
    have Hrd9 := Lib.hid ((((Hrd8.out).storedElsewhere (p := ⟨w.heap.size, 0, none⟩) (by show w.heap.size ≠ b; omega) (.string ⟨key.toArray⟩)).storedElsewhere (p := ⟨w.heap.size, 1, none⟩) (by show w.heap.size ≠ b; omega) (.string ⟨val.toArray⟩)).storedElsewhere (p := ⟨w.heap.size, 2, none⟩) (by show w.heap.size ≠ b; omega) (.bool false))
    have K9 := Lib.hid (gb_storeNew (gb_storeNew (gb_storeNew K8.out (p := ⟨w.heap.size, 0, none⟩) (Nat.le_refl _) (.string ⟨key.toArray⟩)) (p := ⟨w.heap.size, 1, none⟩) (Nat.le_refl _) (.string ⟨val.toArray⟩)) (p := ⟨w.heap.size, 2, none⟩) (Nat.le_refl _) (.bool false))
    have hc9 := (((hHeld).storedElsewhere (p := ⟨w.heap.size, 0, none⟩) (by show w.heap.size ≠ w1.heap.size; omega) (.string ⟨key.toArray⟩)).storedElsewhere (p := ⟨w.heap.size, 1, none⟩) (by show w.heap.size ≠ w1.heap.size; omega) (.string ⟨val.toArray⟩)).storedElsewhere (p := ⟨w.heap.size, 2, none⟩) (by show w.heap.size ≠ w1.heap.size; omega) (.bool false)
    clear hr9 hres8
    go_simp
    refine hK.out _ _ hc9 (fun hHeld => ?_)
    clear hc9 q0 q1 q2 f0 f1 f2
    clear hK K
    refine wpAnyH_take (i := 4) (v := ?_) rfl (by kernel_rfl) (by kernel_rfl) (by kernel_rfl) (fun _ _ _ h => h) (Or.inl ⟨by rfl, (by intro w hSw; go_simp; try with_reducible rfl)⟩) (by assumption) ?_
    simp only [Act.put, List.getElem_toArray, List.getElem_cons_zero, List.getElem_cons_succ, List.setIfInBounds_toArray, List.set_cons_zero, List.set_cons_succ]
    refine wpAnyH_done (by kernel_rfl) ?_ _
    clear hHeld
    go_wp2_with fail
    refine bodyPost_ret (v := .tuple #[.agg #[.string ⟨key.toArray⟩, .string ⟨val.toArray⟩, .bool false], .bool (decide (Sto.May ⟨key, val, false⟩))]) (by simp [results, Tryz.results60, go_sem, x0, x1, x2]) rfl ⟨rfl, Hrd9.out, K9.out⟩
  · have g0 : ((n : Int) == 0) = false := by simpa using h0
    rw [if_neg h0]
    by_cases h1 : n = 1
    · have g1 : ((n : Int) == 1) = true := by rw [h1]; rfl
      rw [if_pos h1]
      have HV := Lib.hid (sto_valid ⟨key, [], true⟩)
      unfold chA at HV
      clear h0 h1 hfit
      go_enter Tryz.func60, Tryz.ntmps60
      go_wp2_with fail
      refine H1.out.mono ?_
      rintro e w1 ⟨rfl, r1, k1⟩
      have hw1 : w.heap.size < w1.heap.size := by have := k1.size; simp at this; omega
      have R2 := Lib.hid (HN.out _ (Row.behindNew r1 (.cells #[.string ⟨key.toArray⟩, .string ⟨#[]⟩, .bool false] 52)))
      have hres := (Row.made w 52 #[.string ⟨#[]⟩, .string ⟨#[]⟩, .bool false]).kept (Kept.ofGrown (F := fun i => i = b) k1 (fun i e => by injection e with e; exact e.symm)) (by omega)
      have K1 := Lib.hid (gb_trans (World.grownBy_alloc w _ (some b)) k1)
      clear r1 k1
      go_wp2_with fail
      refine R2.out.mono ?_
      rintro e w2 ⟨rfl, r2, k2⟩
      have hc2 := (Row.made w1 52 #[.string ⟨key.toArray⟩, .string ⟨#[]⟩, .bool false]).kept (Kept.ofGrown (F := fun i => i = b) k2 (fun i e => by injection e with e; exact e.symm)) (by omega)
      have hres2 := (Row.behindNew hres (.cells #[.string ⟨key.toArray⟩, .string ⟨#[]⟩, .bool false] 52)).kept (Kept.ofGrown (F := fun i => i = b) k2 (fun i e => by injection e with e; exact e.symm)) (by omega)
      have K2 := Lib.hid (gb_trans K1.out (gb_trans (World.grownBy_alloc w1 _ (some b)) k2))
      have f2 := hc2.free 2
      have q2 : w2.cell? ⟨w1.heap.size, 2, none⟩ = some (.bool false) := hc2.at 2
      clear k2 hres
      go_wp2_with fail
      have HcW := Lib.hid (Row.stored hc2 2 (.bool true))
      have HresW := Lib.hid (Row.storedElsewhere hres2 (p := ⟨w1.heap.size, 2, none⟩) (by show w1.heap.size ≠ w.heap.size; omega) (.bool true))
      have HrdW := Lib.hid (Row.storedElsewhere r2 (p := ⟨w1.heap.size, 2, none⟩) (by show w1.heap.size ≠ b; omega) (.bool true))
      have KW := Lib.hid (gb_storeNew K2.out (p := ⟨w1.heap.size, 2, none⟩) (by show w.heap.size ≤ w1.heap.size; omega) (.bool true))
      clear r2 hc2 hres2 q2 f2
      refine wp_region_held_drew (S := (fun w' : World => Row w' w1.heap.size 52 #[.string ⟨key.toArray⟩, .string ⟨#[]⟩, .bool true])) (by kernel_rfl) (HcW.out) (fun hHeld => ?_)
      refine wpAnyH_take (i := 0) (v := ?_) rfl (by kernel_rfl) (by kernel_rfl) (by kernel_rfl) (fun _ _ _ h => h) (Or.inl ⟨by rfl, (by intro w hSw; have c0 := hSw.at 0; have c1 := hSw.at 1; have c2 := hSw.at 2; go_simp; try with_reducible rfl)⟩) (by assumption) ?_
      simp only [Act.put, List.getElem_toArray, List.getElem_cons_zero, List.getElem_cons_succ, List.setIfInBounds_toArray, List.set_cons_zero, List.set_cons_succ]
      refine wpAnyH_take (i := 1) (v := ?_) rfl (by kernel_rfl) (by kernel_rfl) (by kernel_rfl) (fun _ _ _ h => h) (Or.inl ⟨by rfl, (by intro w hSw; have c0 := hSw.at 0; have c1 := hSw.at 1; have c2 := hSw.at 2; go_simp; try with_reducible rfl)⟩) (by assumption) ?_
      simp only [Act.put, List.getElem_toArray, List.getElem_cons_zero, List.getElem_cons_succ, List.setIfInBounds_toArray, List.set_cons_zero, List.set_cons_succ]
      refine wpAnyH_ready (rs := [2]) (by kernel_rfl) (by simp) ?_
      refine AllReadyH.cons rfl (fun K hK => ?_) AllReadyH.nil
      go_simp
      go_at_call 89
      refine (HV.out _).mono ?_
      rintro e w8 ⟨rfl, hb8⟩
      have hc8 := Row.below hHeld hb8 hHeld.inHeap
      have hres8 := Row.below HresW.out.behindDraw hb8 HresW.out.inHeap
      have Hrd8 := Lib.hid (Row.below (Row.behindDraw HrdW.out) hb8 (Row.inHeap HrdW.out))
      have K8 := Lib.hid (gb_trans (gb_draw KW.out) (gb_below hb8 _))
      refine hK.out _ _ hc8 (fun hHeld => ?_)
      clear hc8 hb8
      clear hK K
      refine wpAnyH_ready (rs := [3]) (by kernel_rfl) (by simp) ?_
      refine AllReadyH.cons rfl (fun K hK => ?_) AllReadyH.nil
      have f0 := hres8.free 0
      have f1 := hres8.free 1
      have f2 := hres8.free 2
      have q0 : w8.cell? ⟨w.heap.size, 0, none⟩ = some (.string ⟨#[]⟩) := hres8.at 0
      have q1 : w8.cell? ⟨w.heap.size, 1, none⟩ = some (.string ⟨#[]⟩) := hres8.at 1
      have q2 : w8.cell? ⟨w.heap.size, 2, none⟩ = some (.bool false) := hres8.at 2
      have hr9 := (((hres8.stored 0 (.string ⟨key.toArray⟩)).stored 1 (.string ⟨#[]⟩)).stored 2 (.bool true))
      have x0 := hr9.at 0
      have x1 := hr9.at 1
      have x2 := hr9.at 2
      simp only [List.setIfInBounds_toArray, List.set_cons_zero, List.set_cons_succ, List.getElem?_toArray, List.getElem?_cons_zero, List.getElem?_cons_succ] at x0 x1 x2
      have Hrd9 := Lib.hid ((((Hrd8.out).storedElsewhere (p := ⟨w.heap.size, 0, none⟩) (by show w.heap.size ≠ b; omega) (.string ⟨key.toArray⟩)).storedElsewhere (p := ⟨w.heap.size, 1, none⟩) (by show w.heap.size ≠ b; omega) (.string ⟨#[]⟩)).storedElsewhere (p := ⟨w.heap.size, 2, none⟩) (by show w.heap.size ≠ b; omega) (.bool true))
      have K9 := Lib.hid (gb_storeNew (gb_storeNew (gb_storeNew K8.out (p := ⟨w.heap.size, 0, none⟩) (Nat.le_refl _) (.string ⟨key.toArray⟩)) (p := ⟨w.heap.size, 1, none⟩) (Nat.le_refl _) (.string ⟨#[]⟩)) (p := ⟨w.heap.size, 2, none⟩) (Nat.le_refl _) (.bool true))
      have hc9 := (((hHeld).storedElsewhere (p := ⟨w.heap.size, 0, none⟩) (by show w.heap.size ≠ w1.heap.size; omega) (.string ⟨key.toArray⟩)).storedElsewhere (p := ⟨w.heap.size, 1, none⟩) (by show w.heap.size ≠ w1.heap.size; omega) (.string ⟨#[]⟩)).storedElsewhere (p := ⟨w.heap.size, 2, none⟩) (by show w.heap.size ≠ w1.heap.size; omega) (.bool true)
      clear hr9 hres8
      go_simp
      refine hK.out _ _ hc9 (fun hHeld => ?_)
      clear hc9 q0 q1 q2 f0 f1 f2
      clear hK K
      refine wpAnyH_take (i := 4) (v := ?_) rfl (by kernel_rfl) (by kernel_rfl) (by kernel_rfl) (fun _ _ _ h => h) (Or.inl ⟨by rfl, (by intro w hSw; go_simp; try with_reducible rfl)⟩) (by assumption) ?_
      simp only [Act.put, List.getElem_toArray, List.getElem_cons_zero, List.getElem_cons_succ, List.setIfInBounds_toArray, List.set_cons_zero, List.set_cons_succ]
      refine wpAnyH_done (by kernel_rfl) ?_ _
      clear hHeld
      go_wp2_with fail
      refine bodyPost_ret (v := .tuple #[.agg #[.string ⟨key.toArray⟩, .string ⟨#[]⟩, .bool true], .bool (decide (Sto.May ⟨key, [], true⟩))]) (by simp [results, Tryz.results60, go_sem, x0, x1, x2]) rfl ⟨rfl, Hrd9.out, K9.out⟩
    · have g1 : ((n : Int) == 1) = false := by
        rw [beq_eq_false_iff_ne]; omega
      rw [if_neg h1]
      clear h0 h1 hfit
      go_enter Tryz.func60, Tryz.ntmps60
      go_wp2_with fail
      refine H1.out.mono ?_
      rintro e w1 ⟨rfl, r1, k1⟩
      have hw1 : w.heap.size < w1.heap.size := by have := k1.size; simp at this; omega
      have R2 := Lib.hid (HN.out _ (Row.behindNew r1 (.cells #[.string ⟨key.toArray⟩, .string ⟨#[]⟩, .bool false] 52)))
      have hres := (Row.made w 52 #[.string ⟨#[]⟩, .string ⟨#[]⟩, .bool false]).kept (Kept.ofGrown (F := fun i => i = b) k1 (fun i e => by injection e with e; exact e.symm)) (by omega)
      have K1 := Lib.hid (gb_trans (World.grownBy_alloc w _ (some b)) k1)
      clear r1 k1
      go_wp2_with fail
      refine R2.out.mono ?_
      rintro e w2 ⟨rfl, r2, k2⟩
      have hres2 := (Row.behindNew hres (.cells #[.string ⟨key.toArray⟩, .string ⟨#[]⟩, .bool false] 52)).kept (Kept.ofGrown (F := fun i => i = b) k2 (fun i e => by injection e with e; exact e.symm)) (by omega)
      have K2 := Lib.hid (gb_trans K1.out (gb_trans (World.grownBy_alloc w1 _ (some b)) k2))
      have f0 := hres2.free 0
      have f1 := hres2.free 1
      have f2 := hres2.free 2
      have q0 : w2.cell? ⟨w.heap.size, 0, none⟩ = some (.string ⟨#[]⟩) := hres2.at 0
      have q1 : w2.cell? ⟨w.heap.size, 1, none⟩ = some (.string ⟨#[]⟩) := hres2.at 1
      have q2 : w2.cell? ⟨w.heap.size, 2, none⟩ = some (.bool false) := hres2.at 2
      have hr9 := (((hres2.stored 0 (.string ⟨#[]⟩)).stored 1 (.string ⟨#[]⟩)).stored 2 (.bool false))
      have x0 := hr9.at 0
      have x1 := hr9.at 1
      have x2 := hr9.at 2
      have Hrd9 := Lib.hid (((Row.storedElsewhere r2 (p := ⟨w.heap.size, 0, none⟩) (by show w.heap.size ≠ b; omega) (.string ⟨#[]⟩)).storedElsewhere (p := ⟨w.heap.size, 1, none⟩) (by show w.heap.size ≠ b; omega) (.string ⟨#[]⟩)).storedElsewhere (p := ⟨w.heap.size, 2, none⟩) (by show w.heap.size ≠ b; omega) (.bool false))
      have K9 := Lib.hid (gb_storeNew (gb_storeNew (gb_storeNew K2.out (p := ⟨w.heap.size, 0, none⟩) (Nat.le_refl _) (.string ⟨#[]⟩)) (p := ⟨w.heap.size, 1, none⟩) (Nat.le_refl _) (.string ⟨#[]⟩)) (p := ⟨w.heap.size, 2, none⟩) (Nat.le_refl _) (.bool false))
      clear r2 k2 hres hres2 hr9
      simp only [Array.set!_eq_setIfInBounds, List.setIfInBounds_toArray, List.set_cons_zero, List.set_cons_succ, List.getElem?_toArray, List.getElem?_cons_zero, List.getElem?_cons_succ] at x0 x1 x2
      go_wp2_with fail
      refine bodyPost_ret (v := .tuple #[.agg #[.string ⟨#[]⟩, .string ⟨#[]⟩, .bool false], .bool false]) (by simp [results, Tryz.results60, go_sem, x0, x1, x2]) rfl ⟨rfl, Hrd9.out, K9.out⟩
end Go.Proofs.YtbfjageaheijbaaGreat
