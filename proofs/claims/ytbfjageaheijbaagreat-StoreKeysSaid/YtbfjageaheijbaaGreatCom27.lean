/- The landed journal: a head that is set; a disk's calls one behind the other. -/
import Derived.Test.YtbfjageaheijbaaGreatCom26
import Derived.Test.YtbfjageaheijbaaGreatCom6
import Derived.Test.YtbfjageaheijbaaGreatCom25
import Derived.Test.YtbfjageaheijbaaGreatCom13
set_option linter.unusedSimpArgs false
set_option linter.unusedVariables false
namespace Go.Proofs.YtbfjageaheijbaaGreat
open Go.RowKit Dsk Jnl

section
variable {w w1 w2 : World} {F G : Nat → Prop} {dv : Value} {d d1 d2 : D} {N : Nat}

set_option maxRecDepth 100000 in
theorem atl_mono (h : AtL w F dv d) (hG : ∀ i, F i → G i) (hlt : ∀ i, G i → i < w.heap.size) : AtL w G dv d := by
  obtain ⟨⟨b, bm, sv, N, M, pv, e, h⟩, -⟩ := h
  exact ⟨⟨b, bm, sv, N, M, pv, e, h.mono hG⟩, hlt⟩

set_option maxRecDepth 100000 in
theorem atl_below (h : AtL w F dv d) (hb : Below w.heap.size w w1) : AtL w1 F dv d := atl_kept h (Kept.ofBelow hb (fun _ => False)) (fun _ _ h => h)

set_option maxRecDepth 100000 in
theorem doing_refl (h : AtL w F dv d) : Doing AtL w F dv d w := ⟨atl_mono h (fun _ hi => Or.inl hi) (fun i hi => Grow.lt hi h.2 (Nat.le_refl _)), Kept.refl _ _⟩

set_option maxRecDepth 100000 in
theorem doing_trans (h : Doing AtL w F dv d1 w1) (hF : ∀ i, F i → i < w.heap.size) (k : Doing AtL w1 (Grow F w w1) dv d2 w2) : Doing AtL w F dv d2 w2 := by
  refine ⟨atl_mono k.1 (fun i hi => Grow.trans hi h.2.size k.2.size) (fun i hi => Grow.lt hi hF (Nat.le_trans h.2.size k.2.size)), h.2.trans k.2 (fun i hi hg => ?_)⟩
  rcases hg with hg | hg
  · exact hg
  · omega

set_option maxRecDepth 100000 in
theorem doing_below (h : Doing AtL w F dv d w1) (hF : ∀ i, F i → i < w.heap.size) (k : Below w1.heap.size w1 w2) : Doing AtL w F dv d w2 :=
  ⟨atl_mono (atl_below h.1 k) (fun i hi => Grow.within hi k.size) (fun i hi => Grow.lt hi hF (Nat.le_trans h.2.size k.size)), h.2.trans (Kept.ofBelow k (fun _ => False)) (fun _ _ h => h.elim)⟩

set_option maxRecDepth 100000 in
/-- A disk's call behind what turned nothing of it. -/
theorem doing_from (hb : Below w.heap.size w w1) (hF : ∀ i, F i → i < w.heap.size) (k : Doing AtL w1 F dv d w2) : Doing AtL w F dv d w2 :=
  ⟨atl_mono k.1 (fun i hi => Grow.later hi hb.size) (fun i hi => Grow.lt hi hF (Nat.le_trans hb.size k.2.size)), (Kept.ofBelow hb F).trans k.2 (fun _ _ h => h)⟩
end

set_option maxRecDepth 100000 in
set_option maxHeartbeats 1600000 in
theorem head_set {w : World} {F : Nat → Prop} {dv : Value} {d : D} {N : Nat} (h : AtL w F dv d) (hf : d.Fine N) (hN : N + 2 ≤ 100000) (q hh u : Nat) (hq : q < 9223372036854775808) (hh1 : hh < 9223372036854775808) (hu : u < 9223372036854775808) :
    Calls Tryz.prog 57 #[.agg #[.int .i64 (q : Int), .int .i64 (hh : Int), .int .i64 (u : Int)], dv] w fun e w' => e = .returned (.int .i64 (setHead q hh u d).1) ∧ Doing AtL w F dv (setHead q hh u d).2 w' := by
  have HT := Lib.hid (head_text q hh u hq hh1 hu)
  have hlt := h.2
  have hw5 : Hid (∀ w5, Below w.heap.size w w5 → Calls Tryz.prog 56 #[dv, .int .i64 ((q % 2 : Nat) : Int), .string (mk (head q hh u))] w5 fun e w' => e = .returned (.int .i64 (d.write ((q % 2 : Nat) : Int) (text (head q hh u))).1) ∧ Doing AtL w5 F dv (d.write ((q % 2 : Nat) : Int) (text (head q hh u))).2 w') := Lib.hid (fun w5 hb =>
    atl_write (atl_below h hb) hf (by omega) ((q % 2 : Nat) : Int) (mk (head q hh u)) (by omega) (by omega) (by rw [mk_len]; have := head_len q hh u; omega))
  have hfl : Hid (∀ w6, Doing AtL w F dv (d.write ((q % 2 : Nat) : Int) (text (head q hh u))).2 w6 → Calls Tryz.prog 86 #[dv] w6 fun e w' => e = .returned (.int .i64 (d.write ((q % 2 : Nat) : Int) (text (head q hh u))).2.flush.1) ∧ Doing AtL w F dv (d.write ((q % 2 : Nat) : Int) (text (head q hh u))).2.flush.2 w') := Lib.hid (fun w6 k => by
    refine (atl_flush k.1 (hf.write _ _) (by omega)).mono ?_
    rintro e w' ⟨rfl, k2⟩
    exact ⟨rfl, doing_trans k hlt k2⟩)
  have hrem : (q : Int).tmod 2 = ((q % 2 : Nat) : Int) := by rw [Int.tmod_eq_emod_of_nonneg (by omega)]; omega
  have hrow := (Row.made w 96 #[.int .i64 (q : Int), .int .i64 (hh : Int), .int .i64 (u : Int)])
  have Hlt := Lib.hid hlt
  obtain ⟨b, rfl⟩ := atl_addr h
  have hset : Hid (setHead q hh u d = if (d.write ((q % 2 : Nat) : Int) (text (head q hh u))).1 = 0 then (d.write ((q % 2 : Nat) : Int) (text (head q hh u))).2.flush else d.write ((q % 2 : Nat) : Int) (text (head q hh u))) := Lib.hid rfl
  have hq1 : ((q % 2 : Nat) : Int) ≤ 1 := by omega
  have hq0 : (0 : Int) ≤ ((q % 2 : Nat) : Int) := by omega
  clear h hf hlt
  rw [hset.out]
  clear hset
  generalize hD1 : d.write ((q % 2 : Nat) : Int) (text (head q hh u)) = D1 at *
  generalize hD2 : D1.2.flush = D2 at *
  obtain ⟨x1, d1⟩ := D1
  obtain ⟨x2, d2⟩ := D2
  simp only at *
  clear hD1 hD2
  generalize hm : ((q % 2 : Nat) : Int) = m at *
  generalize hT : mk (head q hh u) = T at *
  clear hT hm hq hh1 hu
  by_cases hx : x1 = 0
  · subst hx
    rw [if_pos rfl]
    go_enter Tryz.func57, Tryz.ntmps57
    go_wp2_with fail
    refine wp_region_held_drew (S := (fun w' => Row w' w.heap.size 96 #[.int .i64 (q : Int), .int .i64 (hh : Int), .int .i64 (u : Int)])) (by kernel_rfl) hrow (fun hHeld => ?_)
    refine wpAnyH_take (i := 0) (v := ?_) rfl (by kernel_rfl) (by kernel_rfl) (by kernel_rfl) (fun _ _ _ h => h) (Or.inl ⟨by rfl, (by intro w hSw; go_simp; try with_reducible rfl)⟩) (by assumption) ?_
    simp only [Act.put, List.getElem_toArray, List.getElem_cons_zero, List.getElem_cons_succ, List.setIfInBounds_toArray, List.set_cons_zero, List.set_cons_succ]
    refine wpAnyH_take (i := 1) (v := ?_) rfl (by kernel_rfl) (by kernel_rfl) (by kernel_rfl) (fun _ _ _ h => h) (Or.inl ⟨by rfl, (by intro w hSw; go_simp; try with_reducible rfl)⟩) (by assumption) ?_
    simp only [Act.put, List.getElem_toArray, List.getElem_cons_zero, List.getElem_cons_succ, List.setIfInBounds_toArray, List.set_cons_zero, List.set_cons_succ]
    refine wpAnyH_take (i := 2) (v := ?_) rfl (by kernel_rfl) (by kernel_rfl) (by kernel_rfl) (fun _ _ _ h => h) (Or.inl ⟨by rfl, (by intro w hSw; have c0 := Row.at hSw 0; have c1 := Row.at hSw 1; have c2 := Row.at hSw 2; go_simp; try with_reducible rfl)⟩) (by assumption) ?_
    simp only [Act.put, List.getElem_toArray, List.getElem_cons_zero, List.getElem_cons_succ, List.setIfInBounds_toArray, List.set_cons_zero, List.set_cons_succ]
    refine wpAnyH_take (i := 3) (v := ?_) rfl (by kernel_rfl) (by kernel_rfl) (by kernel_rfl) (fun _ _ _ h => h) (Or.inl ⟨by rfl, (by intro w hSw; go_simp; try with_reducible rfl)⟩) (by assumption) ?_
    simp only [Act.put, List.getElem_toArray, List.getElem_cons_zero, List.getElem_cons_succ, List.setIfInBounds_toArray, List.set_cons_zero, List.set_cons_succ]
    refine wpAnyH_take (i := 4) (v := ?_) rfl (by kernel_rfl) (by kernel_rfl) (by kernel_rfl) (fun _ _ _ h => h) (Or.inl ⟨by rfl, (by intro w hSw; have c0 := Row.at hSw 0; have c1 := Row.at hSw 1; have c2 := Row.at hSw 2; go_simp; try with_reducible rfl)⟩) (by assumption) ?_
    simp only [Act.put, List.getElem_toArray, List.getElem_cons_zero, List.getElem_cons_succ, List.setIfInBounds_toArray, List.set_cons_zero, List.set_cons_succ]
    refine wpAnyH_ready (rs := [5]) (by kernel_rfl) (by simp) ?_
    refine AllReadyH.cons rfl (fun K hK => ?_) AllReadyH.nil
    go_simp
    go_at_call 85
    refine (HT.out _).mono ?_
    rintro e w5 ⟨rfl, hb5⟩
    have hB5 : Below w.heap.size w w5 := ((Below.refl _ _).alloc (Nat.le_refl _) _).drew.trans (hb5.mono (by simp))
    have hr5 := Row.below hHeld hb5 (by simp)
    refine hK.out _ _ hr5 (fun hHeld => ?_)
    clear hr5 hb5
    clear hK K
    refine wpAnyH_ready (rs := [6]) (by kernel_rfl) (by simp) ?_
    refine AllReadyH.cons rfl (fun K hK => ?_) AllReadyH.nil
    go_simp
    go_at_call 56
    refine (hw5.out _ hB5).mono ?_
    rintro e w6 ⟨rfl, hk6⟩
    have hr6 := Row.kept hHeld hk6.2 (fun hf => by have := Hlt.out _ hf; omega)
    have hk6 := doing_from hB5 Hlt.out hk6
    refine hK.out _ _ hr6 (fun hHeld => ?_)
    clear hr6
    clear hK K
    refine wpAnyH_take (i := 7) (v := ?_) rfl (by kernel_rfl) (by kernel_rfl) (by kernel_rfl) (fun _ _ _ h => h) (Or.inl ⟨by rfl, (by intro w hSw; go_simp; try with_reducible rfl)⟩) (by assumption) ?_
    simp only [Act.put, List.getElem_toArray, List.getElem_cons_zero, List.getElem_cons_succ, List.setIfInBounds_toArray, List.set_cons_zero, List.set_cons_succ]
    refine wpAnyH_done (by kernel_rfl) ?_ _
    have Hk := Lib.hid hk6
    clear hk6 hHeld
    go_wp2_with fail
    refine (hfl.out _ Hk.out).mono ?_
    rintro e w7 ⟨rfl, hk7⟩
    have Hk7 := Lib.hid hk7
    clear hk7
    go_wp2_with fail
    go_ret
    exact ⟨rfl, Hk7.out⟩
  · rw [if_neg hx]
    have hb : (x1 != 0) = true := by simpa using hx
    clear hx
    go_enter Tryz.func57, Tryz.ntmps57
    go_wp2_with fail
    refine wp_region_held_drew (S := (fun w' => Row w' w.heap.size 96 #[.int .i64 (q : Int), .int .i64 (hh : Int), .int .i64 (u : Int)])) (by kernel_rfl) hrow (fun hHeld => ?_)
    refine wpAnyH_take (i := 0) (v := ?_) rfl (by kernel_rfl) (by kernel_rfl) (by kernel_rfl) (fun _ _ _ h => h) (Or.inl ⟨by rfl, (by intro w hSw; go_simp; try with_reducible rfl)⟩) (by assumption) ?_
    simp only [Act.put, List.getElem_toArray, List.getElem_cons_zero, List.getElem_cons_succ, List.setIfInBounds_toArray, List.set_cons_zero, List.set_cons_succ]
    refine wpAnyH_take (i := 1) (v := ?_) rfl (by kernel_rfl) (by kernel_rfl) (by kernel_rfl) (fun _ _ _ h => h) (Or.inl ⟨by rfl, (by intro w hSw; go_simp; try with_reducible rfl)⟩) (by assumption) ?_
    simp only [Act.put, List.getElem_toArray, List.getElem_cons_zero, List.getElem_cons_succ, List.setIfInBounds_toArray, List.set_cons_zero, List.set_cons_succ]
    refine wpAnyH_take (i := 2) (v := ?_) rfl (by kernel_rfl) (by kernel_rfl) (by kernel_rfl) (fun _ _ _ h => h) (Or.inl ⟨by rfl, (by intro w hSw; have c0 := Row.at hSw 0; have c1 := Row.at hSw 1; have c2 := Row.at hSw 2; go_simp; try with_reducible rfl)⟩) (by assumption) ?_
    simp only [Act.put, List.getElem_toArray, List.getElem_cons_zero, List.getElem_cons_succ, List.setIfInBounds_toArray, List.set_cons_zero, List.set_cons_succ]
    refine wpAnyH_take (i := 3) (v := ?_) rfl (by kernel_rfl) (by kernel_rfl) (by kernel_rfl) (fun _ _ _ h => h) (Or.inl ⟨by rfl, (by intro w hSw; go_simp; try with_reducible rfl)⟩) (by assumption) ?_
    simp only [Act.put, List.getElem_toArray, List.getElem_cons_zero, List.getElem_cons_succ, List.setIfInBounds_toArray, List.set_cons_zero, List.set_cons_succ]
    refine wpAnyH_take (i := 4) (v := ?_) rfl (by kernel_rfl) (by kernel_rfl) (by kernel_rfl) (fun _ _ _ h => h) (Or.inl ⟨by rfl, (by intro w hSw; have c0 := Row.at hSw 0; have c1 := Row.at hSw 1; have c2 := Row.at hSw 2; go_simp; try with_reducible rfl)⟩) (by assumption) ?_
    simp only [Act.put, List.getElem_toArray, List.getElem_cons_zero, List.getElem_cons_succ, List.setIfInBounds_toArray, List.set_cons_zero, List.set_cons_succ]
    refine wpAnyH_ready (rs := [5]) (by kernel_rfl) (by simp) ?_
    refine AllReadyH.cons rfl (fun K hK => ?_) AllReadyH.nil
    go_simp
    go_at_call 85
    refine (HT.out _).mono ?_
    rintro e w5 ⟨rfl, hb5⟩
    have hB5 : Below w.heap.size w w5 := ((Below.refl _ _).alloc (Nat.le_refl _) _).drew.trans (hb5.mono (by simp))
    have hr5 := Row.below hHeld hb5 (by simp)
    refine hK.out _ _ hr5 (fun hHeld => ?_)
    clear hr5 hb5
    clear hK K
    refine wpAnyH_ready (rs := [6]) (by kernel_rfl) (by simp) ?_
    refine AllReadyH.cons rfl (fun K hK => ?_) AllReadyH.nil
    go_simp
    go_at_call 56
    refine (hw5.out _ hB5).mono ?_
    rintro e w6 ⟨rfl, hk6⟩
    have hr6 := Row.kept hHeld hk6.2 (fun hf => by have := Hlt.out _ hf; omega)
    have hk6 := doing_from hB5 Hlt.out hk6
    refine hK.out _ _ hr6 (fun hHeld => ?_)
    clear hr6
    clear hK K
    refine wpAnyH_take (i := 7) (v := ?_) rfl (by kernel_rfl) (by kernel_rfl) (by kernel_rfl) (fun _ _ _ h => h) (Or.inl ⟨by rfl, (by intro w hSw; go_simp; try with_reducible rfl)⟩) (by assumption) ?_
    simp only [Act.put, List.getElem_toArray, List.getElem_cons_zero, List.getElem_cons_succ, List.setIfInBounds_toArray, List.set_cons_zero, List.set_cons_succ]
    refine wpAnyH_done (by kernel_rfl) ?_ _
    have Hk := Lib.hid hk6
    clear hk6 hHeld
    go_wp2_with fail
    go_ret
    exact ⟨rfl, Hk.out⟩
end Go.Proofs.YtbfjageaheijbaaGreat
/- A sector's head, as it is read from its front: three numbers, and the sum behind them. No program is spoken of. -/
namespace Go.Proofs.YtbfjageaheijbaaGreat.Jnl
open Go.Proofs.YtbfjageaheijbaaGreat

section
variable (l : List UInt8)

def P1 : Nat × Nat × Int := Leb.first (l.drop 7)
def P2 : Nat × Nat × Int := Leb.first (l.drop (7 + (P1 l).2.1))
def P3 : Nat × Nat × Int := Leb.first (l.drop (7 + (P1 l).2.1 + (P2 l).2.1))

set_option maxRecDepth 100000 in
theorem headAt_parts (h : Nat) : headAt h l = if l.take 7 = tag ∧ (P1 l).2.2 = 0 ∧ (P2 l).2.2 = 0 ∧ (P3 l).2.2 = 0 ∧ l = head (P1 l).1 (P2 l).1 (P3 l).1 ++ l.drop (head (P1 l).1 (P2 l).1 (P3 l).1).length ∧ (P2 l).1 ≤ 1 ∧ (P3 l).1 ≤ 64 * h then some ((P1 l).1, (P2 l).1, (P3 l).1) else none := rfl

/-- The reader's three steps. -/
def T1 : Nat × List UInt8 × Int := stepN (l.drop 7) 0
def T2 : Nat × List UInt8 × Int := stepN (T1 l).2.1 (T1 l).2.2
def T3 : Nat × List UInt8 × Int := stepN (T2 l).2.1 (T2 l).2.2

set_option maxRecDepth 100000 in
theorem stepN_ok {s : List UInt8} (h : (Leb.first s).2.2 = 0) : stepN s 0 = ((Leb.first s).1, s.drop (Leb.first s).2.1, 0) := by simp [stepN, h]
set_option maxRecDepth 100000 in
theorem stepN_bad {s : List UInt8} (h : (Leb.first s).2.2 ≠ 0) : stepN s 0 = (0, [], (Leb.first s).2.2) := by simp [stepN, h]
set_option maxRecDepth 100000 in
theorem stepN_err {s : List UInt8} {e : Int} (h : e ≠ 0) : stepN s e = (0, s, e) := by simp [stepN, h]

set_option maxRecDepth 100000 in
theorem T1_eq : ((P1 l).2.2 = 0 ∧ T1 l = ((P1 l).1, l.drop (7 + (P1 l).2.1), 0)) ∨ ((P1 l).2.2 ≠ 0 ∧ (T1 l).2.2 ≠ 0) := by
  by_cases h : (Leb.first (l.drop 7)).2.2 = 0
  · left
    refine ⟨h, ?_⟩
    unfold T1
    rw [stepN_ok h, List.drop_drop]
    rfl
  · right
    refine ⟨h, ?_⟩
    unfold T1
    rw [stepN_bad h]
    exact h

set_option maxRecDepth 100000 in
theorem T2_eq : ((P1 l).2.2 = 0 ∧ (P2 l).2.2 = 0 ∧ T2 l = ((P2 l).1, l.drop (7 + (P1 l).2.1 + (P2 l).2.1), 0)) ∨ (((P1 l).2.2 ≠ 0 ∨ (P2 l).2.2 ≠ 0) ∧ (T2 l).2.2 ≠ 0) := by
  rcases T1_eq l with ⟨h1, e1⟩ | ⟨h1, e1⟩
  · by_cases h : (P2 l).2.2 = 0
    · left
      refine ⟨h1, h, ?_⟩
      unfold T2
      rw [e1]
      show stepN (l.drop (7 + (P1 l).2.1)) 0 = _
      rw [stepN_ok h, List.drop_drop]
      rfl
    · right
      refine ⟨Or.inr h, ?_⟩
      unfold T2
      rw [e1]
      show (stepN (l.drop (7 + (P1 l).2.1)) 0).2.2 ≠ 0
      rw [stepN_bad h]
      exact h
  · right
    refine ⟨Or.inl h1, ?_⟩
    unfold T2
    rw [stepN_err e1]
    exact e1

set_option maxRecDepth 100000 in
theorem T3_eq : ((P1 l).2.2 = 0 ∧ (P2 l).2.2 = 0 ∧ (P3 l).2.2 = 0 ∧ T3 l = ((P3 l).1, l.drop (7 + (P1 l).2.1 + (P2 l).2.1 + (P3 l).2.1), 0)) ∨ (((P1 l).2.2 ≠ 0 ∨ (P2 l).2.2 ≠ 0 ∨ (P3 l).2.2 ≠ 0) ∧ (T3 l).2.2 ≠ 0) := by
  rcases T2_eq l with ⟨h1, h2, e1⟩ | ⟨h1, e1⟩
  · by_cases h : (P3 l).2.2 = 0
    · left
      refine ⟨h1, h2, h, ?_⟩
      unfold T3
      rw [e1]
      show stepN (l.drop (7 + (P1 l).2.1 + (P2 l).2.1)) 0 = _
      rw [stepN_ok h, List.drop_drop]
      rfl
    · right
      refine ⟨Or.inr (Or.inr h), ?_⟩
      unfold T3
      rw [e1]
      show (stepN (l.drop (7 + (P1 l).2.1 + (P2 l).2.1)) 0).2.2 ≠ 0
      rw [stepN_bad h]
      exact h
  · right
    refine ⟨?_, ?_⟩
    · rcases h1 with h1 | h1
      · exact Or.inl h1
      · exact Or.inr (Or.inl h1)
    · unfold T3
      rw [stepN_err e1]
      exact e1

set_option maxRecDepth 100000 in
/-- An error on the way: no head. -/
theorem headAt_bad (h : Nat) (e : (T3 l).2.2 ≠ 0) : headAt h l = none := by
  rw [headAt_parts]
  rcases T3_eq l with ⟨h1, h2, h3, e3⟩ | ⟨h1, -⟩
  · rw [e3] at e; exact absurd rfl e
  · rw [if_neg (fun hc => by
      rcases h1 with h1 | h1 | h1
      · exact h1 hc.2.1
      · exact h1 hc.2.2.1
      · exact h1 hc.2.2.2.1)]

set_option maxRecDepth 100000 in
theorem headAt_untagged (h : Nat) (e : l.take 7 ≠ tag) : headAt h l = none := by
  rw [headAt_parts, if_neg (fun hc => e hc.1)]

set_option maxRecDepth 100000 in
/-- All is read: the numbers, and where the sum begins. -/
theorem headAt_read (h : Nat) (hl : l.length = 64) (ht : l.take 7 = tag) (e : (T3 l).2.2 = 0) :
    ∃ k, k ≤ 34 ∧ (T3 l).2.1.length = 64 - k ∧
      ((T2 l).1 ≤ 1 ∧ (T3 l).1 ≤ 64 * h ∧ (l.drop k).take 4 = Frm.sumOf (l.take k) → headAt h l = some ((T1 l).1, (T2 l).1, (T3 l).1)) ∧
      (¬ ((T2 l).1 ≤ 1 ∧ (T3 l).1 ≤ 64 * h ∧ (l.drop k).take 4 = Frm.sumOf (l.take k)) → headAt h l = none) ∧
      (T1 l).1 < 9223372036854775808 ∧ (T2 l).1 < 9223372036854775808 ∧ (T3 l).1 < 9223372036854775808 := by
  rcases T3_eq l with ⟨h1, h2, h3, e3⟩ | ⟨-, e3⟩
  · rcases T2_eq l with ⟨-, -, e2⟩ | ⟨h4, -⟩
    · rcases T1_eq l with ⟨-, e1⟩ | ⟨h4, -⟩
      · obtain ⟨a1, b1, c1⟩ := Leb.first_only (l.drop 7) (P1 l).1 (P1 l).2.1 (by rw [← h1]; rfl)
        obtain ⟨a2, b2, c2⟩ := Leb.first_only (l.drop (7 + (P1 l).2.1)) (P2 l).1 (P2 l).2.1 (by rw [← h2]; rfl)
        obtain ⟨a3, b3, c3⟩ := Leb.first_only (l.drop (7 + (P1 l).2.1 + (P2 l).2.1)) (P3 l).1 (P3 l).2.1 (by rw [← h3]; rfl)
        have d1 := Leb.enc_len (P1 l).1
        have hhl := head_len (P1 l).1 (P2 l).1 (P3 l).1
        have htake : l.take (7 + (P1 l).2.1 + (P2 l).2.1 + (P3 l).2.1) = headOf (P1 l).1 (P2 l).1 (P3 l).1 := by
          rw [List.take_add, c3, List.take_add, c2, List.take_add, c1, ht]
          rfl
        have hk : (headOf (P1 l).1 (P2 l).1 (P3 l).1).length = 7 + (P1 l).2.1 + (P2 l).2.1 + (P3 l).2.1 := by
          unfold headOf
          simp only [List.length_append]
          rw [b1, b2, b3]
          rfl
        have hk34 : 7 + (P1 l).2.1 + (P2 l).2.1 + (P3 l).2.1 ≤ 34 := by
          rw [← hk]
          unfold head at hhl
          rw [List.length_append, Frm.sumOf_len] at hhl
          omega
        have e1' : (T1 l).1 = (P1 l).1 := by rw [e1]
        have e2' : (T2 l).1 = (P2 l).1 := by rw [e2]
        have e3' : (T3 l).1 = (P3 l).1 := by rw [e3]
        have e3'' : (T3 l).2.1 = l.drop (7 + (P1 l).2.1 + (P2 l).2.1 + (P3 l).2.1) := by rw [e3]
        rw [e1', e2', e3', e3'', headAt_parts]
        generalize hK : 7 + (P1 l).2.1 + (P2 l).2.1 + (P3 l).2.1 = K at *
        have hiff : l = head (P1 l).1 (P2 l).1 (P3 l).1 ++ l.drop (head (P1 l).1 (P2 l).1 (P3 l).1).length ↔ (l.drop K).take 4 = Frm.sumOf (l.take K) := by
          have hhd : head (P1 l).1 (P2 l).1 (P3 l).1 = l.take K ++ Frm.sumOf (l.take K) := by rw [htake]; rfl
          have hll : (l.take K).length = K := by rw [htake, hk]
          rw [hhd, List.length_append, hll, Frm.sumOf_len]
          have hs := Frm.sumOf_len (l.take K)
          generalize Frm.sumOf (l.take K) = S at hs ⊢
          constructor
          · intro e
            have e2 : l.drop K = S ++ l.drop (K + 4) := by
              have := congrArg (List.drop K) e
              rw [this, List.append_assoc, List.drop_left' hll]
            rw [e2, List.take_left' hs]
          · intro e
            conv => lhs; rw [← List.take_append_drop K l, ← List.take_append_drop 4 (l.drop K), e, List.drop_drop]
            rw [List.append_assoc]
        refine ⟨K, hk34, by rw [List.length_drop, hl], fun hc => ?_, fun hc => ?_, a1, a2, a3⟩
        · rw [if_pos ⟨ht, h1, h2, h3, hiff.2 hc.2.2, hc.1, hc.2.1⟩]
        · rw [if_neg (fun hn => hc ⟨hn.2.2.2.2.2.1, hn.2.2.2.2.2.2, hiff.1 hn.2.2.2.2.1⟩)]
      · exact absurd h1 h4
    · rcases h4 with h4 | h4
      · exact absurd h1 h4
      · exact absurd h2 h4
  · exact absurd e e3

set_option maxRecDepth 100000 in
theorem T1_fits (hl : l.length = 64) : (T1 l).2.1.length ≤ 64 := by
  rcases T1_eq l with ⟨-, e⟩ | ⟨-, e⟩
  · rw [e, List.length_drop]; omega
  · unfold T1 stepN
    split
    · split
      · rw [List.length_drop, List.length_drop]; omega
      · simp
    · rename_i h; exact absurd rfl h

set_option maxRecDepth 100000 in
theorem stepN_fits (s : List UInt8) (e : Int) (hl : s.length ≤ 64) : (stepN s e).2.1.length ≤ 64 := by
  unfold stepN
  split
  · split
    · rw [List.length_drop]; omega
    · simp
  · exact hl

set_option maxRecDepth 100000 in
/-- What the sum says of the bytes behind. -/
theorem check_parts (s : ByteArray) (k : Nat) (hs : s.size = 64) (hk : k ≤ 34) : checkOf (s.extract 0 k) (s.extract k (k + 4)) = 0 ↔ (s.data.toList.drop k).take 4 = Frm.sumOf (s.data.toList.take k) := by
  have hl : s.data.toList.length = 64 := by rw [← Lib.size_eq]; exact hs
  have h4 : (s.extract k (k + 4)).size = 4 := by
    rw [ByteArray.size_extract, hs]; omega
  have h1 : (s.extract 0 k).data.toList = s.data.toList.take k := by rw [Lib.extract_data, List.drop_zero, Nat.sub_zero]
  have h2 : (s.extract k (k + 4)).data.toList = (s.data.toList.drop k).take 4 := by rw [Lib.extract_data, show k + 4 - k = 4 by omega]
  unfold checkOf
  rw [if_pos h4, h1, h2]
  constructor
  · intro e
    by_cases hc : (s.data.toList.drop k).take 4 = fourOf (Crc.sum (s.data.toList.take k)).toNat
    · exact hc
    · rw [if_neg hc] at e; cases e
  · intro e
    rw [if_pos (by exact e)]
end
end Go.Proofs.YtbfjageaheijbaaGreat.Jnl
