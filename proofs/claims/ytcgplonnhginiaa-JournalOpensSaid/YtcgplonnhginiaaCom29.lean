/- The landed journal in memory, and the calls that only look. -/
import Derived.Test.YtcgplonnhginiaaCom26
import Derived.Test.YtcgplonnhginiaaCom19
import Derived.Test.YtcgplonnhginiaaCom25
import Derived.Test.YtcgplonnhginiaaCom28
import Derived.Test.YtcgplonnhginiaaCom6
import Derived.Test.YtcgplonnhginiaaCom22
import Derived.Test.YtcgplonnhginiaaCom20
set_option linter.unusedSimpArgs false
set_option linter.unusedVariables false
namespace Go.Proofs.Ytcgplonnhginiaa
open Go.RowKit Dsk Jnl

def jcells (dv : Value) (q h u : Nat) (tv : Value) (br : Bool) : Array Value := #[dv, .int .i64 (q : Int), .int .i64 (h : Int), .int .i64 (u : Int), tv, .bool br]

/-- A journal of a disk of n sectors, of blocks of F. -/
def JOwn (w : World) (F : Nat → Prop) (dv jv : Value) (n : Nat) (j : J) : Prop :=
  ∃ b tv, jv = .pointer (some ⟨b, 0, none⟩) ∧ Row w b 71 (jcells dv j.seq j.half j.bytes.length tv j.broken) ∧ F b ∧ BytesAt w (fun i => F i ∧ i ≠ b) tv (tailB j.bytes) ∧
    (∀ i, F i → i < w.heap.size) ∧ j.half ≤ 1 ∧ j.bytes.length ≤ 64 * hof n ∧ j.seq < 9223372036854775808

section
variable {w w' : World} {F G : Nat → Prop} {dv jv : Value} {n : Nat} {d : D} {j : J}

set_option maxRecDepth 100000 in
theorem jown_kept (h : JOwn w F dv jv n j) (k : Kept G w w') (hd : ∀ i, F i → ¬ G i) : JOwn w' F dv jv n j := by
  obtain ⟨b, tv, h1, h2, h3, h4, h5, h6⟩ := h
  exact ⟨b, tv, h1, h2.kept k (hd b h3), h3, h4.kept k (fun i hi => hd i hi.1), fun i hi => Nat.lt_of_lt_of_le (h5 i hi) k.size, h6⟩

set_option maxRecDepth 100000 in
theorem jown_lt (h : JOwn w F dv jv n j) : ∀ k, F k → k < w.heap.size := by
  obtain ⟨b, tv, h1, h2, h3, h4, h5, h6⟩ := h
  exact h5

set_option maxRecDepth 100000 in
theorem jown_ptr (h : JOwn w F dv jv n j) : ∃ p, jv = .pointer (some p) := by
  obtain ⟨b, tv, h1, -⟩ := h
  exact ⟨_, h1⟩

set_option maxRecDepth 100000 in
theorem jown_mono (h : JOwn w F dv jv n j) (hG : ∀ i, F i → G i) (hlt : ∀ i, G i → i < w.heap.size) : JOwn w G dv jv n j := by
  obtain ⟨b, tv, h1, h2, h3, h4, h5, h6⟩ := h
  exact ⟨b, tv, h1, h2, hG b h3, h4.mono (fun i hi => ⟨hG i hi.1, hi.2⟩), hlt, h6⟩

set_option maxRecDepth 100000 in
theorem jat_same (h : JAt AtL JOwn w F dv jv n d j) : JAt AtL JOwn w (Grow F w w) dv jv n d j ∧ Kept F w w := by
  obtain ⟨F1, F2, h1, h2, h3, h4, h5⟩ := h
  exact ⟨⟨F1, F2, h1, h2, h3, fun k hk => Or.inl (h4 k hk), fun k hk => Or.inl (h5 k hk)⟩, Kept.refl _ _⟩

set_option maxRecDepth 100000 in
theorem jnl_seq (h : JAt AtL JOwn w F dv jv n d j) : Calls Try.prog 19 #[jv] w fun e w' => e = .returned (.int .i64 (j.seq : Int)) ∧ JAt AtL JOwn w' (Grow F w w') dv jv n d j ∧ Kept F w w' := by
  have fin := Lib.hid (jat_same h)
  obtain ⟨F1, F2, h1, ⟨b, tv, rfl, h2, -⟩, -⟩ := h
  have c1 : w.cell? ⟨b, 1, none⟩ = some (.int .i64 (j.seq : Int)) := h2.at 1
  clear h1 h2
  go_enter Try.func19, Try.ntmps19
  go_wp2_with fail
  go_ret
  exact ⟨rfl, fin.out⟩

set_option maxRecDepth 100000 in
theorem jnl_used (h : JAt AtL JOwn w F dv jv n d j) : Calls Try.prog 20 #[jv] w fun e w' => e = .returned (.int .i64 (j.bytes.length : Int)) ∧ JAt AtL JOwn w' (Grow F w w') dv jv n d j ∧ Kept F w w' := by
  have fin := Lib.hid (jat_same h)
  obtain ⟨F1, F2, h1, ⟨b, tv, rfl, h2, -⟩, -⟩ := h
  have c1 : w.cell? ⟨b, 3, none⟩ = some (.int .i64 (j.bytes.length : Int)) := h2.at 3
  clear h1 h2
  go_enter Try.func20, Try.ntmps20
  go_wp2_with fail
  go_ret
  exact ⟨rfl, fin.out⟩

set_option maxRecDepth 100000 in
theorem jnl_broken (h : JAt AtL JOwn w F dv jv n d j) : Calls Try.prog 15 #[jv] w fun e w' => e = .returned (.bool j.broken) ∧ JAt AtL JOwn w' (Grow F w w') dv jv n d j ∧ Kept F w w' := by
  have fin := Lib.hid (jat_same h)
  obtain ⟨F1, F2, h1, ⟨b, tv, rfl, h2, -⟩, -⟩ := h
  have c1 : w.cell? ⟨b, 5, none⟩ = some (.bool j.broken) := h2.at 5
  clear h1 h2
  generalize j.broken = B at *
  cases B
  all_goals
    go_enter Try.func15, Try.ntmps15
    go_wp2_with fail
    go_ret
    exact ⟨rfl, fin.out⟩

set_option maxRecDepth 100000 in
theorem half_sectors_any (h : AtL w F dv d) (hn : d.S.length = n) : Calls Try.prog 57 #[dv] w fun e w' => e = .returned (.int .i64 (hof n : Int)) ∧ w = w' := by
  have HL := Lib.hid (len_same h hn)
  have hq : ((n : Int) - 2).tdiv 2 = (hof n : Int) := by
    by_cases h2 : 2 ≤ n
    · rw [Int.tdiv_eq_ediv_of_nonneg (by omega)]
      unfold hof; omega
    · have : n = 1 := by
        obtain ⟨⟨b, bm, sv, N, M, pv, rfl, h0⟩, -⟩ := h
        have := h0.pos
        omega
      subst this
      rfl
  have hm' : (n : Int) ≤ 1000000 := by
    obtain ⟨⟨b, bm, sv, N, M, pv, rfl, h0⟩, -⟩ := h
    have := h0.few
    omega
  have hh : (hof n : Int) ≤ 1000000 := by unfold hof; omega
  clear h hn
  go_enter Try.func57, Try.ntmps57
  go_wp2_with (go_at_call 47; with_reducible refine HL.out.mono ?_; rintro e w' ⟨rfl, rfl⟩)
  go_ret
  exact ⟨rfl, rfl⟩

set_option maxRecDepth 100000 in
theorem half_bytes_any (h : AtL w F dv d) (hn : d.S.length = n) : Calls Try.prog 39 #[dv] w fun e w' => e = .returned (.int .i64 ((64 * hof n : Nat) : Int)) ∧ w = w' := by
  have HL := Lib.hid (half_sectors_any h hn)
  have hh : (hof n : Int) ≤ 1000000 := by
    obtain ⟨⟨b, bm, sv, N, M, pv, rfl, h0⟩, -⟩ := h
    have := h0.few
    unfold hof; omega
  have hq : (hof n : Int) * 64 = ((64 * hof n : Nat) : Int) := by push_cast; omega
  clear h hn
  go_enter Try.func39, Try.ntmps39
  go_wp2_with (go_at_call 57; with_reducible refine HL.out.mono ?_; rintro e w' ⟨rfl, rfl⟩)
  go_ret
  exact ⟨rfl, rfl⟩

set_option maxRecDepth 100000 in
theorem jnl_room (h : JAt AtL JOwn w F dv jv n d j) (hn : d.S.length = n) : Calls Try.prog 21 #[jv] w fun e w' => e = .returned (.int .i64 ((64 * hof n : Nat) - (j.bytes.length : Int))) ∧ JAt AtL JOwn w' (Grow F w w') dv jv n d j ∧ Kept F w w' := by
  have fin : Hid (∀ w', Below w.heap.size w w' → JAt AtL JOwn w' (Grow F w w') dv jv n d j ∧ Kept F w w') := Lib.hid (fun w' hb => by
    obtain ⟨F1, F2, h1, h2, h3, h4, h5⟩ := h
    exact ⟨⟨F1, F2, atl_below h1 hb, jown_kept h2 (Kept.ofBelow hb (fun _ => False)) (fun _ _ h => h), h3, fun k hk => Or.inl (h4 k hk), fun k hk => Or.inl (h5 k hk)⟩, Kept.ofBelow hb _⟩)
  obtain ⟨F1, F2, h1, ⟨b, tv, rfl, h2, -, -, -, -, hfit, -⟩, -⟩ := h
  have HB := Lib.hid (fun (w' : World) (hb : Below w.heap.size w w') => half_bytes_any (atl_below h1 hb) hn)
  have HC : Hid (∀ w', Below w.heap.size w w' → w'.cell? ⟨b, 0, none⟩ = some dv ∧ w'.cell? ⟨b, 3, none⟩ = some (.int .i64 (j.bytes.length : Int))) := Lib.hid (fun w' hb => ⟨(h2.below hb h2.inHeap).at 0, (h2.below hb h2.inHeap).at 3⟩)
  have hV : ((64 * hof n : Nat) : Int) ≤ 64000000 := by
    obtain ⟨⟨b, bm, sv, N, M, pv, rfl, h0⟩, -⟩ := h1
    have := h0.few
    unfold hof; omega
  have hU : (j.bytes.length : Int) ≤ ((64 * hof n : Nat) : Int) := by omega
  have hU0 : (0 : Int) ≤ (j.bytes.length : Int) := by omega
  clear h1 h2 hfit hn
  generalize ((64 * hof n : Nat) : Int) = V at *
  generalize (j.bytes.length : Int) = u at *
  have hsub : IntKind.i64.wrap (V - u) = V - u := IntWalk.i64_in _ ⟨by omega, by omega⟩
  go_enter Try.func21, Try.ntmps21
  go_wp2_with fail
  refine wp_region_held_drew (S := (Below w.heap.size w)) (by kernel_rfl) (Below.drew (Below.refl _ _)) (fun hHeld => ?_)
  refine wpAnyH_take (i := 0) (v := ?_) rfl (by kernel_rfl) (by kernel_rfl) (by kernel_rfl) (fun _ _ _ h => h) (Or.inl ⟨by rfl, (by intro w hSw; go_simp; try with_reducible rfl)⟩) (by assumption) ?_
  simp only [Act.put, List.getElem_toArray, List.getElem_cons_zero, List.getElem_cons_succ, List.setIfInBounds_toArray, List.set_cons_zero, List.set_cons_succ]
  refine wpAnyH_take (i := 1) (v := ?_) rfl (by kernel_rfl) (by kernel_rfl) (by kernel_rfl) (fun _ _ _ h => h) (Or.inl ⟨by rfl, (by intro w hSw; go_simp; try with_reducible rfl)⟩) (by assumption) ?_
  simp only [Act.put, List.getElem_toArray, List.getElem_cons_zero, List.getElem_cons_succ, List.setIfInBounds_toArray, List.set_cons_zero, List.set_cons_succ]
  refine wpAnyH_take (i := 2) (v := ?_) rfl (by kernel_rfl) (by kernel_rfl) (by kernel_rfl) (fun _ _ _ h => h) (Or.inl ⟨by rfl, (by intro w hSw; go_simp; try with_reducible rfl)⟩) (by assumption) ?_
  simp only [Act.put, List.getElem_toArray, List.getElem_cons_zero, List.getElem_cons_succ, List.setIfInBounds_toArray, List.set_cons_zero, List.set_cons_succ]
  refine wpAnyH_take (i := 3) (v := ?_) rfl (by kernel_rfl) (by kernel_rfl) (by kernel_rfl) (fun _ _ _ h => h) (Or.inl ⟨by rfl, (by intro w hSw; have c0 := (HC.out w hSw).1; go_simp; try with_reducible rfl)⟩) (by assumption) ?_
  simp only [Act.put, List.getElem_toArray, List.getElem_cons_zero, List.getElem_cons_succ, List.setIfInBounds_toArray, List.set_cons_zero, List.set_cons_succ]
  refine wpAnyH_take (i := 5) (v := ?_) rfl (by kernel_rfl) (by kernel_rfl) (by kernel_rfl) (fun _ _ _ h => h) (Or.inl ⟨by rfl, (by intro w hSw; go_simp; try with_reducible rfl)⟩) (by assumption) ?_
  simp only [Act.put, List.getElem_toArray, List.getElem_cons_zero, List.getElem_cons_succ, List.setIfInBounds_toArray, List.set_cons_zero, List.set_cons_succ]
  refine wpAnyH_take (i := 6) (v := ?_) rfl (by kernel_rfl) (by kernel_rfl) (by kernel_rfl) (fun _ _ _ h => h) (Or.inl ⟨by rfl, (by intro w hSw; go_simp; try with_reducible rfl)⟩) (by assumption) ?_
  simp only [Act.put, List.getElem_toArray, List.getElem_cons_zero, List.getElem_cons_succ, List.setIfInBounds_toArray, List.set_cons_zero, List.set_cons_succ]
  refine wpAnyH_take (i := 7) (v := ?_) rfl (by kernel_rfl) (by kernel_rfl) (by kernel_rfl) (fun _ _ _ h => h) (Or.inl ⟨by rfl, (by intro w hSw; go_simp; try with_reducible rfl)⟩) (by assumption) ?_
  simp only [Act.put, List.getElem_toArray, List.getElem_cons_zero, List.getElem_cons_succ, List.setIfInBounds_toArray, List.set_cons_zero, List.set_cons_succ]
  refine wpAnyH_take (i := 8) (v := ?_) rfl (by kernel_rfl) (by kernel_rfl) (by kernel_rfl) (fun _ _ _ h => h) (Or.inl ⟨by rfl, (by intro w hSw; go_simp; try with_reducible rfl)⟩) (by assumption) ?_
  simp only [Act.put, List.getElem_toArray, List.getElem_cons_zero, List.getElem_cons_succ, List.setIfInBounds_toArray, List.set_cons_zero, List.set_cons_succ]
  refine wpAnyH_take (i := 9) (v := ?_) rfl (by kernel_rfl) (by kernel_rfl) (by kernel_rfl) (fun _ _ _ h => h) (Or.inl ⟨by rfl, (by intro w hSw; have c3 := (HC.out w hSw).2; go_simp; try with_reducible rfl)⟩) (by assumption) ?_
  simp only [Act.put, List.getElem_toArray, List.getElem_cons_zero, List.getElem_cons_succ, List.setIfInBounds_toArray, List.set_cons_zero, List.set_cons_succ]
  refine wpAnyH_ready (rs := [4]) (by kernel_rfl) (by simp) ?_
  refine AllReadyH.cons rfl (fun K hK => ?_) AllReadyH.nil
  go_simp
  go_at_call 39
  refine (HB.out _ hHeld).mono ?_
  rintro e w1 ⟨rfl, rfl⟩
  refine hK.out _ _ hHeld (fun hHeld => ?_)
  clear hK K
  refine wpAnyH_take (i := 10) (v := ?_) rfl (by kernel_rfl) (by kernel_rfl) (by kernel_rfl) (fun _ _ _ h => h) (Or.inl ⟨by rfl, (by intro w hSw; go_simp; try with_reducible rfl)⟩) (by assumption) ?_
  simp only [Act.put, List.getElem_toArray, List.getElem_cons_zero, List.getElem_cons_succ, List.setIfInBounds_toArray, List.set_cons_zero, List.set_cons_succ]
  refine wpAnyH_take (i := 11) (v := ?_) rfl (by kernel_rfl) (by kernel_rfl) (by kernel_rfl) (fun _ _ _ h => h) (Or.inl ⟨by rfl, (by intro w hSw; go_simp; try with_reducible rfl)⟩) (by assumption) ?_
  simp only [Act.put, List.getElem_toArray, List.getElem_cons_zero, List.getElem_cons_succ, List.setIfInBounds_toArray, List.set_cons_zero, List.set_cons_succ]
  refine wpAnyH_done (by kernel_rfl) ?_ _
  have Hh := Lib.hid hHeld
  clear hHeld
  go_wp2_with fail
  go_ret
  exact ⟨rfl, fin.out _ Hh.out⟩

set_option maxRecDepth 100000 in
theorem none_seq (w : World) : Calls Try.prog 19 #[.pointer none] w fun e w' => e = .returned (.int .i64 0) ∧ Below w.heap.size w w' := by
  go_enter Try.func19, Try.ntmps19
  go_wp2_with fail
  go_ret
  exact ⟨rfl, Below.refl _ _⟩

set_option maxRecDepth 100000 in
theorem none_used (w : World) : Calls Try.prog 20 #[.pointer none] w fun e w' => e = .returned (.int .i64 0) ∧ Below w.heap.size w w' := by
  go_enter Try.func20, Try.ntmps20
  go_wp2_with fail
  go_ret
  exact ⟨rfl, Below.refl _ _⟩

set_option maxRecDepth 100000 in
theorem none_room (w : World) : Calls Try.prog 21 #[.pointer none] w fun e w' => e = .returned (.int .i64 0) ∧ Below w.heap.size w w' := by
  go_enter Try.func21, Try.ntmps21
  go_wp2_with fail
  go_ret
  exact ⟨rfl, Below.refl _ _⟩

set_option maxRecDepth 100000 in
theorem none_broken (w : World) : Calls Try.prog 15 #[.pointer none] w fun e w' => e = .returned (.bool true) ∧ Below w.heap.size w w' := by
  go_enter Try.func15, Try.ntmps15
  go_wp2_with fail
  go_ret
  exact ⟨rfl, Below.refl _ _⟩

def readyE (j : J) : Int := if j.broken = true then 16 else if j.seq = 9223372036854775807 then 15 else 0

set_option maxRecDepth 100000 in
theorem ready_none (w : World) : Calls Try.prog 34 #[.pointer none] w fun e w' => e = .returned (.int .i64 1) ∧ w = w' := by
  go_enter Try.func34, Try.ntmps34
  go_wp2_with fail
  go_ret
  exact ⟨rfl, rfl⟩

set_option maxRecDepth 100000 in
theorem ready_any {b : Nat} {tv : Value} (h : Row w b 71 (jcells dv j.seq j.half j.bytes.length tv j.broken)) : Calls Try.prog 34 #[.pointer (some ⟨b, 0, none⟩)] w fun e w' => e = .returned (.int .i64 (readyE j)) ∧ w = w' := by
  have c1 : w.cell? ⟨b, 1, none⟩ = some (.int .i64 (j.seq : Int)) := h.at 1
  have c5 : w.cell? ⟨b, 5, none⟩ = some (.bool j.broken) := h.at 5
  clear h
  unfold readyE
  by_cases hb : j.broken = true
  · rw [if_pos hb]
    rw [hb] at c5
    clear hb
    go_enter Try.func34, Try.ntmps34
    go_wp2_with fail
    go_ret
    exact ⟨rfl, rfl⟩
  · rw [if_neg hb]
    have hb' : j.broken = false := by simpa using hb
    rw [hb'] at c5
    clear hb hb'
    by_cases hs : j.seq = 9223372036854775807
    · rw [if_pos hs]
      rw [hs] at c1
      clear hs
      go_enter Try.func34, Try.ntmps34
      go_wp2_with fail
      go_ret
      exact ⟨rfl, rfl⟩
    · rw [if_neg hs]
      have hb : ((j.seq : Int) == 9223372036854775807) = false := beq_eq_false_iff_ne.2 (by omega)
      clear hs
      go_enter Try.func34, Try.ntmps34
      go_wp2_with fail
      go_ret
      exact ⟨rfl, rfl⟩
end
end Go.Proofs.Ytcgplonnhginiaa
/- The landed journal: records are kept. -/
set_option linter.unusedSimpArgs false
set_option linter.unusedVariables false
namespace Go.Proofs.Ytcgplonnhginiaa
open Go.RowKit Dsk Jnl

set_option maxRecDepth 100000 in
theorem jat_below {w w' : World} {F : Nat → Prop} {dv jv : Value} {n : Nat} {d : D} {j : J} (h : JAt AtL JOwn w F dv jv n d j) (hb : Below w.heap.size w w') : JAt AtL JOwn w' (Grow F w w') dv jv n d j ∧ Kept F w w' := by
  obtain ⟨F1, F2, h1, h2, h3, h4, h5⟩ := h
  exact ⟨⟨F1, F2, atl_below h1 hb, jown_kept h2 (Kept.ofBelow hb (fun _ => False)) (fun _ _ h => h), h3, fun k hk => Or.inl (h4 k hk), fun k hk => Or.inl (h5 k hk)⟩, Kept.ofBelow hb _⟩

set_option maxRecDepth 100000 in
/-- What a journal and its disk are behind a call that wrote. -/
theorem keep_end {w wa wb wc wf : World} {F F1 F2 Ft : Nat → Prop} {dv tv : Value} {n b : Nat} {d' : D} {j : J} (h1 : ∀ i, F1 i → i < w.heap.size) (h2 : ∀ i, F2 i → i < w.heap.size) (hb : F2 b) (h3 : ∀ k, F1 k → ¬ F2 k) (h4 : ∀ k, F1 k → F k) (h5 : ∀ k, F2 k → F k)
    (ka : Below w.heap.size w wa) (kb : Doing AtL wa F1 dv d' wb) (kc : Below wb.heap.size wb wc) (kf : Kept (fun i => i = b) wc wf)
    (hr : Row wf b 71 (jcells dv j.seq j.half j.bytes.length tv j.broken)) (ht : BytesAt wf Ft tv (tailB j.bytes)) (hFt : ∀ i, Ft i → (F2 i ∧ i ≠ b) ∨ (wb.heap.size ≤ i ∧ i < wc.heap.size)) (hh : j.half ≤ 1) (hfit : j.bytes.length ≤ 64 * hof n) (hq : j.seq < 9223372036854775808) :
    JAt AtL JOwn wf (Grow F w wf) dv (.pointer (some ⟨b, 0, none⟩)) n d' j ∧ Kept F w wf := by
  have za := ka.size
  have zb := kb.2.size
  have zc := kc.size
  have zf := kf.size
  have hbw := h2 b hb
  refine ⟨⟨Grow F1 wa wb, fun i => F2 i ∨ (wb.heap.size ≤ i ∧ i < wc.heap.size), atl_kept (atl_below kb.1 kc) kf (fun i hi e => ?_), ⟨b, tv, rfl, hr, Or.inl hb, ht.mono (fun i hi => ?_), fun i hi => ?_, hh, hfit, hq⟩, fun i hi hi2 => ?_, fun i hi => ?_, fun i hi => ?_⟩, ?_⟩
  · subst e
    rcases hi with hi | hi
    · exact h3 _ hi hb
    · omega
  · rcases hFt i hi with hi | hi
    · exact ⟨Or.inl hi.1, hi.2⟩
    · exact ⟨Or.inr hi, by omega⟩
  · rcases hi with hi | hi
    · have := h2 i hi; omega
    · omega
  · rcases hi with hi | hi
    · rcases hi2 with hi2 | hi2
      · exact h3 i hi hi2
      · have := h1 i hi; omega
    · rcases hi2 with hi2 | hi2
      · have := h2 i hi2; omega
      · omega
  · rcases hi with hi | hi
    · exact Or.inl (h4 i hi)
    · exact Or.inr (by omega)
  · rcases hi with hi | hi
    · exact Or.inl (h5 i hi)
    · exact Or.inr (by omega)
  · exact (((Kept.ofBelow ka F).trans (kb.2.mono h4) (fun _ _ h => h)).trans (Kept.ofBelow kc (fun _ => False)) (fun _ _ h => h.elim)).trans kf (fun i _ e => by subst e; exact h5 _ hb)

set_option maxRecDepth 100000 in
theorem tail_join {pre new : List UInt8} : tailB pre ++ new = (pre ++ new).drop (64 * (pre.length / 64)) := by
  unfold tailB
  rw [List.drop_append_of_le_length (by omega)]

set_option maxRecDepth 100000 in
theorem tail_pre (l : List UInt8) : tailB (l.drop (64 * (0 / 64))) = tailB l := by simp

set_option maxRecDepth 100000 in
/-- What is kept, of a tail that begins with a sector: the last sector's bytes. -/
theorem tail_tail (all : List UInt8) (i : Nat) (hi : 64 * i ≤ all.length) : tailB (all.drop (64 * i)) = tailB all := by
  unfold tailB
  rw [List.length_drop, List.drop_drop]
  congr 1
  omega

set_option maxRecDepth 100000 in
/-- A tail's slice, cut to its own length. -/
theorem tail_cut {w : World} {F : Nat → Prop} {v : Value} {l : List UInt8} (h : BytesAt w F v l) : (v = .slice none 0 0 ∧ l = []) ∨ ∃ g o c, v = .slice (some ⟨g, o, none⟩) l.length c ∧ l.length ≤ c ∧ g < w.heap.size ∧ ∀ w', Below w.heap.size w w' → Cells w' (fun i => i = g) (.slice (some ⟨g, o, none⟩) l.length l.length) (Lib.byteCells l) := by
  rcases h with h | ⟨g, o, c, rfl, hc, hF, hg, hat⟩
  · exact Or.inl h
  · refine Or.inr ⟨g, o, c, rfl, hc, hg, fun w' hb => ⟨some ⟨g, o, none⟩, l.length, by rw [bcells_len], by rw [bcells_len]; exact Nat.le_refl _, fun _ => ⟨g, o, rfl, rfl, Nat.lt_of_lt_of_le hg hb.size, fun i u hu => (hb.cell (p := ⟨g, o + i, none⟩) hg).trans (hat i u hu)⟩⟩⟩
end Go.Proofs.Ytcgplonnhginiaa
/- A sector's head, as it is read from its front: three numbers, and the sum behind them. No program is spoken of. -/
namespace Go.Proofs.Ytcgplonnhginiaa.Jnl
open Go.Proofs.Ytcgplonnhginiaa

section
variable (l : List UInt8)

def P1 : Nat × Nat × Int := Leb.first (l.drop 7)
def P2 : Nat × Nat × Int := Leb.first (l.drop (7 + (P1 l).2.1))
def P3 : Nat × Nat × Int := Leb.first (l.drop (7 + (P1 l).2.1 + (P2 l).2.1))

set_option maxRecDepth 100000 in
theorem headAt_parts (h : Nat) : headAt h l = if l.take 7 = tag ∧ (P1 l).2.2 = 0 ∧ (P2 l).2.2 = 0 ∧ (P3 l).2.2 = 0 ∧ l = head (P1 l).1 (P2 l).1 (P3 l).1 ++ l.drop (head (P1 l).1 (P2 l).1 (P3 l).1).length ∧ (P2 l).1 ≤ 1 ∧ (P3 l).1 ≤ 64 * h then some ((P1 l).1, (P2 l).1, (P3 l).1) else none := rfl

/-- The reader's three steps. -/
def T1 : Nat × List UInt8 × Int := stepN (l.drop 7) 0
def T2 : Nat × List UInt8 × Int := stepN (T1 l).2.1 (T1 l).2.2
def T3 : Nat × List UInt8 × Int := stepN (T2 l).2.1 (T2 l).2.2

set_option maxRecDepth 100000 in
theorem stepN_ok {s : List UInt8} (h : (Leb.first s).2.2 = 0) : stepN s 0 = ((Leb.first s).1, s.drop (Leb.first s).2.1, 0) := by simp [stepN, h]
set_option maxRecDepth 100000 in
theorem stepN_bad {s : List UInt8} (h : (Leb.first s).2.2 ≠ 0) : stepN s 0 = (0, [], (Leb.first s).2.2) := by simp [stepN, h]
set_option maxRecDepth 100000 in
theorem stepN_err {s : List UInt8} {e : Int} (h : e ≠ 0) : stepN s e = (0, s, e) := by simp [stepN, h]

set_option maxRecDepth 100000 in
theorem T1_eq : ((P1 l).2.2 = 0 ∧ T1 l = ((P1 l).1, l.drop (7 + (P1 l).2.1), 0)) ∨ ((P1 l).2.2 ≠ 0 ∧ (T1 l).2.2 ≠ 0) := by
  by_cases h : (Leb.first (l.drop 7)).2.2 = 0
  · left
    refine ⟨h, ?_⟩
    unfold T1
    rw [stepN_ok h, List.drop_drop]
    rfl
  · right
    refine ⟨h, ?_⟩
    unfold T1
    rw [stepN_bad h]
    exact h

set_option maxRecDepth 100000 in
theorem T2_eq : ((P1 l).2.2 = 0 ∧ (P2 l).2.2 = 0 ∧ T2 l = ((P2 l).1, l.drop (7 + (P1 l).2.1 + (P2 l).2.1), 0)) ∨ (((P1 l).2.2 ≠ 0 ∨ (P2 l).2.2 ≠ 0) ∧ (T2 l).2.2 ≠ 0) := by
  rcases T1_eq l with ⟨h1, e1⟩ | ⟨h1, e1⟩
  · by_cases h : (P2 l).2.2 = 0
    · left
      refine ⟨h1, h, ?_⟩
      unfold T2
      rw [e1]
      show stepN (l.drop (7 + (P1 l).2.1)) 0 = _
      rw [stepN_ok h, List.drop_drop]
      rfl
    · right
      refine ⟨Or.inr h, ?_⟩
      unfold T2
      rw [e1]
      show (stepN (l.drop (7 + (P1 l).2.1)) 0).2.2 ≠ 0
      rw [stepN_bad h]
      exact h
  · right
    refine ⟨Or.inl h1, ?_⟩
    unfold T2
    rw [stepN_err e1]
    exact e1

set_option maxRecDepth 100000 in
theorem T3_eq : ((P1 l).2.2 = 0 ∧ (P2 l).2.2 = 0 ∧ (P3 l).2.2 = 0 ∧ T3 l = ((P3 l).1, l.drop (7 + (P1 l).2.1 + (P2 l).2.1 + (P3 l).2.1), 0)) ∨ (((P1 l).2.2 ≠ 0 ∨ (P2 l).2.2 ≠ 0 ∨ (P3 l).2.2 ≠ 0) ∧ (T3 l).2.2 ≠ 0) := by
  rcases T2_eq l with ⟨h1, h2, e1⟩ | ⟨h1, e1⟩
  · by_cases h : (P3 l).2.2 = 0
    · left
      refine ⟨h1, h2, h, ?_⟩
      unfold T3
      rw [e1]
      show stepN (l.drop (7 + (P1 l).2.1 + (P2 l).2.1)) 0 = _
      rw [stepN_ok h, List.drop_drop]
      rfl
    · right
      refine ⟨Or.inr (Or.inr h), ?_⟩
      unfold T3
      rw [e1]
      show (stepN (l.drop (7 + (P1 l).2.1 + (P2 l).2.1)) 0).2.2 ≠ 0
      rw [stepN_bad h]
      exact h
  · right
    refine ⟨?_, ?_⟩
    · rcases h1 with h1 | h1
      · exact Or.inl h1
      · exact Or.inr (Or.inl h1)
    · unfold T3
      rw [stepN_err e1]
      exact e1

set_option maxRecDepth 100000 in
/-- An error on the way: no head. -/
theorem headAt_bad (h : Nat) (e : (T3 l).2.2 ≠ 0) : headAt h l = none := by
  rw [headAt_parts]
  rcases T3_eq l with ⟨h1, h2, h3, e3⟩ | ⟨h1, -⟩
  · rw [e3] at e; exact absurd rfl e
  · rw [if_neg (fun hc => by
      rcases h1 with h1 | h1 | h1
      · exact h1 hc.2.1
      · exact h1 hc.2.2.1
      · exact h1 hc.2.2.2.1)]

set_option maxRecDepth 100000 in
theorem headAt_untagged (h : Nat) (e : l.take 7 ≠ tag) : headAt h l = none := by
  rw [headAt_parts, if_neg (fun hc => e hc.1)]

set_option maxRecDepth 100000 in
/-- All is read: the numbers, and where the sum begins. -/
theorem headAt_read (h : Nat) (hl : l.length = 64) (ht : l.take 7 = tag) (e : (T3 l).2.2 = 0) :
    ∃ k, k ≤ 34 ∧ (T3 l).2.1.length = 64 - k ∧
      ((T2 l).1 ≤ 1 ∧ (T3 l).1 ≤ 64 * h ∧ (l.drop k).take 4 = Frm.sumOf (l.take k) → headAt h l = some ((T1 l).1, (T2 l).1, (T3 l).1)) ∧
      (¬ ((T2 l).1 ≤ 1 ∧ (T3 l).1 ≤ 64 * h ∧ (l.drop k).take 4 = Frm.sumOf (l.take k)) → headAt h l = none) ∧
      (T1 l).1 < 9223372036854775808 ∧ (T2 l).1 < 9223372036854775808 ∧ (T3 l).1 < 9223372036854775808 := by
  rcases T3_eq l with ⟨h1, h2, h3, e3⟩ | ⟨-, e3⟩
  · rcases T2_eq l with ⟨-, -, e2⟩ | ⟨h4, -⟩
    · rcases T1_eq l with ⟨-, e1⟩ | ⟨h4, -⟩
      · obtain ⟨a1, b1, c1⟩ := Leb.first_only (l.drop 7) (P1 l).1 (P1 l).2.1 (by rw [← h1]; rfl)
        obtain ⟨a2, b2, c2⟩ := Leb.first_only (l.drop (7 + (P1 l).2.1)) (P2 l).1 (P2 l).2.1 (by rw [← h2]; rfl)
        obtain ⟨a3, b3, c3⟩ := Leb.first_only (l.drop (7 + (P1 l).2.1 + (P2 l).2.1)) (P3 l).1 (P3 l).2.1 (by rw [← h3]; rfl)
        have d1 := Leb.enc_len (P1 l).1
        have hhl := head_len (P1 l).1 (P2 l).1 (P3 l).1
        have htake : l.take (7 + (P1 l).2.1 + (P2 l).2.1 + (P3 l).2.1) = headOf (P1 l).1 (P2 l).1 (P3 l).1 := by
          rw [List.take_add, c3, List.take_add, c2, List.take_add, c1, ht]
          rfl
        have hk : (headOf (P1 l).1 (P2 l).1 (P3 l).1).length = 7 + (P1 l).2.1 + (P2 l).2.1 + (P3 l).2.1 := by
          unfold headOf
          simp only [List.length_append]
          rw [b1, b2, b3]
          rfl
        have hk34 : 7 + (P1 l).2.1 + (P2 l).2.1 + (P3 l).2.1 ≤ 34 := by
          rw [← hk]
          unfold head at hhl
          rw [List.length_append, Frm.sumOf_len] at hhl
          omega
        have e1' : (T1 l).1 = (P1 l).1 := by rw [e1]
        have e2' : (T2 l).1 = (P2 l).1 := by rw [e2]
        have e3' : (T3 l).1 = (P3 l).1 := by rw [e3]
        have e3'' : (T3 l).2.1 = l.drop (7 + (P1 l).2.1 + (P2 l).2.1 + (P3 l).2.1) := by rw [e3]
        rw [e1', e2', e3', e3'', headAt_parts]
        generalize hK : 7 + (P1 l).2.1 + (P2 l).2.1 + (P3 l).2.1 = K at *
        have hiff : l = head (P1 l).1 (P2 l).1 (P3 l).1 ++ l.drop (head (P1 l).1 (P2 l).1 (P3 l).1).length ↔ (l.drop K).take 4 = Frm.sumOf (l.take K) := by
          have hhd : head (P1 l).1 (P2 l).1 (P3 l).1 = l.take K ++ Frm.sumOf (l.take K) := by rw [htake]; rfl
          have hll : (l.take K).length = K := by rw [htake, hk]
          rw [hhd, List.length_append, hll, Frm.sumOf_len]
          have hs := Frm.sumOf_len (l.take K)
          generalize Frm.sumOf (l.take K) = S at hs ⊢
          constructor
          · intro e
            have e2 : l.drop K = S ++ l.drop (K + 4) := by
              have := congrArg (List.drop K) e
              rw [this, List.append_assoc, List.drop_left' hll]
            rw [e2, List.take_left' hs]
          · intro e
            conv => lhs; rw [← List.take_append_drop K l, ← List.take_append_drop 4 (l.drop K), e, List.drop_drop]
            rw [List.append_assoc]
        refine ⟨K, hk34, by rw [List.length_drop, hl], fun hc => ?_, fun hc => ?_, a1, a2, a3⟩
        · rw [if_pos ⟨ht, h1, h2, h3, hiff.2 hc.2.2, hc.1, hc.2.1⟩]
        · rw [if_neg (fun hn => hc ⟨hn.2.2.2.2.2.1, hn.2.2.2.2.2.2, hiff.1 hn.2.2.2.2.1⟩)]
      · exact absurd h1 h4
    · rcases h4 with h4 | h4
      · exact absurd h1 h4
      · exact absurd h2 h4
  · exact absurd e e3

set_option maxRecDepth 100000 in
theorem T1_fits (hl : l.length = 64) : (T1 l).2.1.length ≤ 64 := by
  rcases T1_eq l with ⟨-, e⟩ | ⟨-, e⟩
  · rw [e, List.length_drop]; omega
  · unfold T1 stepN
    split
    · split
      · rw [List.length_drop, List.length_drop]; omega
      · simp
    · rename_i h; exact absurd rfl h

set_option maxRecDepth 100000 in
theorem stepN_fits (s : List UInt8) (e : Int) (hl : s.length ≤ 64) : (stepN s e).2.1.length ≤ 64 := by
  unfold stepN
  split
  · split
    · rw [List.length_drop]; omega
    · simp
  · exact hl

set_option maxRecDepth 100000 in
/-- What the sum says of the bytes behind. -/
theorem check_parts (s : ByteArray) (k : Nat) (hs : s.size = 64) (hk : k ≤ 34) : checkOf (s.extract 0 k) (s.extract k (k + 4)) = 0 ↔ (s.data.toList.drop k).take 4 = Frm.sumOf (s.data.toList.take k) := by
  have hl : s.data.toList.length = 64 := by rw [← Lib.size_eq]; exact hs
  have h4 : (s.extract k (k + 4)).size = 4 := by
    rw [ByteArray.size_extract, hs]; omega
  have h1 : (s.extract 0 k).data.toList = s.data.toList.take k := by rw [Lib.extract_data, List.drop_zero, Nat.sub_zero]
  have h2 : (s.extract k (k + 4)).data.toList = (s.data.toList.drop k).take 4 := by rw [Lib.extract_data, show k + 4 - k = 4 by omega]
  unfold checkOf
  rw [if_pos h4, h1, h2]
  constructor
  · intro e
    by_cases hc : (s.data.toList.drop k).take 4 = fourOf (Crc.sum (s.data.toList.take k)).toNat
    · exact hc
    · rw [if_neg hc] at e; cases e
  · intro e
    rw [if_pos (by exact e)]
end
end Go.Proofs.Ytcgplonnhginiaa.Jnl
