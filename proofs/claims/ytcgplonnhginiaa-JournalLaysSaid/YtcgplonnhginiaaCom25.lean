/- The landed journal: a head's text, and a head that is set. -/
import Derived.Test.YtcgplonnhginiaaCom19
import Derived.Test.YtcgplonnhginiaaCom24
import Derived.Test.YtcgplonnhginiaaCom13
set_option linter.unusedSimpArgs false
set_option linter.unusedVariables false
namespace Go.Proofs.Ytcgplonnhginiaa
open Go.RowKit Dsk Jnl

set_option maxRecDepth 100000 in
/-- Three numbers, laid by leb. -/
theorem lay_three (q h u : Nat) (hq : q < 9223372036854775808) (hh : h < 9223372036854775808) (hu : u < 9223372036854775808) (w : World) :
    Calls Try.prog 59 #[.slice (some ⟨w.heap.size, 0, none⟩) 3 3] (w.alloc (.cells #[.int .i64 (q : Int), .string ⟨#[]⟩, .bool false, .int .i64 (h : Int), .string ⟨#[]⟩, .bool false, .int .i64 (u : Int), .string ⟨#[]⟩, .bool false] 96)) fun e w' =>
      e = .returned (.tuple #[.string (mk (Leb.enc q ++ Leb.enc h ++ Leb.enc u)), .int .i64 0]) ∧ Below w.heap.size w w' := by
  have hr := Row.made w 96 #[.int .i64 (q : Int), .string ⟨#[]⟩, .bool false, .int .i64 (h : Int), .string ⟨#[]⟩, .bool false, .int .i64 (u : Int), .string ⟨#[]⟩, .bool false]
  have hf : FieldsAt (w.alloc (.cells #[.int .i64 (q : Int), .string ⟨#[]⟩, .bool false, .int .i64 (h : Int), .string ⟨#[]⟩, .bool false, .int .i64 (u : Int), .string ⟨#[]⟩, .bool false] 96)) w.heap.size 0 [⟨q, ⟨#[]⟩, false⟩, ⟨h, ⟨#[]⟩, false⟩, ⟨u, ⟨#[]⟩, false⟩] := by
    intro i f hf
    rw [hr.at, hr.at, hr.at]
    match i, hf with
    | 0, hf => simp at hf; subst hf; exact ⟨rfl, rfl, rfl⟩
    | 1, hf => simp at hf; subst hf; exact ⟨rfl, rfl, rfl⟩
    | 2, hf => simp at hf; subst hf; exact ⟨rfl, rfl, rfl⟩
    | (j + 3), hf => simp at hf
  have hfit : Fits [⟨q, ⟨#[]⟩, false⟩, ⟨h, ⟨#[]⟩, false⟩, ⟨u, ⟨#[]⟩, false⟩] := by
    intro i f hf
    match i, hf with
    | 0, hf => simp at hf; subst hf; exact ⟨by simp [Fl.head, numOf]; omega, by simp [Fl.body, strOf]; decide⟩
    | 1, hf => simp at hf; subst hf; exact ⟨by simp [Fl.head, numOf]; omega, by simp [Fl.body, strOf]; decide⟩
    | 2, hf => simp at hf; subst hf; exact ⟨by simp [Fl.head, numOf]; omega, by simp [Fl.body, strOf]; decide⟩
    | (j + 3), hf => simp at hf
  have hl : layOf [⟨q, ⟨#[]⟩, false⟩, ⟨h, ⟨#[]⟩, false⟩, ⟨u, ⟨#[]⟩, false⟩] = (Leb.enc q ++ Leb.enc h ++ Leb.enc u, 0) := by
    have hb : allBytes [⟨q, ⟨#[]⟩, false⟩, ⟨h, ⟨#[]⟩, false⟩, ⟨u, ⟨#[]⟩, false⟩] = Leb.enc q ++ Leb.enc h ++ Leb.enc u := by simp [allBytes, Fl.bytes, Fl.head, Fl.body, numOf, strOf]
    have h9 := Leb.enc_len q
    unfold layOf
    rw [hb, if_neg (by simp [Fl.head, numOf]), if_neg (by have h1 := head_len q h u; unfold head headOf at h1; simp only [List.length_append] at h1 ⊢; omega)]
  refine (lay_any (cap := 3) hf (by simp) (by simp) hfit).mono ?_
  rintro e w' ⟨rfl, hb⟩
  rw [hl]
  exact ⟨rfl, ((Below.refl _ _).alloc (Nat.le_refl _) _).trans (hb.mono (by simp))⟩

set_option maxRecDepth 100000 in
theorem head_mk (q h u : Nat) : (⟨#[76, 73, 71, 72, 84, 69, 82]⟩ : ByteArray) ++ mk (Leb.enc q ++ Leb.enc h ++ Leb.enc u) = mk (headOf q h u) := bytes_ext (by
  rw [ByteArray.data_append, Array.toList_append, mk_data, mk_data]
  simp [headOf, tag])

set_option maxRecDepth 100000 in
theorem head_mk2 (q h u : Nat) : mk (headOf q h u) ++ mk (Frm.sumOf (headOf q h u)) = mk (head q h u) := bytes_ext (by
  rw [ByteArray.data_append, Array.toList_append, mk_data, mk_data, mk_data]
  rfl)

set_option maxRecDepth 100000 in
theorem below_one {w w' : World} {o : Obj} (h : Below (w.heap.size + 1) (w.alloc o) w') : w.heap.size + 1 ≤ w'.heap.size := by
  have := h.size
  simpa using this

set_option maxRecDepth 100000 in
theorem below_box {w w' : World} {o : Obj} (h : Below (w.heap.size + 1) (w.alloc o) w') : Below w.heap.size w w' := ((Below.refl _ _).alloc (Nat.le_refl _) _).trans (h.mono (by omega))

set_option maxRecDepth 100000 in
set_option maxHeartbeats 1600000 in
theorem head_text (q h u : Nat) (hq : q < 9223372036854775808) (hh : h < 9223372036854775808) (hu : u < 9223372036854775808) (w : World) :
    Calls Try.prog 48 #[.agg #[.int .i64 (q : Int), .int .i64 (h : Int), .int .i64 (u : Int)]] w fun e w' => e = .returned (.string (mk (head q h u))) ∧ Below w.heap.size w w' := by
  have HL := Lib.hid (lay_three q h u hq hh hu)
  have HC : Hid (∀ W : World, Calls Try.prog 61 #[.string (mk (headOf q h u))] W fun e w' => e = .returned (.string (mk (Frm.sumOf (headOf q h u)))) ∧ Below W.heap.size W w') := Lib.hid (fun W => crc_ok.four (mk (headOf q h u)) W (by have h1 := head_len q h u; unfold head at h1; rw [List.length_append] at h1; rw [mk_len]; omega))
  have hz : (mk (Leb.enc q ++ Leb.enc h ++ Leb.enc u)).size ≤ 38 := by
    have h1 := head_len q h u
    unfold head headOf at h1
    rw [mk_len]
    simp only [List.length_append] at h1 ⊢
    omega
  have hz2 : (mk (headOf q h u)).size ≤ 38 := by
    have h1 := head_len q h u
    unfold head at h1
    rw [List.length_append] at h1
    rw [mk_len]
    omega
  have E1 := Lib.hid (head_mk q h u)
  have E2 := Lib.hid (head_mk2 q h u)
  have hc := (Row.made w 61 #[.int .i64 (q : Int), .int .i64 (h : Int), .int .i64 (u : Int)])
  have Hc : Hid (∀ w', Below (w.heap.size + 1) (w.alloc (.cells #[.int .i64 (q : Int), .int .i64 (h : Int), .int .i64 (u : Int)] 61)) w' → w'.cell? ⟨w.heap.size, 0, none⟩ = some (.int .i64 (q : Int)) ∧ w'.cell? ⟨w.heap.size, 1, none⟩ = some (.int .i64 (h : Int)) ∧ w'.cell? ⟨w.heap.size, 2, none⟩ = some (.int .i64 (u : Int))) := Lib.hid (fun w' hb => by
    have hr := hc.below hb (by omega)
    exact ⟨hr.at 0, hr.at 1, hr.at 2⟩)
  clear hc hq hh hu
  generalize Leb.enc q ++ Leb.enc h ++ Leb.enc u = T at *
  have hT0 : ¬ 9223372036854775807 < 7 + (mk T).size := by omega
  have hT1 : ¬ 9223372036854775807 < (mk (headOf q h u)).size + (mk (Frm.sumOf (headOf q h u))).size := by
    have e : (mk (Frm.sumOf (headOf q h u))).size = 4 := rfl
    omega
  have hB : Hid (∀ w', Below (w.heap.size + 1) (w.alloc (.cells #[.int .i64 (q : Int), .int .i64 (h : Int), .int .i64 (u : Int)] 61)) w' → Below w.heap.size w w') := Lib.hid (fun w' hb => below_box hb)
  clear hz hz2
  generalize hX : mk T = X at *
  generalize hY : mk (headOf q h u) = Y at *
  generalize hZ : mk (head q h u) = Z at *
  generalize hU : mk (Frm.sumOf (headOf q h u)) = U at *
  clear hX hY hZ hU
  go_enter Try.func48, Try.ntmps48
  go_wp2_with fail
  refine wp_region_held_drew (S := (Below (w.heap.size + 1) (w.alloc (.cells #[.int .i64 (q : Int), .int .i64 (h : Int), .int .i64 (u : Int)] 61)))) (by kernel_rfl) (Below.drew (Below.refl _ _)) (fun hHeld => ?_)
  refine wpAnyH_take (i := 0) (v := ?_) rfl (by kernel_rfl) (by kernel_rfl) (by kernel_rfl) (fun _ _ _ h => h) (Or.inl ⟨by rfl, (by intro w hSw; go_simp; try with_reducible rfl)⟩) (by assumption) ?_
  simp only [Act.put, List.getElem_toArray, List.getElem_cons_zero, List.getElem_cons_succ, List.setIfInBounds_toArray, List.set_cons_zero, List.set_cons_succ]
  refine wpAnyH_take (i := 1) (v := ?_) rfl (by kernel_rfl) (by kernel_rfl) (by kernel_rfl) (fun _ _ _ h => h) (Or.inl ⟨by rfl, (by intro w hSw; have c1 := (Hc.out w hSw).1; go_simp; try with_reducible rfl)⟩) (by assumption) ?_
  simp only [Act.put, List.getElem_toArray, List.getElem_cons_zero, List.getElem_cons_succ, List.setIfInBounds_toArray, List.set_cons_zero, List.set_cons_succ]
  refine wpAnyH_take (i := 3) (v := ?_) rfl (by kernel_rfl) (by kernel_rfl) (by kernel_rfl) (fun _ _ _ h => h) (Or.inl ⟨by rfl, (by intro w hSw; go_simp; try with_reducible rfl)⟩) (by assumption) ?_
  simp only [Act.put, List.getElem_toArray, List.getElem_cons_zero, List.getElem_cons_succ, List.setIfInBounds_toArray, List.set_cons_zero, List.set_cons_succ]
  refine wpAnyH_take (i := 4) (v := ?_) rfl (by kernel_rfl) (by kernel_rfl) (by kernel_rfl) (fun _ _ _ h => h) (Or.inl ⟨by rfl, (by intro w hSw; have c1 := (Hc.out w hSw).2.1; go_simp; try with_reducible rfl)⟩) (by assumption) ?_
  simp only [Act.put, List.getElem_toArray, List.getElem_cons_zero, List.getElem_cons_succ, List.setIfInBounds_toArray, List.set_cons_zero, List.set_cons_succ]
  refine wpAnyH_take (i := 6) (v := ?_) rfl (by kernel_rfl) (by kernel_rfl) (by kernel_rfl) (fun _ _ _ h => h) (Or.inl ⟨by rfl, (by intro w hSw; go_simp; try with_reducible rfl)⟩) (by assumption) ?_
  simp only [Act.put, List.getElem_toArray, List.getElem_cons_zero, List.getElem_cons_succ, List.setIfInBounds_toArray, List.set_cons_zero, List.set_cons_succ]
  refine wpAnyH_take (i := 7) (v := ?_) rfl (by kernel_rfl) (by kernel_rfl) (by kernel_rfl) (fun _ _ _ h => h) (Or.inl ⟨by rfl, (by intro w hSw; have c1 := (Hc.out w hSw).2.2; go_simp; try with_reducible rfl)⟩) (by assumption) ?_
  simp only [Act.put, List.getElem_toArray, List.getElem_cons_zero, List.getElem_cons_succ, List.setIfInBounds_toArray, List.set_cons_zero, List.set_cons_succ]
  refine wpAnyH_ready (rs := [2]) (by kernel_rfl) (by simp) ?_
  refine AllReadyH.cons rfl (fun K hK => ?_) AllReadyH.nil
  go_simp
  go_at_call 60
  refine (field_n _ _).mono ?_
  rintro e w2 ⟨rfl, hb2⟩
  refine hK.out _ _ (hHeld.trans (hb2.mono (below_one hHeld))) (fun hHeld => ?_)
  clear hb2
  clear hK K
  refine wpAnyH_ready (rs := [5]) (by kernel_rfl) (by simp) ?_
  refine AllReadyH.cons rfl (fun K hK => ?_) AllReadyH.nil
  go_simp
  go_at_call 60
  refine (field_n _ _).mono ?_
  rintro e w2 ⟨rfl, hb2⟩
  refine hK.out _ _ (hHeld.trans (hb2.mono (below_one hHeld))) (fun hHeld => ?_)
  clear hb2
  clear hK K
  refine wpAnyH_ready (rs := [8]) (by kernel_rfl) (by simp) ?_
  refine AllReadyH.cons rfl (fun K hK => ?_) AllReadyH.nil
  go_simp
  go_at_call 60
  refine (field_n _ _).mono ?_
  rintro e w2 ⟨rfl, hb2⟩
  refine hK.out _ _ (hHeld.trans (hb2.mono (below_one hHeld))) (fun hHeld => ?_)
  clear hb2
  clear hK K
  refine wpAnyH_ready (rs := [9]) (by kernel_rfl) (by simp) ?_
  refine AllReadyH.cons rfl (fun K hK => ?_) AllReadyH.nil
  go_simp
  refine hK.out _ _ (hHeld.alloc (below_one hHeld) _) (fun hHeld2 => ?_)
  clear hK K
  refine wpAnyH_ready (rs := [10]) (by kernel_rfl) (by simp) ?_
  refine AllReadyH.cons rfl (fun K hK => ?_) AllReadyH.nil
  go_simp
  go_at_call 59
  refine (HL.out _).mono ?_
  rintro e w5 ⟨rfl, hb5⟩
  refine hK.out _ _ (hHeld.trans (hb5.mono (below_one hHeld))) (fun hHeld => ?_)
  clear hK K
  refine wpAnyH_take (i := 11) (v := ?_) rfl (by kernel_rfl) (by kernel_rfl) (by kernel_rfl) (fun _ _ _ h => h) (Or.inl ⟨by rfl, (by intro w hSw; go_simp; try with_reducible rfl)⟩) (by assumption) ?_
  simp only [Act.put, List.getElem_toArray, List.getElem_cons_zero, List.getElem_cons_succ, List.setIfInBounds_toArray, List.set_cons_zero, List.set_cons_succ]
  refine wpAnyH_take (i := 12) (v := ?_) rfl (by kernel_rfl) (by kernel_rfl) (by kernel_rfl) (fun _ _ _ h => h) (Or.inl ⟨by rfl, (by intro w hSw; go_simp; try with_reducible rfl)⟩) (by assumption) ?_
  simp only [Act.put, List.getElem_toArray, List.getElem_cons_zero, List.getElem_cons_succ, List.setIfInBounds_toArray, List.set_cons_zero, List.set_cons_succ]
  refine wpAnyH_take (i := 13) (v := ?_) rfl (by kernel_rfl) (by kernel_rfl) (by kernel_rfl) (fun _ _ _ h => h) (Or.inl ⟨by rfl, (by intro w hSw; go_simp; try with_reducible rfl)⟩) (by assumption) ?_
  simp only [Act.put, List.getElem_toArray, List.getElem_cons_zero, List.getElem_cons_succ, List.setIfInBounds_toArray, List.set_cons_zero, List.set_cons_succ]
  refine wpAnyH_take (i := 14) (v := ?_) rfl (by kernel_rfl) (by kernel_rfl) (by kernel_rfl) (fun _ _ _ h => h) (Or.inl ⟨by rfl, (by intro w hSw; go_simp; try with_reducible rfl)⟩) (by assumption) ?_
  simp only [Act.put, List.getElem_toArray, List.getElem_cons_zero, List.getElem_cons_succ, List.setIfInBounds_toArray, List.set_cons_zero, List.set_cons_succ]
  refine wpAnyH_take (i := 15) (v := ?_) rfl (by kernel_rfl) (by kernel_rfl) (by kernel_rfl) (fun _ _ _ h => h) (Or.inl ⟨by rfl, (by intro w hSw; go_simp; try with_reducible rfl)⟩) (by assumption) ?_
  simp only [Act.put, List.getElem_toArray, List.getElem_cons_zero, List.getElem_cons_succ, List.setIfInBounds_toArray, List.set_cons_zero, List.set_cons_succ]
  refine wpAnyH_done (by kernel_rfl) ?_ _
  have Hend := Lib.hid (hB.out _ hHeld)
  clear hHeld
  go_wp2_with fail
  rw [E1.out]
  refine (HC.out _).mono ?_
  rintro e w6 ⟨rfl, hb6⟩
  have Hb6 := Lib.hid hb6
  clear hb6
  go_wp2_with fail
  go_ret
  exact ⟨by rw [← E2.out]; rfl, Hend.out.trans (Hb6.out.mono Hend.out.size)⟩
end Go.Proofs.Ytcgplonnhginiaa
/- The landed journal: a head that is set; a disk's calls one behind the other. -/
set_option linter.unusedSimpArgs false
set_option linter.unusedVariables false
namespace Go.Proofs.Ytcgplonnhginiaa
open Go.RowKit Dsk Jnl

section
variable {w w1 w2 : World} {F G : Nat → Prop} {dv : Value} {d d1 d2 : D} {N : Nat}

set_option maxRecDepth 100000 in
theorem atl_mono (h : AtL w F dv d) (hG : ∀ i, F i → G i) (hlt : ∀ i, G i → i < w.heap.size) : AtL w G dv d := by
  obtain ⟨⟨b, bm, sv, N, M, pv, e, h⟩, -⟩ := h
  exact ⟨⟨b, bm, sv, N, M, pv, e, h.mono hG⟩, hlt⟩

set_option maxRecDepth 100000 in
theorem atl_below (h : AtL w F dv d) (hb : Below w.heap.size w w1) : AtL w1 F dv d := atl_kept h (Kept.ofBelow hb (fun _ => False)) (fun _ _ h => h)

set_option maxRecDepth 100000 in
theorem doing_refl (h : AtL w F dv d) : Doing AtL w F dv d w := ⟨atl_mono h (fun _ hi => Or.inl hi) (fun i hi => Grow.lt hi h.2 (Nat.le_refl _)), Kept.refl _ _⟩

set_option maxRecDepth 100000 in
theorem doing_trans (h : Doing AtL w F dv d1 w1) (hF : ∀ i, F i → i < w.heap.size) (k : Doing AtL w1 (Grow F w w1) dv d2 w2) : Doing AtL w F dv d2 w2 := by
  refine ⟨atl_mono k.1 (fun i hi => Grow.trans hi h.2.size k.2.size) (fun i hi => Grow.lt hi hF (Nat.le_trans h.2.size k.2.size)), h.2.trans k.2 (fun i hi hg => ?_)⟩
  rcases hg with hg | hg
  · exact hg
  · omega

set_option maxRecDepth 100000 in
theorem doing_below (h : Doing AtL w F dv d w1) (hF : ∀ i, F i → i < w.heap.size) (k : Below w1.heap.size w1 w2) : Doing AtL w F dv d w2 :=
  ⟨atl_mono (atl_below h.1 k) (fun i hi => Grow.within hi k.size) (fun i hi => Grow.lt hi hF (Nat.le_trans h.2.size k.size)), h.2.trans (Kept.ofBelow k (fun _ => False)) (fun _ _ h => h.elim)⟩

set_option maxRecDepth 100000 in
/-- A disk's call behind what turned nothing of it. -/
theorem doing_from (hb : Below w.heap.size w w1) (hF : ∀ i, F i → i < w.heap.size) (k : Doing AtL w1 F dv d w2) : Doing AtL w F dv d w2 :=
  ⟨atl_mono k.1 (fun i hi => Grow.later hi hb.size) (fun i hi => Grow.lt hi hF (Nat.le_trans hb.size k.2.size)), (Kept.ofBelow hb F).trans k.2 (fun _ _ h => h)⟩
end

set_option maxRecDepth 100000 in
set_option maxHeartbeats 1600000 in
theorem head_set {w : World} {F : Nat → Prop} {dv : Value} {d : D} {N : Nat} (h : AtL w F dv d) (hf : d.Fine N) (hN : N + 2 ≤ 100000) (q hh u : Nat) (hq : q < 9223372036854775808) (hh1 : hh < 9223372036854775808) (hu : u < 9223372036854775808) :
    Calls Try.prog 29 #[.agg #[.int .i64 (q : Int), .int .i64 (hh : Int), .int .i64 (u : Int)], dv] w fun e w' => e = .returned (.int .i64 (setHead q hh u d).1) ∧ Doing AtL w F dv (setHead q hh u d).2 w' := by
  have HT := Lib.hid (head_text q hh u hq hh1 hu)
  have hlt := h.2
  have hw5 : Hid (∀ w5, Below w.heap.size w w5 → Calls Try.prog 25 #[dv, .int .i64 ((q % 2 : Nat) : Int), .string (mk (head q hh u))] w5 fun e w' => e = .returned (.int .i64 (d.write ((q % 2 : Nat) : Int) (text (head q hh u))).1) ∧ Doing AtL w5 F dv (d.write ((q % 2 : Nat) : Int) (text (head q hh u))).2 w') := Lib.hid (fun w5 hb =>
    atl_write (atl_below h hb) hf (by omega) ((q % 2 : Nat) : Int) (mk (head q hh u)) (by omega) (by omega) (by rw [mk_len]; have := head_len q hh u; omega))
  have hfl : Hid (∀ w6, Doing AtL w F dv (d.write ((q % 2 : Nat) : Int) (text (head q hh u))).2 w6 → Calls Try.prog 26 #[dv] w6 fun e w' => e = .returned (.int .i64 (d.write ((q % 2 : Nat) : Int) (text (head q hh u))).2.flush.1) ∧ Doing AtL w F dv (d.write ((q % 2 : Nat) : Int) (text (head q hh u))).2.flush.2 w') := Lib.hid (fun w6 k => by
    refine (atl_flush k.1 (hf.write _ _) (by omega)).mono ?_
    rintro e w' ⟨rfl, k2⟩
    exact ⟨rfl, doing_trans k hlt k2⟩)
  have hrem : (q : Int).tmod 2 = ((q % 2 : Nat) : Int) := by rw [Int.tmod_eq_emod_of_nonneg (by omega)]; omega
  have hrow := (Row.made w 61 #[.int .i64 (q : Int), .int .i64 (hh : Int), .int .i64 (u : Int)])
  have Hlt := Lib.hid hlt
  obtain ⟨b, rfl⟩ := atl_addr h
  have hset : Hid (setHead q hh u d = if (d.write ((q % 2 : Nat) : Int) (text (head q hh u))).1 = 0 then (d.write ((q % 2 : Nat) : Int) (text (head q hh u))).2.flush else d.write ((q % 2 : Nat) : Int) (text (head q hh u))) := Lib.hid rfl
  have hq1 : ((q % 2 : Nat) : Int) ≤ 1 := by omega
  have hq0 : (0 : Int) ≤ ((q % 2 : Nat) : Int) := by omega
  clear h hf hlt
  rw [hset.out]
  clear hset
  generalize hD1 : d.write ((q % 2 : Nat) : Int) (text (head q hh u)) = D1 at *
  generalize hD2 : D1.2.flush = D2 at *
  obtain ⟨x1, d1⟩ := D1
  obtain ⟨x2, d2⟩ := D2
  simp only at *
  clear hD1 hD2
  generalize hm : ((q % 2 : Nat) : Int) = m at *
  generalize hT : mk (head q hh u) = T at *
  clear hT hm hq hh1 hu
  by_cases hx : x1 = 0
  · subst hx
    rw [if_pos rfl]
    go_enter Try.func29, Try.ntmps29
    go_wp2_with fail
    refine wp_region_held_drew (S := (fun w' => Row w' w.heap.size 61 #[.int .i64 (q : Int), .int .i64 (hh : Int), .int .i64 (u : Int)])) (by kernel_rfl) hrow (fun hHeld => ?_)
    refine wpAnyH_take (i := 0) (v := ?_) rfl (by kernel_rfl) (by kernel_rfl) (by kernel_rfl) (fun _ _ _ h => h) (Or.inl ⟨by rfl, (by intro w hSw; go_simp; try with_reducible rfl)⟩) (by assumption) ?_
    simp only [Act.put, List.getElem_toArray, List.getElem_cons_zero, List.getElem_cons_succ, List.setIfInBounds_toArray, List.set_cons_zero, List.set_cons_succ]
    refine wpAnyH_take (i := 1) (v := ?_) rfl (by kernel_rfl) (by kernel_rfl) (by kernel_rfl) (fun _ _ _ h => h) (Or.inl ⟨by rfl, (by intro w hSw; go_simp; try with_reducible rfl)⟩) (by assumption) ?_
    simp only [Act.put, List.getElem_toArray, List.getElem_cons_zero, List.getElem_cons_succ, List.setIfInBounds_toArray, List.set_cons_zero, List.set_cons_succ]
    refine wpAnyH_take (i := 2) (v := ?_) rfl (by kernel_rfl) (by kernel_rfl) (by kernel_rfl) (fun _ _ _ h => h) (Or.inl ⟨by rfl, (by intro w hSw; have c0 := Row.at hSw 0; have c1 := Row.at hSw 1; have c2 := Row.at hSw 2; go_simp; try with_reducible rfl)⟩) (by assumption) ?_
    simp only [Act.put, List.getElem_toArray, List.getElem_cons_zero, List.getElem_cons_succ, List.setIfInBounds_toArray, List.set_cons_zero, List.set_cons_succ]
    refine wpAnyH_take (i := 3) (v := ?_) rfl (by kernel_rfl) (by kernel_rfl) (by kernel_rfl) (fun _ _ _ h => h) (Or.inl ⟨by rfl, (by intro w hSw; go_simp; try with_reducible rfl)⟩) (by assumption) ?_
    simp only [Act.put, List.getElem_toArray, List.getElem_cons_zero, List.getElem_cons_succ, List.setIfInBounds_toArray, List.set_cons_zero, List.set_cons_succ]
    refine wpAnyH_take (i := 4) (v := ?_) rfl (by kernel_rfl) (by kernel_rfl) (by kernel_rfl) (fun _ _ _ h => h) (Or.inl ⟨by rfl, (by intro w hSw; have c0 := Row.at hSw 0; have c1 := Row.at hSw 1; have c2 := Row.at hSw 2; go_simp; try with_reducible rfl)⟩) (by assumption) ?_
    simp only [Act.put, List.getElem_toArray, List.getElem_cons_zero, List.getElem_cons_succ, List.setIfInBounds_toArray, List.set_cons_zero, List.set_cons_succ]
    refine wpAnyH_ready (rs := [5]) (by kernel_rfl) (by simp) ?_
    refine AllReadyH.cons rfl (fun K hK => ?_) AllReadyH.nil
    go_simp
    go_at_call 48
    refine (HT.out _).mono ?_
    rintro e w5 ⟨rfl, hb5⟩
    have hB5 : Below w.heap.size w w5 := ((Below.refl _ _).alloc (Nat.le_refl _) _).drew.trans (hb5.mono (by simp))
    have hr5 := Row.below hHeld hb5 (by simp)
    refine hK.out _ _ hr5 (fun hHeld => ?_)
    clear hr5 hb5
    clear hK K
    refine wpAnyH_ready (rs := [6]) (by kernel_rfl) (by simp) ?_
    refine AllReadyH.cons rfl (fun K hK => ?_) AllReadyH.nil
    go_simp
    go_at_call 25
    refine (hw5.out _ hB5).mono ?_
    rintro e w6 ⟨rfl, hk6⟩
    have hr6 := Row.kept hHeld hk6.2 (fun hf => by have := Hlt.out _ hf; omega)
    have hk6 := doing_from hB5 Hlt.out hk6
    refine hK.out _ _ hr6 (fun hHeld => ?_)
    clear hr6
    clear hK K
    refine wpAnyH_take (i := 7) (v := ?_) rfl (by kernel_rfl) (by kernel_rfl) (by kernel_rfl) (fun _ _ _ h => h) (Or.inl ⟨by rfl, (by intro w hSw; go_simp; try with_reducible rfl)⟩) (by assumption) ?_
    simp only [Act.put, List.getElem_toArray, List.getElem_cons_zero, List.getElem_cons_succ, List.setIfInBounds_toArray, List.set_cons_zero, List.set_cons_succ]
    refine wpAnyH_done (by kernel_rfl) ?_ _
    have Hk := Lib.hid hk6
    clear hk6 hHeld
    go_wp2_with fail
    refine (hfl.out _ Hk.out).mono ?_
    rintro e w7 ⟨rfl, hk7⟩
    have Hk7 := Lib.hid hk7
    clear hk7
    go_wp2_with fail
    go_ret
    exact ⟨rfl, Hk7.out⟩
  · rw [if_neg hx]
    have hb : (x1 != 0) = true := by simpa using hx
    clear hx
    go_enter Try.func29, Try.ntmps29
    go_wp2_with fail
    refine wp_region_held_drew (S := (fun w' => Row w' w.heap.size 61 #[.int .i64 (q : Int), .int .i64 (hh : Int), .int .i64 (u : Int)])) (by kernel_rfl) hrow (fun hHeld => ?_)
    refine wpAnyH_take (i := 0) (v := ?_) rfl (by kernel_rfl) (by kernel_rfl) (by kernel_rfl) (fun _ _ _ h => h) (Or.inl ⟨by rfl, (by intro w hSw; go_simp; try with_reducible rfl)⟩) (by assumption) ?_
    simp only [Act.put, List.getElem_toArray, List.getElem_cons_zero, List.getElem_cons_succ, List.setIfInBounds_toArray, List.set_cons_zero, List.set_cons_succ]
    refine wpAnyH_take (i := 1) (v := ?_) rfl (by kernel_rfl) (by kernel_rfl) (by kernel_rfl) (fun _ _ _ h => h) (Or.inl ⟨by rfl, (by intro w hSw; go_simp; try with_reducible rfl)⟩) (by assumption) ?_
    simp only [Act.put, List.getElem_toArray, List.getElem_cons_zero, List.getElem_cons_succ, List.setIfInBounds_toArray, List.set_cons_zero, List.set_cons_succ]
    refine wpAnyH_take (i := 2) (v := ?_) rfl (by kernel_rfl) (by kernel_rfl) (by kernel_rfl) (fun _ _ _ h => h) (Or.inl ⟨by rfl, (by intro w hSw; have c0 := Row.at hSw 0; have c1 := Row.at hSw 1; have c2 := Row.at hSw 2; go_simp; try with_reducible rfl)⟩) (by assumption) ?_
    simp only [Act.put, List.getElem_toArray, List.getElem_cons_zero, List.getElem_cons_succ, List.setIfInBounds_toArray, List.set_cons_zero, List.set_cons_succ]
    refine wpAnyH_take (i := 3) (v := ?_) rfl (by kernel_rfl) (by kernel_rfl) (by kernel_rfl) (fun _ _ _ h => h) (Or.inl ⟨by rfl, (by intro w hSw; go_simp; try with_reducible rfl)⟩) (by assumption) ?_
    simp only [Act.put, List.getElem_toArray, List.getElem_cons_zero, List.getElem_cons_succ, List.setIfInBounds_toArray, List.set_cons_zero, List.set_cons_succ]
    refine wpAnyH_take (i := 4) (v := ?_) rfl (by kernel_rfl) (by kernel_rfl) (by kernel_rfl) (fun _ _ _ h => h) (Or.inl ⟨by rfl, (by intro w hSw; have c0 := Row.at hSw 0; have c1 := Row.at hSw 1; have c2 := Row.at hSw 2; go_simp; try with_reducible rfl)⟩) (by assumption) ?_
    simp only [Act.put, List.getElem_toArray, List.getElem_cons_zero, List.getElem_cons_succ, List.setIfInBounds_toArray, List.set_cons_zero, List.set_cons_succ]
    refine wpAnyH_ready (rs := [5]) (by kernel_rfl) (by simp) ?_
    refine AllReadyH.cons rfl (fun K hK => ?_) AllReadyH.nil
    go_simp
    go_at_call 48
    refine (HT.out _).mono ?_
    rintro e w5 ⟨rfl, hb5⟩
    have hB5 : Below w.heap.size w w5 := ((Below.refl _ _).alloc (Nat.le_refl _) _).drew.trans (hb5.mono (by simp))
    have hr5 := Row.below hHeld hb5 (by simp)
    refine hK.out _ _ hr5 (fun hHeld => ?_)
    clear hr5 hb5
    clear hK K
    refine wpAnyH_ready (rs := [6]) (by kernel_rfl) (by simp) ?_
    refine AllReadyH.cons rfl (fun K hK => ?_) AllReadyH.nil
    go_simp
    go_at_call 25
    refine (hw5.out _ hB5).mono ?_
    rintro e w6 ⟨rfl, hk6⟩
    have hr6 := Row.kept hHeld hk6.2 (fun hf => by have := Hlt.out _ hf; omega)
    have hk6 := doing_from hB5 Hlt.out hk6
    refine hK.out _ _ hr6 (fun hHeld => ?_)
    clear hr6
    clear hK K
    refine wpAnyH_take (i := 7) (v := ?_) rfl (by kernel_rfl) (by kernel_rfl) (by kernel_rfl) (fun _ _ _ h => h) (Or.inl ⟨by rfl, (by intro w hSw; go_simp; try with_reducible rfl)⟩) (by assumption) ?_
    simp only [Act.put, List.getElem_toArray, List.getElem_cons_zero, List.getElem_cons_succ, List.setIfInBounds_toArray, List.set_cons_zero, List.set_cons_succ]
    refine wpAnyH_done (by kernel_rfl) ?_ _
    have Hk := Lib.hid hk6
    clear hk6 hHeld
    go_wp2_with fail
    go_ret
    exact ⟨rfl, Hk.out⟩
end Go.Proofs.Ytcgplonnhginiaa
