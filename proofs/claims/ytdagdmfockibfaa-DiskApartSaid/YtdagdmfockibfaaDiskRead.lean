/- The landed disk: a sector is read; a disk is made. -/
import Derived.Test.YtdagdmfockibfaaDiskPut
import Derived.Laws.IdiomStrings
set_option linter.unusedSimpArgs false
set_option linter.unusedVariables false
namespace Go.Proofs.Ytdagdmfockibfaa
open Go.RowKit Dsk

section
variable {w : World} {F : Nat → Prop} {b bm : Nat} {sv : Value} {N : Nat} {M : DataW Value} {pv : Nat → Value} {d : D}

theorem read_no {v : Value} (h : At w F v d) (i : Int) (hd : openE d i ≠ 0) :
    Calls Try.prog 18 #[v, .int .i64 i] w fun e w' => e = .returned (.tuple #[.string (d.read i).1, .int .i64 (d.read i).2]) ∧ Does At w F v d w' := by
  have hsm := does_same h
  obtain ⟨b, bm, sv, N, M, pv, rfl, h⟩ := h
  have hop := open_any h i
  have Hop := Lib.hid hop
  have hw : d.read i = (⟨#[]⟩, openE d i) := by
    unfold D.read openE at *
    by_cases h1 : d.down = true
    · rw [if_pos h1, if_pos h1]
    · rw [if_neg h1, if_neg h1] at *
      by_cases h2 : i < 0 ∨ (d.S.length : Int) ≤ i
      · rw [if_pos h2, if_pos h2]
      · rw [if_neg h2] at hd; exact absurd rfl hd
  rw [hw]
  have Hsm := Lib.hid hsm
  clear hop hw h hsm
  generalize openE d i = oe at *
  have hb : (oe != 0) = true := by simpa using hd
  clear hd
  go_enter Try.func18, Try.ntmps18
  go_wp2_with (go_at_call 31; with_reducible refine Hop.out.mono ?_; rintro e w' ⟨rfl, rfl⟩)
  go_ret2
  exact ⟨rfl, Hsm.out⟩

/-- A sector is stored into a variable of its own. -/
theorem step_store {ops : Array Oper} {o : Oper} {a : Act} {w : World} {K : Act → World → Prop} {Q : Exit → Act → World → Prop} {E : Prop} (y z : Operand) {x : ByteArray} (hgd : o.guard = none) (ho : o.op = .store 71 y z) (hz : a.eval z = .agg (secV x).toArray)
    {g : Nat} (hy : a.eval y = .pointer (some ⟨g, 0, none⟩)) (hx : x.size = 64) (hg : w.heap[g]? = some (.cells (secV (fill ⟨#[]⟩)).toArray 71 (0, 0)))
    (h : K (a.put o.dst undef) (w.setRow g (secV x).toArray)) :
    if Region.wanted o (yielded ops a.tmps) = true then Oper.wp Try.prog o a w K Q else E := by
  have hw : Region.wanted o (yielded ops a.tmps) = true := by simp [Region.wanted, hgd]
  rw [if_pos hw]
  exact wp_store_row 71 y z ho g _ hy hz 71 _ hg (sec_size hx) (by rw [List.size_toArray, List.size_toArray, secV_len, secV_len, fill_nil, hx]) (all_oneCell_toArray (secV_one x)) h

/-- A sector's bytes as a text. -/
theorem sec_text {w : World} {g : Nat} {x : ByteArray} (hr : Row w g 71 (secV x).toArray) (hx : x.size = 64) : (convert 53 9 (.slice (some ⟨g, 0, none⟩) 64 64)).run Try.prog w = .ok (.string x) w := by
  have hl : x.data.toList.length = 64 := hx
  have := run_convert_bytes_back (P := Try.prog) w 53 9 5 ⟨g, 0, none⟩ 64 x.data.toList Try.underlying53 Try.underlying5 Try.underlying9 (fun j hj => by
    rw [Go.WideShapes.add_plain, Nat.zero_add, hr.at j, List.getElem?_toArray]
    unfold secV
    rw [List.getElem?_map, List.getElem?_eq_getElem hj]
    rfl)
  rw [hl] at this
  rw [this]

set_option maxRecDepth 100000 in
set_option maxHeartbeats 1600000 in
theorem read_ok (h : DAt w F b bm sv N M pv d) {k : Nat} {s0 : ByteArray} {t : List ByteArray} (hl : d.S[k]? = some (s0 :: t)) (hd : d.down = false) (hmx : t.length ≤ 1000000) :
    Calls Try.prog 18 #[.pointer (some ⟨b, 0, none⟩), .int .i64 (k : Int)] w fun e w' => e = .returned (.tuple #[.string (last (s0 :: t)), .int .i64 0]) ∧ Below w.heap.size w w' := by
  have hz := (zero_of_info secZero).1
  have hk := (List.getElem?_eq_some_iff.1 hl).1
  have hop := open_any h (k : Int)
  have e0 : openE d (k : Int) = 0 := by
    unfold openE
    rw [if_neg (by rw [hd]; decide), if_neg (by omega)]
  rw [e0] at hop
  have hbel : ∀ w', Below w.heap.size w w' → DAt w' F b bm sv N M pv d := fun w' hb => h.kept (Kept.ofBelow hb (fun _ => False)) (fun _ _ h => h)
  obtain ⟨g, cap, rfl, hg⟩ := h.safeForm
  obtain ⟨v, hv, hvo, -, -⟩ := h.held hl
  have h64 : All64 (s0 :: t) := h.all64 _ (List.mem_of_getElem? hl)
  have Hs0 : Hid (s0.size = 64) := Lib.hid (h64 s0 (by simp))
  have Hx64 : Hid ((last (s0 :: t)).size = 64) := Lib.hid (h64 _ (by
    have := last_get (l := s0 :: t) (by simp)
    exact List.mem_of_getElem? this))
  have Hmx := Lib.hid hmx
  have Hc0 : Hid (∀ w', Below w.heap.size w w' → w'.cell? ⟨b, 0, none⟩ = some (.slice (some ⟨g, 0, none⟩) d.S.length cap)) := Lib.hid (fun w' hb => (hbel w' hb).facts.1)
  have Hc1 : Hid (∀ w', Below w.heap.size w w' → w'.cell? ⟨b, 1, none⟩ = some (.map (some bm))) := Lib.hid (fun w' hb => (hbel w' hb).facts.2.1)
  have Hlk : Hid (∀ w', Below w.heap.size w w' → (Instr.lookup 59 (.map (some bm)) (.int .i64 (k : Int)) false).run Try.prog w' = .ok v w') := Lib.hid (fun w' hb => look_at (hbel w' hb).map (h.small hl) hv)
  have Hrg : Hid (∀ w', Below w.heap.size w w' → w'.rangeAt g (k * 64) (secV s0)) := Lib.hid (fun w' hb => by
    have h1 := (hbel w' hb).safe
    have h2 := heads_get hl
    rw [← heads_len] at h1
    exact h1.range h2)
  have How : Hid (∀ w', Below w.heap.size w w' → OwnS w' v t) := Lib.hid (fun w' hb => by
    obtain ⟨v', e1, p1, -, -⟩ := (hbel w' hb).held hl
    have : v' = v := by rw [hv] at e1; injection e1 with e1; exact e1.symm
    subst this
    exact p1)
  have k0 : (0 : Int) ≤ (k : Int) := by omega
  have k1 : (k : Int) < (d.S.length : Int) := by omega
  have Hop := Lib.hid hop
  have Hz := Lib.hid hz
  clear h hl hbel hop hz hv hvo h64 e0 hd hk hmx
  generalize d.S.length = len at *
  go_enter Try.func18, Try.ntmps18
  go_wp2_with (go_at_call 31; with_reducible refine Hop.out.mono ?_; rintro e w' ⟨rfl, rfl⟩)
  refine wp_region_held_drew (S := (Below w.heap.size w)) (by kernel_rfl) (Below.drew (Below.refl _ _)) (fun hHeld => ?_)
  refine wpAnyH_take (i := 0) (v := ?_) rfl (by kernel_rfl) (by kernel_rfl) (by kernel_rfl) (fun _ _ _ h => h) (Or.inl ⟨by rfl, (by intro w hSw; go_simp; try with_reducible rfl)⟩) (by assumption) ?_
  simp only [Act.put, List.getElem_toArray, List.getElem_cons_zero, List.getElem_cons_succ, List.setIfInBounds_toArray, List.set_cons_zero, List.set_cons_succ]
  refine wpAnyH_take (i := 1) (v := ?_) rfl (by kernel_rfl) (by kernel_rfl) (by kernel_rfl) (fun _ _ _ h => h) (Or.inl ⟨by rfl, (by intro w hSw; go_simp; try with_reducible rfl)⟩) (by assumption) ?_
  simp only [Act.put, List.getElem_toArray, List.getElem_cons_zero, List.getElem_cons_succ, List.setIfInBounds_toArray, List.set_cons_zero, List.set_cons_succ]
  refine wpAnyH_take (i := 2) (v := ?_) rfl (by kernel_rfl) (by kernel_rfl) (by kernel_rfl) (fun _ _ _ h => h) (Or.inl ⟨by rfl, (by intro w hSw; go_simp; try with_reducible rfl)⟩) (by assumption) ?_
  simp only [Act.put, List.getElem_toArray, List.getElem_cons_zero, List.getElem_cons_succ, List.setIfInBounds_toArray, List.set_cons_zero, List.set_cons_succ]
  refine wpAnyH_take (i := 3) (v := ?_) rfl (by kernel_rfl) (by kernel_rfl) (by kernel_rfl) (fun _ _ _ h => h) (Or.inl ⟨by rfl, (by intro w hSw; have c0 := Hc0.out w hSw; go_simp; try with_reducible rfl)⟩) (by assumption) ?_
  simp only [Act.put, List.getElem_toArray, List.getElem_cons_zero, List.getElem_cons_succ, List.setIfInBounds_toArray, List.set_cons_zero, List.set_cons_succ]
  refine wpAnyH_take (i := 4) (v := ?_) rfl (by kernel_rfl) (by kernel_rfl) (by kernel_rfl) (fun _ _ _ h => h) (Or.inl ⟨by rfl, (by intro w hSw; go_simp; try with_reducible rfl)⟩) (by assumption) ?_
  simp only [Act.put, List.getElem_toArray, List.getElem_cons_zero, List.getElem_cons_succ, List.setIfInBounds_toArray, List.set_cons_zero, List.set_cons_succ]
  refine wpAnyH_take (i := 5) (v := ?_) rfl (by kernel_rfl) (by kernel_rfl) (by kernel_rfl) (fun _ _ _ h => h) (Or.inl ⟨by rfl, (by intro w hSw; go_simp; try with_reducible rfl)⟩) (by assumption) ?_
  simp only [Act.put, List.getElem_toArray, List.getElem_cons_zero, List.getElem_cons_succ, List.setIfInBounds_toArray, List.set_cons_zero, List.set_cons_succ]
  refine wpAnyH_take (i := 6) (v := .agg (secV s0).toArray) rfl (by kernel_rfl) (by kernel_rfl) (by kernel_rfl) (fun _ _ _ h => h) (Or.inl ⟨by rfl, (by intro w hSw; refine exec_load (x := .tmp 19) (g := g) (o := k * 64) (by rfl) (by go_simp; try with_reducible rfl) (Hrg.out w hSw) Hs0.out)⟩) (by assumption) ?_
  simp only [Act.put, List.getElem_toArray, List.getElem_cons_zero, List.getElem_cons_succ, List.setIfInBounds_toArray, List.set_cons_zero, List.set_cons_succ]
  refine wpAnyH_take (i := 7) (v := ?_) rfl (by kernel_rfl) (by kernel_rfl) (by kernel_rfl) (fun _ _ _ h => h) (Or.inl ⟨by rfl, (by intro w hSw; go_simp; try with_reducible rfl)⟩) (by assumption) ?_
  simp only [Act.put, List.getElem_toArray, List.getElem_cons_zero, List.getElem_cons_succ, List.setIfInBounds_toArray, List.set_cons_zero, List.set_cons_succ]
  refine wpAnyH_take (i := 8) (v := ?_) rfl (by kernel_rfl) (by kernel_rfl) (by kernel_rfl) (fun _ _ _ h => h) (Or.inl ⟨by rfl, (by intro w hSw; go_simp; try with_reducible rfl)⟩) (by assumption) ?_
  simp only [Act.put, List.getElem_toArray, List.getElem_cons_zero, List.getElem_cons_succ, List.setIfInBounds_toArray, List.set_cons_zero, List.set_cons_succ]
  refine wpAnyH_take (i := 9) (v := ?_) rfl (by kernel_rfl) (by kernel_rfl) (by kernel_rfl) (fun _ _ _ h => h) (Or.inl ⟨by rfl, (by intro w hSw; go_simp; try with_reducible rfl)⟩) (by assumption) ?_
  simp only [Act.put, List.getElem_toArray, List.getElem_cons_zero, List.getElem_cons_succ, List.setIfInBounds_toArray, List.set_cons_zero, List.set_cons_succ]
  refine wpAnyH_take (i := 10) (v := ?_) rfl (by kernel_rfl) (by kernel_rfl) (by kernel_rfl) (fun _ _ _ h => h) (Or.inl ⟨by rfl, (by intro w hSw; have c1 := Hc1.out w hSw; go_simp; try with_reducible rfl)⟩) (by assumption) ?_
  simp only [Act.put, List.getElem_toArray, List.getElem_cons_zero, List.getElem_cons_succ, List.setIfInBounds_toArray, List.set_cons_zero, List.set_cons_succ]
  refine wpAnyH_take (i := 11) (v := ?_) rfl (by kernel_rfl) (by kernel_rfl) (by kernel_rfl) (fun _ _ _ h => h) (Or.inl ⟨by rfl, (by intro w hSw; go_simp; try with_reducible rfl)⟩) (by assumption) ?_
  simp only [Act.put, List.getElem_toArray, List.getElem_cons_zero, List.getElem_cons_succ, List.setIfInBounds_toArray, List.set_cons_zero, List.set_cons_succ]
  refine wpAnyH_take (i := 12) (v := ?_) rfl (by kernel_rfl) (by kernel_rfl) (by kernel_rfl) (fun _ _ _ h => h) (Or.inl ⟨by rfl, (by intro w hSw; have lk := Hlk.out w hSw; go_simp; try with_reducible rfl)⟩) (by assumption) ?_
  simp only [Act.put, List.getElem_toArray, List.getElem_cons_zero, List.getElem_cons_succ, List.setIfInBounds_toArray, List.set_cons_zero, List.set_cons_succ]
  refine wpAnyH_ready (rs := [13, 14]) (by kernel_rfl) (by simp) ?_
  refine (AllReadyH.cons rfl (fun K hK => ?_) (AllReadyH.cons rfl (fun K hK => ?_) AllReadyH.nil))
  · go_simp
    go_at_call 32
    have hl2 := last_any s0 Hs0.out (How.out _ hHeld) Hmx.out
    with_reducible refine hl2.mono ?_
    clear hl2
    rintro e w2 ⟨rfl, hb2⟩
    have hB2 := hHeld.trans (hb2.mono hHeld.size)
    have Hb2 := Lib.hid hb2
    clear hb2
    refine hK.out _ _ hB2 (fun hHeld2 => ?_)
    clear hK K
    refine wpAnyH_ready (rs := [14]) (by kernel_rfl) (by simp) ?_
    refine AllReadyH.cons rfl (fun K hK => ?_) AllReadyH.nil
    have hz := Hz.out
    go_simp
    refine hK.out _ _ (hHeld2.alloc hHeld2.size _) (fun hHeld2 => ?_)
    clear hz
    clear hK K
    refine wpAnyH_ready (rs := [15]) (by kernel_rfl) (by simp) ?_
    refine AllReadyH.cons rfl (fun K hK => ?_) AllReadyH.nil
    refine step_store (.tmp 7) (.tmp 27) (x := last (s0 :: t)) rfl (by rfl) (by go_simp; try with_reducible rfl) (g := w2.heap.size) (by go_simp; try with_reducible rfl) Hx64.out (heap_alloc_new w2 _) ?_
    refine hK.out _ _ (below_setRow hHeld2 Hb2.out.size _) (fun hHeld4 => ?_)
    clear hK K
    refine wpAnyH_done (by kernel_rfl) ?_ _
    have hR := setRow_heap (w2.alloc (.cells (secV (fill ⟨#[]⟩)).toArray 71)) w2.heap.size _ (secV (last (s0 :: t))).toArray 71 (0, 0) (heap_alloc_new w2 _)
    have hcv := sec_text hR Hx64.out
    clear hHeld hHeld2 hR
    have Hh4 := Lib.hid hHeld4
    clear hHeld4
    go_wp2_with fail
    go_ret2
    exact ⟨rfl, Hh4.out⟩
  · have hz := Hz.out
    go_simp
    refine hK.out _ _ (hHeld.alloc hHeld.size _) (fun hHeld => ?_)
    clear hz
    clear hK K
    refine wpAnyH_ready (rs := [13]) (by kernel_rfl) (by simp) ?_
    refine AllReadyH.cons rfl (fun K hK => ?_) AllReadyH.nil
    go_simp
    go_at_call 32
    have hl2 := last_any s0 Hs0.out (How.out _ hHeld) Hmx.out
    with_reducible refine hl2.mono ?_
    clear hl2
    rintro e w2 ⟨rfl, hb2⟩
    have hB2 := hHeld.trans (hb2.mono hHeld.size)
    have Hb2 := Lib.hid hb2
    clear hb2
    refine hK.out _ _ hB2 (fun hHeld2 => ?_)
    clear hK K
    refine wpAnyH_ready (rs := [15]) (by kernel_rfl) (by simp) ?_
    refine AllReadyH.cons rfl (fun K hK => ?_) AllReadyH.nil
    refine step_store (.tmp 7) (.tmp 27) (x := last (s0 :: t)) rfl (by rfl) (by go_simp; try with_reducible rfl) (g := w.heap.size) (by go_simp; try with_reducible rfl) Hx64.out ((Hb2.out.block w.heap.size (by simp)).trans (heap_alloc_new w _)) ?_
    refine hK.out _ _ (below_setRow hHeld2 (Nat.le_refl _) _) (fun hHeld4 => ?_)
    clear hK K
    refine wpAnyH_done (by kernel_rfl) ?_ _
    have hR := setRow_heap w2 w.heap.size _ (secV (last (s0 :: t))).toArray 71 (0, 0) ((Hb2.out.block w.heap.size (by simp)).trans (heap_alloc_new w _))
    have hcv := sec_text hR Hx64.out
    clear hHeld hHeld2 hR
    have Hh4 := Lib.hid hHeld4
    clear hHeld4
    go_wp2_with fail
    go_ret2
    exact ⟨rfl, Hh4.out⟩
end
end Go.Proofs.Ytdagdmfockibfaa
