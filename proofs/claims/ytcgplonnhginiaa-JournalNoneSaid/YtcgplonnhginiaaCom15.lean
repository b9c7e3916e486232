/- The landed disk: a sector is read; a disk is made. -/
import Derived.Test.YtcgplonnhginiaaCom14
import Derived.Laws.IdiomStrings
import Derived.Laws.MakeOwn
set_option linter.unusedSimpArgs false
set_option linter.unusedVariables false
namespace Go.Proofs.Ytcgplonnhginiaa
open Go.RowKit Dsk

section
variable {w : World} {F : Nat → Prop} {b bm : Nat} {sv : Value} {N : Nat} {M : DataW Value} {pv : Nat → Value} {d : D}

set_option maxRecDepth 100000 in
theorem read_no {v : Value} (h : At w F v d) (i : Int) (hd : openE d i ≠ 0) :
    Calls Try.prog 22 #[v, .int .i64 i] w fun e w' => e = .returned (.tuple #[.string (d.read i).1, .int .i64 (d.read i).2]) ∧ Does At w F v d w' := by
  have hsm := does_same h
  obtain ⟨b, bm, sv, N, M, pv, rfl, h⟩ := h
  have hop := open_any h i
  have Hop := Lib.hid hop
  have hw : d.read i = (⟨#[]⟩, openE d i) := by
    unfold D.read openE at *
    by_cases h1 : d.down = true
    · rw [if_pos h1, if_pos h1]
    · rw [if_neg h1, if_neg h1] at *
      by_cases h2 : i < 0 ∨ (d.S.length : Int) ≤ i
      · rw [if_pos h2, if_pos h2]
      · rw [if_neg h2] at hd; exact absurd rfl hd
  rw [hw]
  have Hsm := Lib.hid hsm
  clear hop hw h hsm
  generalize openE d i = oe at *
  have hb : (oe != 0) = true := by simpa using hd
  clear hd
  go_enter Try.func22, Try.ntmps22
  go_wp2_with (go_at_call 40; with_reducible refine Hop.out.mono ?_; rintro e w' ⟨rfl, rfl⟩)
  go_ret2
  exact ⟨rfl, Hsm.out⟩

set_option maxRecDepth 100000 in
/-- A sector is stored into a variable of its own. -/
theorem step_store {ops : Array Oper} {o : Oper} {a : Act} {w : World} {K : Act → World → Prop} {Q : Exit → Act → World → Prop} {E : Prop} (y z : Operand) {x : ByteArray} (hgd : o.guard = none) (ho : o.op = .store 78 y z) (hz : a.eval z = .agg (secV x).toArray)
    {g : Nat} (hy : a.eval y = .pointer (some ⟨g, 0, none⟩)) (hx : x.size = 64) (hg : w.heap[g]? = some (.cells (secV (fill ⟨#[]⟩)).toArray 78 (0, 0)))
    (h : K (a.put o.dst undef) (w.setRow g (secV x).toArray)) :
    if Region.wanted o (yielded ops a.tmps) = true then Oper.wp Try.prog o a w K Q else E := by
  have hw : Region.wanted o (yielded ops a.tmps) = true := by simp [Region.wanted, hgd]
  rw [if_pos hw]
  exact wp_store_row 78 y z ho g _ hy hz 78 _ hg (sec_size hx) (by rw [List.size_toArray, List.size_toArray, secV_len, secV_len, fill_nil, hx]) (all_oneCell_toArray (secV_one x)) h

set_option maxRecDepth 100000 in
/-- A sector's bytes as a text. -/
theorem sec_text {w : World} {g : Nat} {x : ByteArray} (hr : Row w g 78 (secV x).toArray) (hx : x.size = 64) : (convert 64 9 (.slice (some ⟨g, 0, none⟩) 64 64)).run Try.prog w = .ok (.string x) w := by
  have hl : x.data.toList.length = 64 := hx
  have := run_convert_bytes_back (P := Try.prog) w 64 9 5 ⟨g, 0, none⟩ 64 x.data.toList Try.underlying64 Try.underlying5 Try.underlying9 (fun j hj => by
    rw [Go.WideShapes.add_plain, Nat.zero_add, hr.at j, List.getElem?_toArray]
    unfold secV
    rw [List.getElem?_map, List.getElem?_eq_getElem hj]
    rfl)
  rw [hl] at this
  rw [this]

set_option maxRecDepth 100000 in
set_option maxHeartbeats 1600000 in
theorem read_ok (h : DAt w F b bm sv N M pv d) {k : Nat} {s0 : ByteArray} {t : List ByteArray} (hl : d.S[k]? = some (s0 :: t)) (hd : d.down = false) (hmx : t.length ≤ 1000000) :
    Calls Try.prog 22 #[.pointer (some ⟨b, 0, none⟩), .int .i64 (k : Int)] w fun e w' => e = .returned (.tuple #[.string (last (s0 :: t)), .int .i64 0]) ∧ Below w.heap.size w w' := by
  have hz := (zero_of_info secZero).1
  have hk := (List.getElem?_eq_some_iff.1 hl).1
  have hop := open_any h (k : Int)
  have e0 : openE d (k : Int) = 0 := by
    unfold openE
    rw [if_neg (by rw [hd]; decide), if_neg (by omega)]
  rw [e0] at hop
  have hbel : ∀ w', Below w.heap.size w w' → DAt w' F b bm sv N M pv d := fun w' hb => h.kept (Kept.ofBelow hb (fun _ => False)) (fun _ _ h => h)
  obtain ⟨g, cap, rfl, hg⟩ := h.safeForm
  obtain ⟨v, hv, hvo, -, -⟩ := h.held hl
  have h64 : All64 (s0 :: t) := h.all64 _ (List.mem_of_getElem? hl)
  have Hs0 : Hid (s0.size = 64) := Lib.hid (h64 s0 (by simp))
  have Hx64 : Hid ((last (s0 :: t)).size = 64) := Lib.hid (h64 _ (by
    have := last_get (l := s0 :: t) (by simp)
    exact List.mem_of_getElem? this))
  have Hmx := Lib.hid hmx
  have Hc0 : Hid (∀ w', Below w.heap.size w w' → w'.cell? ⟨b, 0, none⟩ = some (.slice (some ⟨g, 0, none⟩) d.S.length cap)) := Lib.hid (fun w' hb => (hbel w' hb).facts.1)
  have Hc1 : Hid (∀ w', Below w.heap.size w w' → w'.cell? ⟨b, 1, none⟩ = some (.map (some bm))) := Lib.hid (fun w' hb => (hbel w' hb).facts.2.1)
  have Hlk : Hid (∀ w', Below w.heap.size w w' → (Instr.lookup 57 (.map (some bm)) (.int .i64 (k : Int)) false).run Try.prog w' = .ok v w') := Lib.hid (fun w' hb => look_at (hbel w' hb).map (h.small hl) hv)
  have Hrg : Hid (∀ w', Below w.heap.size w w' → w'.rangeAt g (k * 64) (secV s0)) := Lib.hid (fun w' hb => by
    have h1 := (hbel w' hb).safe
    have h2 := heads_get hl
    rw [← heads_len] at h1
    exact h1.range h2)
  have How : Hid (∀ w', Below w.heap.size w w' → OwnS w' v t) := Lib.hid (fun w' hb => by
    obtain ⟨v', e1, p1, -, -⟩ := (hbel w' hb).held hl
    have : v' = v := by rw [hv] at e1; injection e1 with e1; exact e1.symm
    subst this
    exact p1)
  have k0 : (0 : Int) ≤ (k : Int) := by omega
  have k1 : (k : Int) < (d.S.length : Int) := by omega
  have Hop := Lib.hid hop
  have Hz := Lib.hid hz
  clear h hl hbel hop hz hv hvo h64 e0 hd hk hmx
  generalize d.S.length = len at *
  go_enter Try.func22, Try.ntmps22
  go_wp2_with (go_at_call 40; with_reducible refine Hop.out.mono ?_; rintro e w' ⟨rfl, rfl⟩)
  refine wp_region_held_drew (S := (Below w.heap.size w)) (by kernel_rfl) (Below.drew (Below.refl _ _)) (fun hHeld => ?_)
  refine wpAnyH_take (i := 0) (v := ?_) rfl (by kernel_rfl) (by kernel_rfl) (by kernel_rfl) (fun _ _ _ h => h) (Or.inl ⟨by rfl, (by intro w hSw; go_simp; try with_reducible rfl)⟩) (by assumption) ?_
  simp only [Act.put, List.getElem_toArray, List.getElem_cons_zero, List.getElem_cons_succ, List.setIfInBounds_toArray, List.set_cons_zero, List.set_cons_succ]
  refine wpAnyH_take (i := 1) (v := ?_) rfl (by kernel_rfl) (by kernel_rfl) (by kernel_rfl) (fun _ _ _ h => h) (Or.inl ⟨by rfl, (by intro w hSw; go_simp; try with_reducible rfl)⟩) (by assumption) ?_
  simp only [Act.put, List.getElem_toArray, List.getElem_cons_zero, List.getElem_cons_succ, List.setIfInBounds_toArray, List.set_cons_zero, List.set_cons_succ]
  refine wpAnyH_take (i := 2) (v := ?_) rfl (by kernel_rfl) (by kernel_rfl) (by kernel_rfl) (fun _ _ _ h => h) (Or.inl ⟨by rfl, (by intro w hSw; go_simp; try with_reducible rfl)⟩) (by assumption) ?_
  simp only [Act.put, List.getElem_toArray, List.getElem_cons_zero, List.getElem_cons_succ, List.setIfInBounds_toArray, List.set_cons_zero, List.set_cons_succ]
  refine wpAnyH_take (i := 3) (v := ?_) rfl (by kernel_rfl) (by kernel_rfl) (by kernel_rfl) (fun _ _ _ h => h) (Or.inl ⟨by rfl, (by intro w hSw; have c0 := Hc0.out w hSw; go_simp; try with_reducible rfl)⟩) (by assumption) ?_
  simp only [Act.put, List.getElem_toArray, List.getElem_cons_zero, List.getElem_cons_succ, List.setIfInBounds_toArray, List.set_cons_zero, List.set_cons_succ]
  refine wpAnyH_take (i := 4) (v := ?_) rfl (by kernel_rfl) (by kernel_rfl) (by kernel_rfl) (fun _ _ _ h => h) (Or.inl ⟨by rfl, (by intro w hSw; go_simp; try with_reducible rfl)⟩) (by assumption) ?_
  simp only [Act.put, List.getElem_toArray, List.getElem_cons_zero, List.getElem_cons_succ, List.setIfInBounds_toArray, List.set_cons_zero, List.set_cons_succ]
  refine wpAnyH_take (i := 5) (v := ?_) rfl (by kernel_rfl) (by kernel_rfl) (by kernel_rfl) (fun _ _ _ h => h) (Or.inl ⟨by rfl, (by intro w hSw; go_simp; try with_reducible rfl)⟩) (by assumption) ?_
  simp only [Act.put, List.getElem_toArray, List.getElem_cons_zero, List.getElem_cons_succ, List.setIfInBounds_toArray, List.set_cons_zero, List.set_cons_succ]
  refine wpAnyH_take (i := 6) (v := .agg (secV s0).toArray) rfl (by kernel_rfl) (by kernel_rfl) (by kernel_rfl) (fun _ _ _ h => h) (Or.inl ⟨by rfl, (by intro w hSw; refine exec_load (x := .tmp 19) (g := g) (o := k * 64) (by rfl) (by go_simp; try with_reducible rfl) (Hrg.out w hSw) Hs0.out)⟩) (by assumption) ?_
  simp only [Act.put, List.getElem_toArray, List.getElem_cons_zero, List.getElem_cons_succ, List.setIfInBounds_toArray, List.set_cons_zero, List.set_cons_succ]
  refine wpAnyH_take (i := 7) (v := ?_) rfl (by kernel_rfl) (by kernel_rfl) (by kernel_rfl) (fun _ _ _ h => h) (Or.inl ⟨by rfl, (by intro w hSw; go_simp; try with_reducible rfl)⟩) (by assumption) ?_
  simp only [Act.put, List.getElem_toArray, List.getElem_cons_zero, List.getElem_cons_succ, List.setIfInBounds_toArray, List.set_cons_zero, List.set_cons_succ]
  refine wpAnyH_take (i := 8) (v := ?_) rfl (by kernel_rfl) (by kernel_rfl) (by kernel_rfl) (fun _ _ _ h => h) (Or.inl ⟨by rfl, (by intro w hSw; go_simp; try with_reducible rfl)⟩) (by assumption) ?_
  simp only [Act.put, List.getElem_toArray, List.getElem_cons_zero, List.getElem_cons_succ, List.setIfInBounds_toArray, List.set_cons_zero, List.set_cons_succ]
  refine wpAnyH_take (i := 9) (v := ?_) rfl (by kernel_rfl) (by kernel_rfl) (by kernel_rfl) (fun _ _ _ h => h) (Or.inl ⟨by rfl, (by intro w hSw; go_simp; try with_reducible rfl)⟩) (by assumption) ?_
  simp only [Act.put, List.getElem_toArray, List.getElem_cons_zero, List.getElem_cons_succ, List.setIfInBounds_toArray, List.set_cons_zero, List.set_cons_succ]
  refine wpAnyH_take (i := 10) (v := ?_) rfl (by kernel_rfl) (by kernel_rfl) (by kernel_rfl) (fun _ _ _ h => h) (Or.inl ⟨by rfl, (by intro w hSw; have c1 := Hc1.out w hSw; go_simp; try with_reducible rfl)⟩) (by assumption) ?_
  simp only [Act.put, List.getElem_toArray, List.getElem_cons_zero, List.getElem_cons_succ, List.setIfInBounds_toArray, List.set_cons_zero, List.set_cons_succ]
  refine wpAnyH_take (i := 11) (v := ?_) rfl (by kernel_rfl) (by kernel_rfl) (by kernel_rfl) (fun _ _ _ h => h) (Or.inl ⟨by rfl, (by intro w hSw; go_simp; try with_reducible rfl)⟩) (by assumption) ?_
  simp only [Act.put, List.getElem_toArray, List.getElem_cons_zero, List.getElem_cons_succ, List.setIfInBounds_toArray, List.set_cons_zero, List.set_cons_succ]
  refine wpAnyH_take (i := 12) (v := ?_) rfl (by kernel_rfl) (by kernel_rfl) (by kernel_rfl) (fun _ _ _ h => h) (Or.inl ⟨by rfl, (by intro w hSw; have lk := Hlk.out w hSw; go_simp; try with_reducible rfl)⟩) (by assumption) ?_
  simp only [Act.put, List.getElem_toArray, List.getElem_cons_zero, List.getElem_cons_succ, List.setIfInBounds_toArray, List.set_cons_zero, List.set_cons_succ]
  refine wpAnyH_ready (rs := [13, 14]) (by kernel_rfl) (by simp) ?_
  refine (AllReadyH.cons rfl (fun K hK => ?_) (AllReadyH.cons rfl (fun K hK => ?_) AllReadyH.nil))
  · go_simp
    go_at_call 41
    have hl2 := last_any s0 Hs0.out (How.out _ hHeld) Hmx.out
    with_reducible refine hl2.mono ?_
    clear hl2
    rintro e w2 ⟨rfl, hb2⟩
    have hB2 := hHeld.trans (hb2.mono hHeld.size)
    have Hb2 := Lib.hid hb2
    clear hb2
    refine hK.out _ _ hB2 (fun hHeld2 => ?_)
    clear hK K
    refine wpAnyH_ready (rs := [14]) (by kernel_rfl) (by simp) ?_
    refine AllReadyH.cons rfl (fun K hK => ?_) AllReadyH.nil
    have hz := Hz.out
    go_simp
    refine hK.out _ _ (hHeld2.alloc hHeld2.size _) (fun hHeld2 => ?_)
    clear hz
    clear hK K
    refine wpAnyH_ready (rs := [15]) (by kernel_rfl) (by simp) ?_
    refine AllReadyH.cons rfl (fun K hK => ?_) AllReadyH.nil
    refine step_store (.tmp 7) (.tmp 27) (x := last (s0 :: t)) rfl (by rfl) (by go_simp; try with_reducible rfl) (g := w2.heap.size) (by go_simp; try with_reducible rfl) Hx64.out (heap_alloc_new w2 _) ?_
    refine hK.out _ _ (below_setRow hHeld2 Hb2.out.size _) (fun hHeld4 => ?_)
    clear hK K
    refine wpAnyH_done (by kernel_rfl) ?_ _
    have hR := setRow_heap (w2.alloc (.cells (secV (fill ⟨#[]⟩)).toArray 78)) w2.heap.size _ (secV (last (s0 :: t))).toArray 78 (0, 0) (heap_alloc_new w2 _)
    have hcv := sec_text hR Hx64.out
    clear hHeld hHeld2 hR
    have Hh4 := Lib.hid hHeld4
    clear hHeld4
    go_wp2_with fail
    go_ret2
    exact ⟨rfl, Hh4.out⟩
  · have hz := Hz.out
    go_simp
    refine hK.out _ _ (hHeld.alloc hHeld.size _) (fun hHeld => ?_)
    clear hz
    clear hK K
    refine wpAnyH_ready (rs := [13]) (by kernel_rfl) (by simp) ?_
    refine AllReadyH.cons rfl (fun K hK => ?_) AllReadyH.nil
    go_simp
    go_at_call 41
    have hl2 := last_any s0 Hs0.out (How.out _ hHeld) Hmx.out
    with_reducible refine hl2.mono ?_
    clear hl2
    rintro e w2 ⟨rfl, hb2⟩
    have hB2 := hHeld.trans (hb2.mono hHeld.size)
    have Hb2 := Lib.hid hb2
    clear hb2
    refine hK.out _ _ hB2 (fun hHeld2 => ?_)
    clear hK K
    refine wpAnyH_ready (rs := [15]) (by kernel_rfl) (by simp) ?_
    refine AllReadyH.cons rfl (fun K hK => ?_) AllReadyH.nil
    refine step_store (.tmp 7) (.tmp 27) (x := last (s0 :: t)) rfl (by rfl) (by go_simp; try with_reducible rfl) (g := w.heap.size) (by go_simp; try with_reducible rfl) Hx64.out ((Hb2.out.block w.heap.size (by simp)).trans (heap_alloc_new w _)) ?_
    refine hK.out _ _ (below_setRow hHeld2 (Nat.le_refl _) _) (fun hHeld4 => ?_)
    clear hK K
    refine wpAnyH_done (by kernel_rfl) ?_ _
    have hR := setRow_heap w2 w.heap.size _ (secV (last (s0 :: t))).toArray 78 (0, 0) ((Hb2.out.block w.heap.size (by simp)).trans (heap_alloc_new w _))
    have hcv := sec_text hR Hx64.out
    clear hHeld hHeld2 hR
    have Hh4 := Lib.hid hHeld4
    clear hHeld4
    go_wp2_with fail
    go_ret2
    exact ⟨rfl, Hh4.out⟩
end
end Go.Proofs.Ytcgplonnhginiaa
/- The landed disk: a disk is made. -/
set_option linter.unusedSimpArgs false
set_option linter.unusedVariables false
namespace Go.Proofs.Ytcgplonnhginiaa
open Go.RowKit Dsk

set_option maxRecDepth 100000 in
theorem new_no (n : Int) (w : World) (h : n < 1 ∨ 4096 < n) : Calls Try.prog 7 #[.int .i64 n] w fun e w' => e = .returned (.tuple #[.pointer none, .int .i64 2]) ∧ Below w.heap.size w w' := by
  rcases h with h | h
  · go_enter Try.func7, Try.ntmps7
    go_wp2_with fail
    go_ret2
    exact ⟨rfl, Below.refl _ _⟩
  · have h' : decide (n < 1) = false := by simp; omega
    go_enter Try.func7, Try.ntmps7
    go_wp2_with fail
    go_ret2
    exact ⟨rfl, Below.refl _ _⟩

set_option maxRecDepth 100000 in
theorem zeros (n : Nat) : madeCells (secV (fill ⟨#[]⟩)).toArray (n * 64) = (secs (List.replicate n (fill ⟨#[]⟩))).toArray := by
  have h64 : All64 (List.replicate n (fill ⟨#[]⟩)) := fun s hs => by rw [List.eq_of_mem_replicate hs]; exact fill_nil
  have hl : (secV (fill ⟨#[]⟩)).length = 64 := by rw [secV_len, fill_nil]
  apply Array.ext_getElem?
  intro i
  by_cases hi : i < n * 64
  · have e1 : (madeCells (secV (fill ⟨#[]⟩)).toArray (n * 64))[i]? = (secV (fill ⟨#[]⟩))[i % 64]? := by
      unfold madeCells
      rw [Array.getElem?_map, Array.getElem?_eq_getElem (by simpa using hi)]
      simp [hl, Nat.mod_lt]
    have hk : (List.replicate n (fill ⟨#[]⟩))[i / 64]? = some (fill ⟨#[]⟩) := by rw [List.getElem?_replicate, if_pos (by omega)]
    have e2 := secs_get h64 (i / 64) _ hk (i % 64) (by omega)
    rw [show i / 64 * 64 + i % 64 = i by omega] at e2
    rw [e1, List.getElem?_toArray, e2]
  · rw [Array.getElem?_eq_none (by rw [size_madeCells]; omega), Array.getElem?_eq_none (by rw [List.size_toArray, secs_len h64, List.length_replicate]; omega)]

set_option maxRecDepth 100000 in
theorem new_heads (n : Nat) : heads (new n).S = List.replicate n (fill ⟨#[]⟩) := by simp [heads, new, List.map_replicate]

set_option maxRecDepth 100000 in
theorem new_at (w : World) (n : Nat) (h1 : 1 ≤ n) (h2 : n ≤ 4096) :
    DAt (((w.alloc (.cells (secs (List.replicate n (fill ⟨#[]⟩))).toArray 78)).alloc (.map #[] 0)).alloc (.cells (dcells (.slice (some ⟨w.heap.size, 0, none⟩) n n) (w.heap.size + 1) (new n)) 59))
      (New w (((w.alloc (.cells (secs (List.replicate n (fill ⟨#[]⟩))).toArray 78)).alloc (.map #[] 0)).alloc (.cells (dcells (.slice (some ⟨w.heap.size, 0, none⟩) n n) (w.heap.size + 1) (new n)) 59)))
      (w.heap.size + 2) (w.heap.size + 1) (.slice (some ⟨w.heap.size, 0, none⟩) n n) 0 (.map []) (fun _ => .slice none 0 0) (new n) := by
  have h64 : All64 (List.replicate n (fill ⟨#[]⟩)) := fun s hs => by rw [List.eq_of_mem_replicate hs]; exact fill_nil
  have hone : ∀ (k : Nat) (l : List ByteArray), (new n).S[k]? = some l → l = [fill ⟨#[]⟩] := fun k l hl => List.eq_of_mem_replicate (List.mem_of_getElem? hl)
  have e1 : (w.alloc (.cells (secs (List.replicate n (fill ⟨#[]⟩))).toArray 78)).heap.size = w.heap.size + 1 := by simp
  have e2 : ((w.alloc (.cells (secs (List.replicate n (fill ⟨#[]⟩))).toArray 78)).alloc (.map #[] 0)).heap.size = w.heap.size + 2 := by simp
  generalize hw1 : w.alloc (.cells (secs (List.replicate n (fill ⟨#[]⟩))).toArray 78) = w1 at *
  have hown : OwnS w1 (.slice (some ⟨w.heap.size, 0, none⟩) n n) (List.replicate n (fill ⟨#[]⟩)) := by
    refine ⟨?_, h64⟩
    rw [List.length_replicate, ← hw1]
    have := World.ownsRow_lit (e := 78) (size := 64) (base := 0) w (secs (List.replicate n (fill ⟨#[]⟩))).toArray n (Nat.zero_le _) (by unfold maxLen; omega) (by rw [List.size_toArray, secs_len h64, List.length_replicate])
    simpa using this
  have hmap : (w1.alloc (.map #[] 0)).ownsMap Try.prog 3 rawElem (w.heap.size + 1) 0 (.map []) := by
    have := World.ownsMap_made w1 Try.prog 3 rawElem
    rw [e1] at this
    exact this
  generalize hw2 : w1.alloc (.map #[] 0) = w2 at *
  have hsz : ∀ o, (w2.alloc o).heap.size = w.heap.size + 3 := fun o => by simp [e2]
  refine
    { blk := ?_, safe := ?_, pos := ?_, few := ?_, map := hmap.alloc _, big := Nat.le_refl _, keys := (fun kl h => by cases h), has := fun k l hl => ?_, val := fun k l hl hp => ?_, full := fun l hl => ?_, all64 := fun l hl => ?_
      apart := fun j k l m g hl hp => ?_, inB := ⟨by omega, by rw [hsz]; omega⟩, inM := ⟨by omega, by rw [hsz]; omega⟩, inS := fun g hg => ?_, inP := fun k l g hl hp => ?_ }
  · have := Row.made w2 59 (dcells (.slice (some ⟨w.heap.size, 0, none⟩) n n) (w.heap.size + 1) (new n))
    rw [e2] at this
    exact this
  · rw [new_heads]
    have k1 : Kept (fun _ => False) w1 w2 := by rw [← hw2]; exact (Kept.refl _ _).alloc _
    exact (hown.kept k1 (fun _ _ h => h)).kept ((Kept.refl (fun _ => False) w2).alloc _) (fun _ _ h => h)
  · show 0 < (List.replicate n _).length
    rw [List.length_replicate]; omega
  · show (List.replicate n _).length ≤ 4096
    rw [List.length_replicate]; omega
  · rw [hone k l hl]; rfl
  · rw [hone k l hl] at hp; simp at hp
  · rw [List.eq_of_mem_replicate hl]; exact Nat.zero_lt_one
  · rw [List.eq_of_mem_replicate hl]
    intro s hs
    rw [List.mem_singleton.1 hs]; exact fill_nil
  · rw [hone j l hl] at hp; simp at hp
  · have : w.heap.size = g := by injection hg
    subst this
    exact ⟨⟨Nat.le_refl _, by rw [hsz]; omega⟩, by omega⟩
  · rw [hone k l hl] at hp; simp at hp

set_option maxRecDepth 100000 in
theorem new_ok (n : Nat) (w : World) (h1 : 1 ≤ n) (h2 : n ≤ 4096) : Calls Try.prog 7 #[.int .i64 (n : Int)] w fun e w' => ∃ v, e = .returned (.tuple #[v, .int .i64 0]) ∧ At w' (New w w') v (Dsk.new n) ∧ Below w.heap.size w w' := by
  obtain ⟨i0, hi, hz0, hz1, hz2⟩ := info_parts secInfo3
  have hat := new_at w n h1 h2
  have Hat := Lib.hid hat
  have hmk : ∀ W : World, (Instr.makeSlice 56 (.int .i64 (n : Int)) (.int .i64 (n : Int))).run Try.prog W = .ok (.slice (some ⟨W.heap.size, 0, none⟩) n n) (W.alloc (.cells (secs (List.replicate n (fill ⟨#[]⟩))).toArray 78)) := fun W => by
    have hr := run_make (P := Try.prog) W 56 78 i0 _ Try.underlying56 hi hz0 .i64 .i64 n n (by omega) (by omega) (by rw [hz2]; omega) (by omega)
    simp only [Int.toNat_natCast] at hr
    rw [hr, hz1]
    show Result.ok _ (W.alloc (.cells (madeCells (secV (fill ⟨#[]⟩)).toArray (n * 64)) _)) = _
    rw [zeros]
  have hmm := @run_makeMap Try.prog
  have b1 : decide ((n : Int) < 1) = false := by simp; omega
  have b2 : decide ((n : Int) > 4096) = false := by simp; omega
  have Hbel : Hid (∀ o1 o2 o3, Below w.heap.size w (((w.alloc o1).alloc o2).alloc o3)) := Lib.hid (fun o1 o2 o3 => (((Below.refl _ _).alloc (Nat.le_refl _) _).alloc (by simp) _).alloc (by simp; omega) _)
  clear hat hi hz0 hz1 hz2
  go_enter Try.func7, Try.ntmps7
  go_wp2_with fail
  go_ret2
  exact ⟨_, rfl, ⟨_, _, _, _, _, _, rfl, Hat.out⟩, Hbel.out _ _ _⟩
end Go.Proofs.Ytcgplonnhginiaa
