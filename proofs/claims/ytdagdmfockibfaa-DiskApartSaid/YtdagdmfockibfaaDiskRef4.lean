/- The document's own answer of layer 3: all pending ones are made safe. -/
import Derived.Test.YtdagdmfockibfaaDiskRef3
import Derived.Test.YtdagdmfockibfaaRegion
namespace Go.Proofs.Ytdagdmfockibfaa
open Go.RowKit Dsk

/-- In the midst of a statement: the disk as it was, and what is new. -/
structure St (W : World) (b : Nat) (F : Nat → Prop) (sv : Value) (d : D) (w' : World) : Prop where
  blk : RefBlk w' b sv d
  pcs : PiecesAt w' F sv d.S
  bel : Below W.heap.size W w'

section
variable {W w w' : World} {b : Nat} {F : Nat → Prop} {sv : Value} {d : D}

theorem St.start (h1 : RefBlk W b sv d) (h2 : PiecesAt W F sv d.S) : St W b F sv d W := ⟨h1, h2, Below.refl _ _⟩

theorem kept_drews (w : World) (n : Nat) : Kept (fun _ => False) w (w.drewN n) := ⟨rfl, rfl, rfl, Nat.le_refl _, fun _ _ _ => rfl⟩
theorem kept_drew (w : World) : Kept (fun _ => False) w w.drew := ⟨rfl, rfl, rfl, Nat.le_refl _, fun _ _ _ => rfl⟩

theorem St.drew (h : St W b F sv d w) : St W b F sv d w.drew := ⟨Row.behindDraw h.blk, h.pcs.kept (kept_drew w) (fun _ _ h => h), h.bel.drew⟩
theorem St.drewN (h : St W b F sv d w) (n : Nat) : St W b F sv d (w.drewN n) :=
  ⟨Row.behindDraws h.blk n, h.pcs.kept (kept_drews w n) (fun _ _ h => h), ⟨h.bel.os, h.bel.tape, h.bel.output, h.bel.size, h.bel.block⟩⟩
theorem St.below (h : St W b F sv d w) (k : Below w.heap.size w w') : St W b F sv d w' :=
  ⟨Row.below h.blk k (Row.inHeap h.blk), h.pcs.kept (Kept.ofBelow k (fun _ => False)) (fun _ _ h => h), h.bel.trans (k.mono h.bel.size)⟩
theorem St.read (h : St W b F sv d w) (k : ∃ n, w' = w.drewN n) : St W b F sv d w' := by
  obtain ⟨n, rfl⟩ := k
  exact h.drewN n
theorem PiecesAt.form {w : World} {F : Nat → Prop} {v : Value} {S : List (List ByteArray)} (h : PiecesAt w F v S) : ∃ A c, v = .slice A S.length c := by
  obtain ⟨vs, ⟨A, cap, rfl, _, _⟩, hvl, _⟩ := h
  exact ⟨A, cap, by rw [hvl]⟩
theorem St.alloc (h : St W b F sv d w) (o : Obj) : St W b F sv d (w.alloc o) := h.below ((Below.refl _ _).alloc (Nat.le_refl _) o)
end

/-- One text in a row of its own. -/
theorem new_text (w : World) (F : Nat → Prop) (z : ByteArray) (hF : F w.heap.size) : Cells (w.alloc (.cells #[.string z] 9)) F (.slice (some ⟨w.heap.size, 0, none⟩) 1 1) ([z].map Value.string) :=
  ⟨some ⟨w.heap.size, 0, none⟩, 1, rfl, Nat.le_refl _, fun _ => ⟨w.heap.size, 0, rfl, hF, by simp, fun i u hu => by
    rw [Nat.zero_add, (Row.made w 9 #[.string z]).at]
    match i, hu with
    | 0, hu => simpa using hu⟩⟩

/-- The sectors behind k rounds of Flush. -/
def flushed (S : List (List ByteArray)) (k : Nat) : List (List ByteArray) := (S.take k).map (fun l => [last l]) ++ S.drop k

theorem flushed_len (S : List (List ByteArray)) (k : Nat) (h : k ≤ S.length) : (flushed S k).length = S.length := by
  unfold flushed
  rw [List.length_append, List.length_map, List.length_take, List.length_drop]; omega

theorem flushed_at {S : List (List ByteArray)} {k : Nat} {l : List ByteArray} (h : S[k]? = some l) : (flushed S k)[k]? = some l := by
  have hk := (List.getElem?_eq_some_iff.1 h).1
  unfold flushed
  rw [List.getElem?_append_right (by rw [List.length_map, List.length_take]; omega), List.length_map, List.length_take, Nat.min_eq_left (by omega), Nat.sub_self, List.getElem?_drop, Nat.add_zero]
  exact h

theorem flushed_set {S : List (List ByteArray)} {k : Nat} {l : List ByteArray} (h : S[k]? = some l) : (flushed S k).set k [last l] = flushed S (k + 1) := by
  obtain ⟨hk, he⟩ := List.getElem?_eq_some_iff.1 h
  unfold flushed
  rw [List.set_append_right _ _ (by rw [List.length_map, List.length_take]; omega), List.length_map, List.length_take, Nat.min_eq_left (by omega), Nat.sub_self, List.take_succ_eq_append_getElem hk, he, List.drop_eq_getElem_cons hk, List.map_append, List.append_assoc]
  rfl

/-- At the head of round k. -/
def FlushAt (w : World) (b : Nat) (F : Nat → Prop) (d : D) (k : Nat) (wr : World) : Prop :=
  ∃ sv, RefBlk wr b sv ⟨flushed d.S k, d.calls, d.armed, d.down⟩ ∧ PiecesAt wr (Grow F w wr) sv (flushed d.S k) ∧ w.grownBy wr (some b)

set_option linter.unusedSimpArgs false in
set_option maxRecDepth 100000 in
set_option maxHeartbeats 3200000 in
theorem ref_flush_loop {w : World} {b : Nat} {F : Nat → Prop} {sv : Value} {d : D} (h : RefBlk w b sv d) (hS : PiecesAt w F sv d.S) (hFb : ¬ F b) (hlen : d.S.length ≤ 4096) (heach : ∀ l ∈ d.S, 1 ≤ l.length ∧ l.length ≤ 1000001)
    (hc : d.calls ≤ 1000000) (ha : d.armed < 9223372036854775808) (hdn : d.down = false) (hdc : d.call.down = false) :
    Calls Try.prog 25 #[.pointer (some ⟨b, 0, none⟩)] w fun e w' => e = .returned (.int .i64 0) ∧ FlushAt w b F d.call d.S.length w' := by
  have hbw : b < w.heap.size := Row.inHeap h
  obtain ⟨-, -, -, c3, -, -, -, -⟩ := h.facts
  rw [hdn] at c3
  have hcall := ref_call h hc ha
  rw [hdc] at hcall
  have Hcall := Lib.hid hcall
  have start : Hid (∀ w1, RefBlk w1 b sv d.call → w.grownBy w1 (some b) → FlushAt w b F d.call 0 w1) := Lib.hid (fun w1 h1 h2 => by
    refine ⟨sv, ?_, ?_, h2⟩
    · show RefBlk w1 b sv ⟨flushed d.S 0, d.call.calls, d.call.armed, d.call.down⟩
      rw [show flushed d.S 0 = d.S from by simp [flushed]]
      exact h1
    · show PiecesAt w1 (Grow F w w1) sv (flushed d.S 0)
      rw [show flushed d.S 0 = d.S from by simp [flushed]]
      exact (hS.kept (Kept.ofGrown h2 (F := fun k => k = b) (fun i e => by injection e with e; exact e.symm)) (fun i hi e => hFb (e ▸ hi))).mono (fun _ h => Or.inl h))
  have hdS : d.call.S = d.S := rfl
  have HdS := Lib.hid hdS
  have Heach := Lib.hid heach
  have Hlen := Lib.hid hlen
  have hlen' : (d.S.length : Int) ≤ 4096 := by omega
  clear hcall h hS heach hdS hdn hdc hlen
  generalize d.call = dc at *
  obtain ⟨S, hS⟩ : ∃ S, S = d.S := ⟨_, rfl⟩
  rw [← hS] at HdS Heach Hlen hlen' ⊢
  clear hS
  go_enter Try.func25, Try.ntmps25
  go_wp2_with (go_at_call 36; with_reducible refine Hcall.out.mono ?_; rintro e w1 ⟨rfl, hr1, hg1⟩)
  have h0 := start.out w1 hr1 hg1
  have Hw1 := Lib.hid (And.intro hr1 hg1)
  clear hr1 hg1
  go_loopw [3] (fun i wr => ∃ k : Nat, k ≤ S.length ∧ i = .int .i64 k ∧ FlushAt w b F dc k wr) (fun i _ => S.length - (intOf i).toNat)
  case atStart => exact ⟨0, Nat.zero_le _, rfl, h0⟩
  case round =>
    obtain ⟨k, hk, rfl, sv', hrb, hrp, hrg⟩ := hrel
    clear h0
    have hfl : (flushed dc.S k).length = S.length := by rw [flushed_len _ _ (by rw [HdS.out]; exact hk), HdS.out]
    obtain ⟨svA, svc, hsv⟩ : ∃ A c, sv' = .slice A S.length c := by
      obtain ⟨vs, ⟨A, cap, e, _, _⟩, hvl, _⟩ := hrp
      exact ⟨A, cap, by rw [e, hvl, hfl]⟩
    have hc0 : wr.cell? ⟨b, 0, none⟩ = some (.slice svA S.length svc) := by rw [← hsv]; exact hrb.facts.1
    have Hsv := Lib.hid hsv
    by_cases hlt : k < S.length
    · obtain ⟨l, hl⟩ : ∃ l, S[k]? = some l := ⟨_, List.getElem?_eq_getElem hlt⟩
      obtain ⟨p1, p2⟩ := Heach.out l (List.mem_of_getElem? hl)
      obtain ⟨dk, hdk⟩ : ∃ dk : D, dk = ⟨flushed dc.S k, dc.calls, dc.armed, dc.down⟩ := ⟨_, rfl⟩
      have hkk : dk.S[k]? = some l := by rw [hdk]; exact flushed_at (by rw [HdS.out]; exact hl)
      have Hst : Hid (St wr b (Grow F w wr) sv' dk wr.drew) := Lib.hid (by rw [hdk]; exact (St.start (by exact hrb) (by exact hrp)).drew)
      have Hkk := Lib.hid hkk
      have Hl1 := Lib.hid p1
      have Hlm := Lib.hid p2
      have Hkn : Hid (k < dk.S.length) := Lib.hid (by rw [hdk]; show k < (flushed dc.S k).length; omega)
      have Hn4 : Hid (dk.S.length ≤ 4096) := Lib.hid (by rw [hdk]; show (flushed dc.S k).length ≤ 4096; have := Hlen.out; omega)
      have next : Hid (∀ w4 v4, St wr b (Grow F w wr) sv' dk w4 → PiecesAt w4 (Grow (Grow F w wr) wr w4) v4 (dk.S.set k [last l]) → FlushAt w b F dc (k + 1) (w4.setCell ⟨b, 0, none⟩ v4)) := Lib.hid (fun w4 v4 h1 h2 => by
        have hs := hrg.size
        have hz4 := h1.bel.size
        have e : dk.S.set k [last l] = flushed dc.S (k + 1) := by rw [hdk]; exact flushed_set (by rw [HdS.out]; exact hl)
        rw [e] at h2
        have h3 := Row.stored h1.blk 0 v4
        refine ⟨v4, ?_, ?_, ?_⟩
        · rw [hdk] at h3; exact h3
        · refine (h2.kept (G := fun k => k = b) ((Kept.refl (fun k => k = b) w4).stored (p := ⟨b, 0, none⟩) (Or.inl rfl) v4) (fun i hi e => ?_)).mono (fun i hi => ?_)
          · subst e
            rcases hi with (hi | hi) | hi
            · exact hFb hi
            · omega
            · omega
          · have := Grow.trans hi hs hz4
            exact this.within (by simp [World.setCell])
        · exact gb_store (gb_trans hrg (gb_below h1.bel _)) 0 v4)
      rw [hsv] at Hst
      clear hl p1 p2 hdk hkk hrb hrp hfl hrg hsv
      go_wp2_with fail
      refine wp_region_tail (n := 12) (S := St wr b (Grow F w wr) (.slice svA S.length svc) dk) (by kernel_rfl) (by kernel_rfl) (by rfl) (Hst.out) (fun hHeld => ?_)
      refine wpAnyH_take (i := 0) (v := ?_) rfl (by kernel_rfl) (by kernel_rfl) (by kernel_rfl) (fun _ _ _ h => h) (Or.inl ⟨by rfl, (by intro w hSw; go_simp; try with_reducible rfl)⟩) (by assumption) ?_
      simp only [Act.put, List.getElem_toArray, List.getElem_cons_zero, List.getElem_cons_succ, List.setIfInBounds_toArray, List.set_cons_zero, List.set_cons_succ]
      refine wpAnyH_take (i := 1) (v := ?_) rfl (by kernel_rfl) (by kernel_rfl) (by kernel_rfl) (fun _ _ _ h => h) (Or.inl ⟨by rfl, (by intro w hSw; go_simp; try with_reducible rfl)⟩) (by assumption) ?_
      simp only [Act.put, List.getElem_toArray, List.getElem_cons_zero, List.getElem_cons_succ, List.setIfInBounds_toArray, List.set_cons_zero, List.set_cons_succ]
      refine wpAnyH_take (i := 2) (v := ?_) rfl (by kernel_rfl) (by kernel_rfl) (by kernel_rfl) (fun _ _ _ h => h) (Or.inl ⟨by rfl, (by intro w hSw; go_simp; try with_reducible rfl)⟩) (by assumption) ?_
      simp only [Act.put, List.getElem_toArray, List.getElem_cons_zero, List.getElem_cons_succ, List.setIfInBounds_toArray, List.set_cons_zero, List.set_cons_succ]
      refine wpAnyH_take (i := 3) (v := ?_) rfl (by kernel_rfl) (by kernel_rfl) (by kernel_rfl) (fun _ _ _ h => h) (Or.inl ⟨by rfl, (by intro w hSw; go_simp; try with_reducible rfl)⟩) (by assumption) ?_
      simp only [Act.put, List.getElem_toArray, List.getElem_cons_zero, List.getElem_cons_succ, List.setIfInBounds_toArray, List.set_cons_zero, List.set_cons_succ]
      refine wpAnyH_take (i := 4) (v := ?_) rfl (by kernel_rfl) (by kernel_rfl) (by kernel_rfl) (fun _ _ _ h => h) (Or.inl ⟨by rfl, (by intro w hSw; have hc0 := hSw.blk.facts.1; go_simp; try with_reducible rfl)⟩) (by assumption) ?_
      simp only [Act.put, List.getElem_toArray, List.getElem_cons_zero, List.getElem_cons_succ, List.setIfInBounds_toArray, List.set_cons_zero, List.set_cons_succ]
      refine wpAnyH_take (i := 5) (v := ?_) rfl (by kernel_rfl) (by kernel_rfl) (by kernel_rfl) (fun _ _ _ h => h) (Or.inl ⟨by rfl, (by intro w hSw; go_simp; try with_reducible rfl)⟩) (by assumption) ?_
      simp only [Act.put, List.getElem_toArray, List.getElem_cons_zero, List.getElem_cons_succ, List.setIfInBounds_toArray, List.set_cons_zero, List.set_cons_succ]
      refine wpAnyH_take (i := 6) (v := ?_) rfl (by kernel_rfl) (by kernel_rfl) (by kernel_rfl) (fun _ _ _ h => h) (Or.inl ⟨by rfl, (by intro w hSw; go_simp; try with_reducible rfl)⟩) (by assumption) ?_
      simp only [Act.put, List.getElem_toArray, List.getElem_cons_zero, List.getElem_cons_succ, List.setIfInBounds_toArray, List.set_cons_zero, List.set_cons_succ]
      refine wpAnyH_take (i := 7) (v := ?_) rfl (by kernel_rfl) (by kernel_rfl) (by kernel_rfl) (fun _ _ _ h => h) (Or.inl ⟨by rfl, (by intro w hSw; go_simp; try with_reducible rfl)⟩) (by assumption) ?_
      simp only [Act.put, List.getElem_toArray, List.getElem_cons_zero, List.getElem_cons_succ, List.setIfInBounds_toArray, List.set_cons_zero, List.set_cons_succ]
      refine wpAnyH_ready (rs := [8]) (by kernel_rfl) (by simp) ?_
      refine AllReadyH.cons rfl (fun K hK => ?_) AllReadyH.nil
      go_simp
      go_at_call 19
      refine (ref_read hHeld.blk hHeld.pcs Hkk.out Hl1.out Hlm.out).mono ?_
      rintro e w3 ⟨rfl, hn3⟩
      have hHeld3 := hHeld.read hn3
      clear hn3
      refine hK.out _ _ hHeld3 (fun hHeld => ?_)
      clear hK K
      refine wpAnyH_ready (rs := [9]) (by kernel_rfl) (by simp) ?_
      refine AllReadyH.cons rfl (fun K hK => ?_) AllReadyH.nil
      go_simp
      refine hK.out _ _ (hHeld.alloc _) (fun hHeld => ?_)
      clear hK K
      refine wpAnyH_take (i := 10) (v := ?_) rfl (by kernel_rfl) (by kernel_rfl) (by kernel_rfl) (fun _ _ _ h => h) (Or.inl ⟨by rfl, (by intro w hSw; go_simp; try with_reducible rfl)⟩) (by assumption) ?_
      simp only [Act.put, List.getElem_toArray, List.getElem_cons_zero, List.getElem_cons_succ, List.setIfInBounds_toArray, List.set_cons_zero, List.set_cons_succ]
      refine wpAnyH_ready (rs := [11]) (by kernel_rfl) (by simp) ?_
      refine AllReadyH.cons rfl (fun K hK => ?_) AllReadyH.nil
      go_simp
      go_at_call 30
      have hcn := new_text w3 (Grow (Grow F w wr) wr (w3.alloc (.cells #[.string (last l)] 9))) (last l) (Or.inr ⟨hHeld3.bel.size, by simp⟩)
      refine (ref_set (hHeld.pcs.mono (fun _ h => Grow.old h)) (p := [last l]) hcn Hkn.out Hn4.out).mono ?_
      rintro e w4 ⟨v4, rfl, hp4, hb4⟩
      obtain ⟨vA, vc, rfl⟩ := hp4.form
      have hp5 := hp4.mono (fun k hk => Grow.trans hk (Nat.le_trans hHeld3.bel.size (by simp)) hb4.size)
      have Hp4 := Lib.hid hp5
      clear hcn hp4 hp5
      refine hK.out _ _ (hHeld.below hb4) (fun hHeld4 => ?_)
      clear hK K
      refine wpAnyH_done (by kernel_rfl) ?_ _
      refine wpAny_of_held (S := fun _ => True) _ _ _ _ ?_
      have hHeld : True := trivial
      refine wpAnyH_take (i := 12) (v := ?_) rfl (by kernel_rfl) (by kernel_rfl) (by kernel_rfl) (fun _ _ _ h => h) (Or.inl ⟨by rfl, (by intro w hSw; go_simp; try with_reducible rfl)⟩) (by assumption) ?_
      simp only [Act.put, List.getElem_toArray, List.getElem_cons_zero, List.getElem_cons_succ, List.setIfInBounds_toArray, List.set_cons_zero, List.set_cons_succ]
      refine wpAnyH_take (i := 13) (v := ?_) rfl (by kernel_rfl) (by kernel_rfl) (by kernel_rfl) (fun _ _ _ h => h) (Or.inl ⟨by rfl, (by intro w hSw; go_simp; try with_reducible rfl)⟩) (by assumption) ?_
      simp only [Act.put, List.getElem_toArray, List.getElem_cons_zero, List.getElem_cons_succ, List.setIfInBounds_toArray, List.set_cons_zero, List.set_cons_succ]
      refine wpAnyH_ready (rs := [14]) (by kernel_rfl) (by simp) ?_
      refine AllReadyH.cons rfl (fun K hK => ?_) AllReadyH.nil
      obtain ⟨c0, -, -, -, f0, -, -, -⟩ := hHeld4.blk.facts
      go_simp
      refine hK.out _ _ trivial (fun hHeld => ?_)
      clear hK K
      refine wpAnyH_done (by kernel_rfl) ?_ _
      go_wp2_with fail
      rw [List.length_set] at *
      refine ⟨⟨k + 1, by omega, rfl, next.out w4 _ (by rw [Hsv.out]; exact hHeld4) Hp4.out⟩, ?_⟩
      show S.length - ((k : Int) + 1).toNat < S.length - (k : Int).toNat
      omega
    · obtain rfl : k = S.length := by omega
      have hend : Hid (FlushAt w b F dc S.length wr) := Lib.hid ⟨sv', hrb, hrp, hrg⟩
      clear hrb hrp hrg hfl hsv
      go_wp2_with fail
      go_ret
      exact ⟨rfl, hend.out⟩
end Go.Proofs.Ytdagdmfockibfaa
