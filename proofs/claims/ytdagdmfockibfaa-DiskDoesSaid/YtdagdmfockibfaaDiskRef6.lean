/- The document's own answer of layer 3: a disk is made. -/
import Derived.Test.YtdagdmfockibfaaDiskRef5
namespace Go.Proofs.Ytdagdmfockibfaa
open Go.RowKit Dsk

theorem two_news (W : World) (o : Obj) {u : Value} {t : TypeId} {H : Nat} (h : H = W.heap.size + 1) : ∀ j x, [u][j]? = some x → ((W.alloc o).alloc (.cells #[u] t)).cell? ((⟨H, 0, none⟩ : Addr).add j) = some x := by
  subst h
  have := World.news_of_block (cs := #[u]) (t := t) (fr := (0, 0)) (heap_alloc_new (W.alloc o) (.cells #[u] t))
  simpa using this

def zeroSector : List ByteArray := [fill ⟨#[]⟩]

/-- At the head of round k. -/
structure NewAt (w : World) (k : Nat) (sv : Value) (vs : List Value) (wr : World) : Prop where
  blk : RefBlk wr w.heap.size sv (Dsk.new k)
  own : wr.ownsRow (w.heap.size + 1) 64 1 sv k vs
  inn : ∀ u ∈ vs, Cells wr (fun j => w.heap.size + 1 ≤ j ∧ j < wr.heap.size ∧ sv.ownBlock ≠ some j) u (zeroSector.map Value.string)
  bel : Below w.heap.size w wr

theorem new_next {w wr w4 : World} {k : Nat} {sv : Value} {vs : List Value} (h : NewAt w k sv vs wr) (g4 cap4 : Nat)
    (hown : w4.ownsRow (w.heap.size + 1) 64 1 (.slice (some ⟨g4, 0, none⟩) (k + 1) cap4) (k + 1) (vs ++ [.slice (some ⟨wr.heap.size, 0, none⟩) 1 1]))
    (hg : ((wr.drew.alloc (.cells #[.string (fill ⟨#[]⟩)] 9)).alloc (.cells #[.slice (some ⟨wr.heap.size, 0, none⟩) 1 1] 64)).grownBy w4 sv.ownBlock)
    (hat : sv.ownBlock = some g4 ∨ g4 = wr.heap.size + 2) (hblk : RefBlk w4 w.heap.size sv (Dsk.new k)) :
    NewAt w (k + 1) (.slice (some ⟨g4, 0, none⟩) (k + 1) cap4) (vs ++ [.slice (some ⟨wr.heap.size, 0, none⟩) 1 1]) (w4.setCell ⟨w.heap.size, 0, none⟩ (.slice (some ⟨g4, 0, none⟩) (k + 1) cap4)) := by
  have hz := h.bel.size
  have hz0 : w.heap.size < wr.heap.size := Row.inHeap h.blk
  have hX : ((wr.drew.alloc (.cells #[.string (fill ⟨#[]⟩)] 9)).alloc (.cells #[.slice (some ⟨wr.heap.size, 0, none⟩) 1 1] 64)).heap.size = wr.heap.size + 2 := by simp
  have hz4 : wr.heap.size + 2 ≤ w4.heap.size := by have := hg.size; omega
  have hrow : ∀ i, sv.ownBlock = some i → w.heap.size + 1 ≤ i ∧ i < wr.heap.size := fun i e => h.own.lt i e
  have hXb : Below wr.heap.size wr ((wr.drew.alloc (.cells #[.string (fill ⟨#[]⟩)] 9)).alloc (.cells #[.slice (some ⟨wr.heap.size, 0, none⟩) 1 1] 64)) :=
    ((Below.refl _ wr).drew.alloc (Nat.le_refl _) _).alloc (by simp) _
  have hb4 : Below w.heap.size w w4 := (h.bel.trans (hXb.mono hz)).grown hg (by omega) (fun i e => by have := hrow i e; omega)
  have hk4 : Kept (fun i => sv.ownBlock = some i) ((wr.drew.alloc (.cells #[.string (fill ⟨#[]⟩)] 9)).alloc (.cells #[.slice (some ⟨wr.heap.size, 0, none⟩) 1 1] 64)) w4 := Kept.ofGrown hg (fun i e => e)
  have hs5 : (w4.setCell ⟨w.heap.size, 0, none⟩ (.slice (some ⟨g4, 0, none⟩) (k + 1) cap4)).heap.size = w4.heap.size := by simp [World.setCell]
  have hst : Kept (fun i => i = w.heap.size) w4 (w4.setCell ⟨w.heap.size, 0, none⟩ (.slice (some ⟨g4, 0, none⟩) (k + 1) cap4)) := (Kept.refl (fun i => i = w.heap.size) w4).stored (p := ⟨w.heap.size, 0, none⟩) (Or.inl rfl) _
  refine ⟨?_, ?_, ?_, hb4.setCell (Nat.le_refl _) _⟩
  · have := Row.stored hblk 0 (.slice (some ⟨g4, 0, none⟩) (k + 1) cap4)
    exact this
  · exact hown.kept hst.grown (Or.inr (fun e => by
      injection e with e
      have e : g4 = w.heap.size := e
      have := (hown.lt g4 rfl).1
      omega))
  · intro u hu
    rw [hs5]
    rcases List.mem_append.1 hu with hu | hu
    · have c1 := (h.inn u hu).kept (Kept.ofBelow hXb (fun _ => False)) (fun _ _ h => h)
      have c2 := c1.kept hk4 (fun i hi e => hi.2.2 e)
      have c3 := c2.kept hst (fun i hi e => by have := hi.1; omega)
      refine c3.mono (fun i hi => ⟨hi.1, by omega, fun e => ?_⟩)
      have e : g4 = i := by simpa [Value.ownBlock] using e
      rcases hat with hat | hat
      · exact hi.2.2 (by rw [← e]; exact hat)
      · omega
    · rw [List.mem_singleton] at hu
      subst hu
      have c1 : Cells (wr.drew.alloc (.cells #[.string (fill ⟨#[]⟩)] 9)) (fun j => j = wr.heap.size) (.slice (some ⟨wr.heap.size, 0, none⟩) 1 1) (zeroSector.map Value.string) := new_text wr.drew _ _ rfl
      have c2 := c1.kept (Kept.ofBelow ((Below.refl _ _).alloc (Nat.le_refl _) (.cells #[.slice (some ⟨wr.heap.size, 0, none⟩) 1 1] 64)) (fun _ => False)) (fun _ _ h => h)
      have c3 := c2.kept hk4 (fun i hi e => by have := (hrow i e).2; omega)
      have c4 := c3.kept hst (fun i hi e => by omega)
      refine c4.mono (fun i hi => ⟨by omega, by omega, fun e => ?_⟩)
      have e : g4 = i := by simpa [Value.ownBlock] using e
      rcases hat with hat | hat
      · have := (hrow g4 hat).2; omega
      · omega

theorem new_done {w wr : World} {k : Nat} {sv : Value} {vs : List Value} (h : NewAt w k sv vs wr) : RefAt wr (fun j => w.heap.size ≤ j ∧ j < wr.heap.size) (.pointer (some ⟨w.heap.size, 0, none⟩)) (Dsk.new k) := by
  have hz0 : w.heap.size < wr.heap.size := Row.inHeap h.blk
  have hl : vs.length = k := by have := h.own.1; omega
  refine ⟨w.heap.size, sv, rfl, ⟨Nat.le_refl _, hz0⟩, h.blk, vs, ?_, ?_, fun i u l hu hl2 => ?_⟩
  · exact Cells.ofOwn h.own (fun i e h1 h2 => ⟨⟨by omega, h2⟩, by omega⟩)
  · show vs.length = (List.replicate k _).length
    rw [List.length_replicate, hl]
  · have hl2' : (List.replicate k zeroSector)[i]? = some l := hl2
    rw [List.getElem?_replicate] at hl2'
    split at hl2'
    · injection hl2' with e
      subst e
      exact (h.inn u (List.mem_of_getElem? hu)).mono (fun i hi => ⟨⟨by have := hi.1; omega, hi.2.1⟩, by have := hi.1; omega⟩)
    · cases hl2'

set_option linter.unusedSimpArgs false in
set_option maxRecDepth 100000 in
set_option maxHeartbeats 3200000 in
theorem ref_new (n : Nat) (hn : n ≤ 4096) (w : World) :
    Calls Try.prog 9 #[.int .i64 (n : Int)] w fun e w' => ∃ x, e = .returned x ∧ RefAt w' (fun j => w.heap.size ≤ j ∧ j < w'.heap.size) x (Dsk.new n) ∧ Below w.heap.size w w' := by
  obtain ⟨i0, hi, hz0, hz1, hz2⟩ := info_parts pieceInfo
  have h0 : NewAt w 0 (.slice none 0 0) [] (w.alloc (.cells #[.slice none 0 0, .int .i64 0, .int .i64 0, .bool false] 37)) :=
    ⟨Row.made _ _ _, World.ownsRow_nil _ _ _ _, (fun u hu => by cases hu), (Below.refl _ _).alloc (Nat.le_refl _) _⟩
  have hn' : (n : Int) ≤ 4096 := by omega
  go_enter Try.func9, Try.ntmps9
  go_wp2_with fail
  go_loopw [4] (fun i wr => ∃ k sv vs, k ≤ n ∧ i = .int .i64 (k : Int) ∧ NewAt w k sv vs wr) (fun i _ => n - (intOf i).toNat)
  case atStart => exact ⟨0, _, _, Nat.zero_le _, rfl, h0⟩
  case round =>
    obtain ⟨k, sv, vs, hk, rfl, hrel⟩ := hrel
    clear h0
    by_cases hlt : k < n
    · have Hblk := Lib.hid hrel.blk
      have Hown := Lib.hid hrel.own
      have Hbel := Lib.hid hrel.bel
      have hvl : Hid (vs.length = k) := Lib.hid (by have := hrel.own.1; omega)
      obtain ⟨svA, svn, svc, rfl⟩ : ∃ A n c, sv = .slice A n c := by
        rcases hrel.own.2 with ⟨e, _⟩ | ⟨g, cap, cur, e, _⟩
        · exact ⟨_, _, _, e⟩
        · exact ⟨_, _, _, e⟩
      have next : Hid (∀ g4 cap4 w4, _ → _ → _ → _ → _) := Lib.hid (fun g4 cap4 w4 => new_next (w4 := w4) hrel g4 cap4)
      clear hrel
      go_wp2_with fail
      refine wp_region_tail (n := 10) (S := fun w' => RefBlk w' w.heap.size (.slice svA svn svc) (Dsk.new k)) (by kernel_rfl) (by kernel_rfl) (by rfl) (Row.behindDraw Hblk.out) (fun hHeld => ?_)
      refine wpAnyH_take (i := 0) (v := ?_) rfl (by kernel_rfl) (by kernel_rfl) (by kernel_rfl) (fun _ _ _ h => h) (Or.inl ⟨by rfl, (by intro w hSw; go_simp; try with_reducible rfl)⟩) (by assumption) ?_
      simp only [Act.put, List.getElem_toArray, List.getElem_cons_zero, List.getElem_cons_succ, List.setIfInBounds_toArray, List.set_cons_zero, List.set_cons_succ]
      refine wpAnyH_take (i := 1) (v := ?_) rfl (by kernel_rfl) (by kernel_rfl) (by kernel_rfl) (fun _ _ _ h => h) (Or.inl ⟨by rfl, (by intro w hSw; go_simp; try with_reducible rfl)⟩) (by assumption) ?_
      simp only [Act.put, List.getElem_toArray, List.getElem_cons_zero, List.getElem_cons_succ, List.setIfInBounds_toArray, List.set_cons_zero, List.set_cons_succ]
      refine wpAnyH_take (i := 2) (v := ?_) rfl (by kernel_rfl) (by kernel_rfl) (by kernel_rfl) (fun _ _ _ h => h) (Or.inl ⟨by rfl, (by intro w hSw; go_simp; try with_reducible rfl)⟩) (by assumption) ?_
      simp only [Act.put, List.getElem_toArray, List.getElem_cons_zero, List.getElem_cons_succ, List.setIfInBounds_toArray, List.set_cons_zero, List.set_cons_succ]
      refine wpAnyH_take (i := 3) (v := ?_) rfl (by kernel_rfl) (by kernel_rfl) (by kernel_rfl) (fun _ _ _ h => h) (Or.inl ⟨by rfl, (by intro w hSw; go_simp; try with_reducible rfl)⟩) (by assumption) ?_
      simp only [Act.put, List.getElem_toArray, List.getElem_cons_zero, List.getElem_cons_succ, List.setIfInBounds_toArray, List.set_cons_zero, List.set_cons_succ]
      refine wpAnyH_take (i := 4) (v := ?_) rfl (by kernel_rfl) (by kernel_rfl) (by kernel_rfl) (fun _ _ _ h => h) (Or.inl ⟨by rfl, (by intro w hSw; have hc0 := hSw.facts.1; go_simp; try with_reducible rfl)⟩) (by assumption) ?_
      simp only [Act.put, List.getElem_toArray, List.getElem_cons_zero, List.getElem_cons_succ, List.setIfInBounds_toArray, List.set_cons_zero, List.set_cons_succ]
      refine wpAnyH_ready (rs := [5]) (by kernel_rfl) (by simp) ?_
      refine AllReadyH.cons rfl (fun K hK => ?_) AllReadyH.nil
      go_simp
      go_at_call 20
      refine (ref_fill ⟨#[]⟩ _ (by decide)).mono ?_
      rintro e w' ⟨rfl, rfl⟩
      refine hK.out _ _ hHeld (fun hHeld => ?_)
      clear hK K
      refine wpAnyH_ready (rs := [6]) (by kernel_rfl) (by simp) ?_
      refine AllReadyH.cons rfl (fun K hK => ?_) AllReadyH.nil
      go_simp
      refine hK.out _ _ (Row.behindNew hHeld _) (fun hHeld => ?_)
      clear hK K
      refine wpAnyH_take (i := 7) (v := ?_) rfl (by kernel_rfl) (by kernel_rfl) (by kernel_rfl) (fun _ _ _ h => h) (Or.inl ⟨by rfl, (by intro w hSw; go_simp; try with_reducible rfl)⟩) (by assumption) ?_
      simp only [Act.put, List.getElem_toArray, List.getElem_cons_zero, List.getElem_cons_succ, List.setIfInBounds_toArray, List.set_cons_zero, List.set_cons_succ]
      refine wpAnyH_ready (rs := [8]) (by kernel_rfl) (by simp) ?_
      refine AllReadyH.cons rfl (fun K hK => ?_) AllReadyH.nil
      go_simp
      refine hK.out _ _ (Row.behindNew hHeld _) (fun hHeld => ?_)
      clear hK K
      refine wpAnyH_ready (rs := [9]) (by kernel_rfl) (by simp) ?_
      refine AllReadyH.cons rfl (fun K hK => ?_) AllReadyH.nil
      refine step_append_lies _ (by rfl) _ _ 35 (by rfl) (w.heap.size + 1) 64 i0 (.agg #[.slice none 0 0]) 1 24 Try.underlying35 hi hz0 hz1 hz2 rfl (by decide) (.slice svA svn svc) k vs (by rfl) (((Hown.out).drew.alloc _).alloc _) ⟨wr.heap.size + 1, 0, none⟩ 1 1 [.slice (some ⟨wr.heap.size, 0, none⟩) 1 1] (by rfl) (by rfl) (two_news wr.drew _ (by simp)) (by simp [Value.oneCell']) (by decide) (by unfold maxLen; omega) (by omega) (by have := Hbel.out.size; simp; omega) _ rfl ?_
      intro g4 cap4 w4 hown4 hgrow4 hat4 hlt4
      have hblk4 : RefBlk w4 w.heap.size (.slice svA svn svc) (Dsk.new k) := Row.grown hHeld hgrow4 (fun e => by have := (Hown.out).lt _ e; omega)
      have hnext := next.out _ _ _ hown4 hgrow4 (hat4.imp id (fun e => by rw [e]; simp)) hblk4
      clear hown4 hgrow4 hat4 hlt4
      refine hK.out _ _ hblk4 (fun hHeld4 => ?_)
      clear hK K
      refine wpAnyH_done (by kernel_rfl) ?_ _
      refine wpAny_of_held (S := fun _ => True) _ _ _ _ ?_
      have hHeld : True := trivial
      refine wpAnyH_take (i := 10) (v := ?_) rfl (by kernel_rfl) (by kernel_rfl) (by kernel_rfl) (fun _ _ _ h => h) (Or.inl ⟨by rfl, (by intro w hSw; go_simp; try with_reducible rfl)⟩) (by assumption) ?_
      simp only [Act.put, List.getElem_toArray, List.getElem_cons_zero, List.getElem_cons_succ, List.setIfInBounds_toArray, List.set_cons_zero, List.set_cons_succ]
      refine wpAnyH_take (i := 11) (v := ?_) rfl (by kernel_rfl) (by kernel_rfl) (by kernel_rfl) (fun _ _ _ h => h) (Or.inl ⟨by rfl, (by intro w hSw; go_simp; try with_reducible rfl)⟩) (by assumption) ?_
      simp only [Act.put, List.getElem_toArray, List.getElem_cons_zero, List.getElem_cons_succ, List.setIfInBounds_toArray, List.set_cons_zero, List.set_cons_succ]
      refine wpAnyH_ready (rs := [12]) (by kernel_rfl) (by simp) ?_
      refine AllReadyH.cons rfl (fun K hK => ?_) AllReadyH.nil
      obtain ⟨c0, -, -, -, f0, -, -, -⟩ := hHeld4.facts
      go_simp
      refine hK.out _ _ trivial (fun hHeld => ?_)
      clear hK K
      refine wpAnyH_done (by kernel_rfl) ?_ _
      go_wp2_with fail
      refine ⟨⟨k + 1, _, _, by omega, rfl, hnext⟩, ?_⟩
      show n - ((k : Int) + 1).toNat < n - (k : Int).toNat
      omega
    · obtain rfl : k = n := by omega
      have hend := Lib.hid (And.intro (new_done hrel) hrel.bel)
      clear hrel
      go_wp2_with fail
      go_ret
      exact ⟨_, rfl, hend.out.1, hend.out.2⟩
end Go.Proofs.Ytdagdmfockibfaa
