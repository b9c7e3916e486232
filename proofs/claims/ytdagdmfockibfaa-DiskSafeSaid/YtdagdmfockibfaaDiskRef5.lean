/- The document's own answer of layer 3: a sector is written. -/
import Derived.Test.YtdagdmfockibfaaDiskRef4
namespace Go.Proofs.Ytdagdmfockibfaa
open Go.RowKit Dsk

/-- Texts are appended to a row of the call's own, in a region that draws its order. -/
theorem step_append_texts {ops : Array Oper} {o : Oper} {a : Act} {W : World} {K : Act → World → Prop} {Q : Exit → Act → World → Prop} {E : Prop} (hgd : o.guard = none) (s x : Operand)
    (ho : o.op = .call { callee := .builtin .append, args := #[s, x], argTypes := #[62, 62] })
    (base : Nat) (v : Value) (n : Nat) (xs : List Value) (hs : a.eval s = v) (hown : W.ownsRow base 9 1 v n xs) (ad : Addr) (m c : Nat) (news : List ByteArray)
    (hx : a.eval x = .slice (some ad) m c) (hl : news.length = m) (hcells : ∀ j u, (news.map Value.string)[j]? = some u → W.cell? (ad.add j) = some u) (hm : 0 < m) (hb : n + m ≤ 2000000) (hbase : base ≤ W.heap.size)
    (h : ∀ g cap w', w'.ownsRow base 9 1 (.slice (some ⟨g, 0, none⟩) (n + m) cap) (n + m) (xs ++ news.map Value.string) → W.grownBy w' v.ownBlock → K (a.put o.dst (.slice (some ⟨g, 0, none⟩) (n + m) cap)) w') :
    if Region.wanted o (yielded ops a.tmps) = true then Oper.wp Try.prog o a W K Q else E := by
  obtain ⟨i0, hi, hz0, hz1, hz2⟩ := info_parts stringInfo
  refine step_append_lies _ hgd s x _ ho base 9 i0 (.string ⟨#[]⟩) 1 16 Try.underlying62 hi hz0 hz1 hz2 rfl (by decide) v n xs hs hown ad m c (news.map Value.string) hx (by simp [hl]) hcells (fun u hu => ?_) hm (by unfold maxLen; omega) (by omega) hbase _ rfl ?_
  · obtain ⟨t, _, rfl⟩ := List.mem_map.1 hu
    rfl
  · intro g cap w' h1 h2 _ _
    exact h g cap w' h1 h2

theorem own_start (w : World) (base : Nat) (h : base ≤ w.heap.size) : (w.alloc (.cells #[] 9)).ownsRow base 9 1 (.slice (some ⟨w.heap.size, 0, none⟩) 0 0) 0 [] :=
  World.ownsRow_made (base := base) (e := 9) (size := 1) w #[] 0 h (by decide) (by simp)

theorem St.later {W w w' : World} {b : Nat} {F : Nat → Prop} {sv : Value} {d : D} (h : St W b F sv d w) (hF : ∀ k, F k → k < W.heap.size) (hb : b < W.heap.size) (k : Below W.heap.size w w') : St W b F sv d w' :=
  ⟨Row.below h.blk k hb, h.pcs.kept (G := fun i => W.heap.size ≤ i) ⟨k.os, k.tape, k.output, k.size, fun i _ hn => k.block i (Nat.lt_of_not_le hn)⟩ (fun i hi => Nat.not_le.2 (hF i hi)), h.bel.trans k⟩

set_option linter.unusedSimpArgs false in
set_option maxRecDepth 100000 in
set_option maxHeartbeats 3200000 in
theorem ref_write_ok {w : World} {b : Nat} {F : Nat → Prop} {sv : Value} {d : D} {k : Nat} {l : List ByteArray} {s : ByteArray} (h : RefBlk w b sv d) (hS : PiecesAt w F sv d.S) (hFb : ¬ F b) (hFl : ∀ k, F k → k < w.heap.size) (hlen : d.S.length ≤ 4096)
    (hl : d.S[k]? = some l) (h1 : 1 ≤ l.length) (h2 : l.length ≤ 1000001) (hs : s.size ≤ 64) (hc : d.calls ≤ 1000000) (ha : d.armed < 9223372036854775808) (hdn : d.down = false) (hdc : d.call.down = false) :
    Calls Try.prog 27 #[.pointer (some ⟨b, 0, none⟩), .int .i64 (k : Int), .string s] w fun e w' => e = .returned (.int .i64 0) ∧ ∃ v, RefBlk w' b v d.call ∧ PiecesAt w' (Grow F w w') v (d.S.set k (l ++ [fill s])) ∧ w.grownBy w' (some b) := by
  have hbw : b < w.heap.size := Row.inHeap h
  obtain ⟨svA, svc, rfl⟩ := hS.form
  obtain ⟨c0, -, -, c3, -, -, -, -⟩ := h.facts
  rw [hdn] at c3
  have hcall := ref_call h hc ha
  rw [hdc] at hcall
  have Hcall := Lib.hid hcall
  have hkl : k < d.S.length := (List.getElem?_eq_some_iff.1 hl).1
  have hk0 : (0 : Int) ≤ (k : Int) := by omega
  have hk1 : (k : Int) < (d.S.length : Int) := by omega
  have hs64 : (s.size : Int) ≤ 64 := by omega
  have HS := Lib.hid hS
  have Hl := Lib.hid hl
  have Hl1 := Lib.hid h1
  have Hlm2 : Hid (0 + l.length ≤ 2000000) := Lib.hid (by omega)
  have Hlm3 : Hid (l.length + 1 ≤ 2000000) := Lib.hid (by omega)
  have Hs64 := Lib.hid hs
  have Hlen := Lib.hid hlen
  clear hcall h hS hdn hdc hlen hl h1 h2 hs hc ha
  obtain ⟨d1, hd1⟩ : ∃ d1, d1 = d.call := ⟨_, rfl⟩
  rw [← hd1] at Hcall ⊢
  have hdS : d1.S = d.S := by rw [hd1]; rfl
  have HdS := Lib.hid hdS
  clear hd1 hdS
  go_enter Try.func27, Try.ntmps27
  go_wp2_with (go_at_call 36; with_reducible refine Hcall.out.mono ?_; rintro e w1 ⟨rfl, hr1, hg1⟩)
  have hp1 := (HS.out.kept (Kept.ofGrown hg1 (F := fun k => k = b) (fun i e => by injection e with e; exact e.symm)) (fun i hi e => hFb (e ▸ hi)))
  have hz1 := hg1.size
  have HFl : Hid (∀ k, F k → k < w1.heap.size) := Lib.hid (fun k hk => Nat.lt_of_lt_of_le (hFl k hk) hz1)
  obtain ⟨b1, o1, cap1, b2, o2, cap2, e1, -, hcap1, hcs, hcap2, hF2, hb2, hb1, ht⟩ := hp1.sector Hl.out Hl1.out
  injection e1 with e1 e2 e3
  subst e1 e3
  have Hst : Hid (St w1 b F (.slice (some ⟨b1, o1, none⟩) d.S.length svc) d1 w1.drew) := Lib.hid (St.start hr1 (by rw [HdS.out]; exact hp1)).drew
  have Hcell : Hid (∀ j u, (l.map Value.string)[j]? = some u → w1.cell? ⟨b2, o2 + j, none⟩ = some u) := Lib.hid (fun j u hu => by
    rw [List.getElem?_map] at hu
    cases hlj : l[j]? with
    | none => rw [hlj] at hu; simp at hu
    | some t => rw [hlj] at hu; simp at hu; rw [← hu]; exact ht j t hlj)
  have Hkn : Hid (k < d1.S.length) := Lib.hid (by rw [HdS.out]; exact hkl)
  have Hn4 : Hid (d1.S.length ≤ 4096) := Lib.hid (by rw [HdS.out]; exact Hlen.out)
  have hbw : b < w1.heap.size := Row.inHeap hr1
  have fin : Hid (∀ w5 v5, St w1 b F (.slice (some ⟨b1, o1, none⟩) d.S.length svc) d1 w5 → PiecesAt w5 (Grow F w1 w5) v5 (d1.S.set k (l ++ [fill s])) →
      ∃ v, RefBlk (w5.setCell ⟨b, 0, none⟩ v5) b v d1 ∧ PiecesAt (w5.setCell ⟨b, 0, none⟩ v5) (Grow F w (w5.setCell ⟨b, 0, none⟩ v5)) v (d.S.set k (l ++ [fill s])) ∧ w.grownBy (w5.setCell ⟨b, 0, none⟩ v5) (some b)) := Lib.hid (fun w5 v5 h1 h2 => by
    rw [HdS.out] at h2
    refine ⟨v5, Row.stored h1.blk 0 v5, ?_, gb_store (gb_trans hg1 (gb_below h1.bel _)) 0 v5⟩
    refine (h2.kept (G := fun k => k = b) ((Kept.refl (fun k => k = b) w5).stored (p := ⟨b, 0, none⟩) (Or.inl rfl) v5) (fun i hi e => ?_)).mono (fun i hi => ?_)
    · subst e
      rcases hi with hi | hi
      · exact hFb hi
      · omega
    · exact (hi.later hz1).within (by simp [World.setCell]))
  clear hr1 hg1 hp1 ht HS c0 c3
  go_wp2_with fail
  refine wp_region_tail (n := 22) (S := St w1 b F (.slice (some ⟨b1, o1, none⟩) d.S.length svc) d1) (by kernel_rfl) (by kernel_rfl) (by rfl) (Hst.out) (fun hHeld => ?_)
  refine wpAnyH_take (i := 0) (v := ?_) rfl (by kernel_rfl) (by kernel_rfl) (by kernel_rfl) (fun _ _ _ h => h) (Or.inl ⟨by rfl, (by intro w hSw; go_simp; try with_reducible rfl)⟩) (by assumption) ?_
  simp only [Act.put, List.getElem_toArray, List.getElem_cons_zero, List.getElem_cons_succ, List.setIfInBounds_toArray, List.set_cons_zero, List.set_cons_succ]
  refine wpAnyH_take (i := 1) (v := ?_) rfl (by kernel_rfl) (by kernel_rfl) (by kernel_rfl) (fun _ _ _ h => h) (Or.inl ⟨by rfl, (by intro w hSw; go_simp; try with_reducible rfl)⟩) (by assumption) ?_
  simp only [Act.put, List.getElem_toArray, List.getElem_cons_zero, List.getElem_cons_succ, List.setIfInBounds_toArray, List.set_cons_zero, List.set_cons_succ]
  refine wpAnyH_take (i := 2) (v := ?_) rfl (by kernel_rfl) (by kernel_rfl) (by kernel_rfl) (fun _ _ _ h => h) (Or.inl ⟨by rfl, (by intro w hSw; go_simp; try with_reducible rfl)⟩) (by assumption) ?_
  simp only [Act.put, List.getElem_toArray, List.getElem_cons_zero, List.getElem_cons_succ, List.setIfInBounds_toArray, List.set_cons_zero, List.set_cons_succ]
  refine wpAnyH_take (i := 3) (v := ?_) rfl (by kernel_rfl) (by kernel_rfl) (by kernel_rfl) (fun _ _ _ h => h) (Or.inl ⟨by rfl, (by intro w hSw; go_simp; try with_reducible rfl)⟩) (by assumption) ?_
  simp only [Act.put, List.getElem_toArray, List.getElem_cons_zero, List.getElem_cons_succ, List.setIfInBounds_toArray, List.set_cons_zero, List.set_cons_succ]
  refine wpAnyH_take (i := 4) (v := ?_) rfl (by kernel_rfl) (by kernel_rfl) (by kernel_rfl) (fun _ _ _ h => h) (Or.inl ⟨by rfl, (by intro w hSw; have hc0 := hSw.blk.facts.1; go_simp; try with_reducible rfl)⟩) (by assumption) ?_
  simp only [Act.put, List.getElem_toArray, List.getElem_cons_zero, List.getElem_cons_succ, List.setIfInBounds_toArray, List.set_cons_zero, List.set_cons_succ]
  refine wpAnyH_take (i := 5) (v := ?_) rfl (by kernel_rfl) (by kernel_rfl) (by kernel_rfl) (fun _ _ _ h => h) (Or.inl ⟨by rfl, (by intro w hSw; go_simp; try with_reducible rfl)⟩) (by assumption) ?_
  simp only [Act.put, List.getElem_toArray, List.getElem_cons_zero, List.getElem_cons_succ, List.setIfInBounds_toArray, List.set_cons_zero, List.set_cons_succ]
  refine wpAnyH_take (i := 7) (v := ?_) rfl (by kernel_rfl) (by kernel_rfl) (by kernel_rfl) (fun _ _ _ h => h) (Or.inl ⟨by rfl, (by intro w hSw; go_simp; try with_reducible rfl)⟩) (by assumption) ?_
  simp only [Act.put, List.getElem_toArray, List.getElem_cons_zero, List.getElem_cons_succ, List.setIfInBounds_toArray, List.set_cons_zero, List.set_cons_succ]
  refine wpAnyH_take (i := 8) (v := ?_) rfl (by kernel_rfl) (by kernel_rfl) (by kernel_rfl) (fun _ _ _ h => h) (Or.inl ⟨by rfl, (by intro w hSw; go_simp; try with_reducible rfl)⟩) (by assumption) ?_
  simp only [Act.put, List.getElem_toArray, List.getElem_cons_zero, List.getElem_cons_succ, List.setIfInBounds_toArray, List.set_cons_zero, List.set_cons_succ]
  refine wpAnyH_take (i := 9) (v := ?_) rfl (by kernel_rfl) (by kernel_rfl) (by kernel_rfl) (fun _ _ _ h => h) (Or.inl ⟨by rfl, (by intro w hSw; go_simp; try with_reducible rfl)⟩) (by assumption) ?_
  simp only [Act.put, List.getElem_toArray, List.getElem_cons_zero, List.getElem_cons_succ, List.setIfInBounds_toArray, List.set_cons_zero, List.set_cons_succ]
  refine wpAnyH_take (i := 10) (v := ?_) rfl (by kernel_rfl) (by kernel_rfl) (by kernel_rfl) (fun _ _ _ h => h) (Or.inl ⟨by rfl, (by intro w hSw; have hc0 := hSw.blk.facts.1; go_simp; try with_reducible rfl)⟩) (by assumption) ?_
  simp only [Act.put, List.getElem_toArray, List.getElem_cons_zero, List.getElem_cons_succ, List.setIfInBounds_toArray, List.set_cons_zero, List.set_cons_succ]
  refine wpAnyH_take (i := 11) (v := ?_) rfl (by kernel_rfl) (by kernel_rfl) (by kernel_rfl) (fun _ _ _ h => h) (Or.inl ⟨by rfl, (by intro w hSw; go_simp; try with_reducible rfl)⟩) (by assumption) ?_
  simp only [Act.put, List.getElem_toArray, List.getElem_cons_zero, List.getElem_cons_succ, List.setIfInBounds_toArray, List.set_cons_zero, List.set_cons_succ]
  refine wpAnyH_take (i := 12) (v := ?_) rfl (by kernel_rfl) (by kernel_rfl) (by kernel_rfl) (fun _ _ _ h => h) (Or.inl ⟨by rfl, (by intro w hSw; go_simp; try with_reducible rfl)⟩) (by assumption) ?_
  simp only [Act.put, List.getElem_toArray, List.getElem_cons_zero, List.getElem_cons_succ, List.setIfInBounds_toArray, List.set_cons_zero, List.set_cons_succ]
  refine wpAnyH_take (i := 13) (v := ?_) rfl (by kernel_rfl) (by kernel_rfl) (by kernel_rfl) (fun _ _ _ h => h) (Or.inl ⟨by rfl, (by intro w hSw; go_simp; try with_reducible rfl)⟩) (by assumption) ?_
  simp only [Act.put, List.getElem_toArray, List.getElem_cons_zero, List.getElem_cons_succ, List.setIfInBounds_toArray, List.set_cons_zero, List.set_cons_succ]
  refine wpAnyH_take (i := 14) (v := ?_) rfl (by kernel_rfl) (by kernel_rfl) (by kernel_rfl) (fun _ _ _ h => h) (Or.inl ⟨by rfl, (by intro w hSw; have hc1 := (hSw.bel.cell (p := ⟨b1, o1 + k, none⟩) hb1).trans hcs; go_simp; try with_reducible rfl)⟩) (by assumption) ?_
  simp only [Act.put, List.getElem_toArray, List.getElem_cons_zero, List.getElem_cons_succ, List.setIfInBounds_toArray, List.set_cons_zero, List.set_cons_succ]
  refine wpAnyH_take (i := 16) (v := ?_) rfl (by kernel_rfl) (by kernel_rfl) (by kernel_rfl) (fun _ _ _ h => h) (Or.inl ⟨by rfl, (by intro w hSw; go_simp; try with_reducible rfl)⟩) (by assumption) ?_
  simp only [Act.put, List.getElem_toArray, List.getElem_cons_zero, List.getElem_cons_succ, List.setIfInBounds_toArray, List.set_cons_zero, List.set_cons_succ]
  refine wpAnyH_ready (rs := [6]) (by kernel_rfl) (by simp) ?_
  refine AllReadyH.cons rfl (fun K hK => ?_) AllReadyH.nil
  go_simp
  refine hK.out _ _ (hHeld.alloc _) (fun hHeld => ?_)
  clear hK K
  refine wpAnyH_ready (rs := [15]) (by kernel_rfl) (by simp) ?_
  refine AllReadyH.cons rfl (fun K hK => ?_) AllReadyH.nil
  have hHA := hHeld
  refine step_append_texts (by rfl) _ _ (by rfl) w1.heap.size _ 0 [] (by rfl) (own_start w1.drew w1.heap.size (Nat.le_refl _)) ⟨b2, o2, none⟩ l.length cap2 l (by rfl) rfl (fun j u hu => ?_) Hl1.out Hlm2.out (by simp) ?_
  · rw [Go.WideShapes.add_plain, hHeld.bel.cell (p := ⟨b2, o2 + j, none⟩) hb2]; exact Hcell.out j u hu
  intro g3 cap3 w3 hown3 hgrow3
  have hHeld3 := hHeld.later HFl.out hbw (Below.grown (Below.refl _ _) hgrow3 (by simp) (fun k e => by simp [Value.ownBlock] at e; omega))
  simp only [Nat.zero_add, List.nil_append] at hown3
  have hown3 := Lib.hid hown3
  clear hgrow3 hHA
  refine hK.out _ _ hHeld3 (fun hHeld => ?_)
  clear hK K
  refine wpAnyH_ready (rs := [17]) (by kernel_rfl) (by simp) ?_
  refine AllReadyH.cons rfl (fun K hK => ?_) AllReadyH.nil
  go_simp
  go_at_call 20
  refine (ref_fill s _ Hs64.out).mono ?_
  rintro e w' ⟨rfl, rfl⟩
  refine hK.out _ _ hHeld (fun hHeld => ?_)
  clear hK K
  refine wpAnyH_ready (rs := [18]) (by kernel_rfl) (by simp) ?_
  refine AllReadyH.cons rfl (fun K hK => ?_) AllReadyH.nil
  go_simp
  refine hK.out _ _ (hHeld.alloc _) (fun hHeld => ?_)
  clear hK K
  refine wpAnyH_ready (rs := [19]) (by kernel_rfl) (by simp) ?_
  refine AllReadyH.cons rfl (fun K hK => ?_) AllReadyH.nil
  refine step_append_texts (by rfl) _ _ (by rfl) w1.heap.size _ l.length (l.map Value.string) (by rfl) (hown3.out.alloc _) ⟨w3.heap.size, 0, none⟩ 1 1 [fill s] (by rfl) rfl (World.news_of_block (cs := #[.string (fill s)]) (t := 9) (fr := (0, 0)) (heap_alloc_new w3 _)) (by omega) Hlm3.out (by have := hHeld3.bel.size; simp; omega) ?_
  intro g4 cap4 w4 hown4 hgrow4
  have hHeld4 := hHeld.later HFl.out hbw (Below.grown (Below.refl _ _) hgrow4 (by have := hHeld3.bel.size; simp; omega) (fun k e => (hown3.out.lt k e).1))
  have hown4 := Lib.hid hown4
  clear hgrow4
  refine hK.out _ _ hHeld4 (fun hHeld => ?_)
  clear hK K
  refine wpAnyH_take (i := 20) (v := ?_) rfl (by kernel_rfl) (by kernel_rfl) (by kernel_rfl) (fun _ _ _ h => h) (Or.inl ⟨by rfl, (by intro w hSw; go_simp; try with_reducible rfl)⟩) (by assumption) ?_
  simp only [Act.put, List.getElem_toArray, List.getElem_cons_zero, List.getElem_cons_succ, List.setIfInBounds_toArray, List.set_cons_zero, List.set_cons_succ]
  refine wpAnyH_ready (rs := [21]) (by kernel_rfl) (by simp) ?_
  refine AllReadyH.cons rfl (fun K hK => ?_) AllReadyH.nil
  go_simp
  go_at_call 30
  have hcn : Cells w4 (Grow F w1 w4) (.slice (some ⟨g4, 0, none⟩) (l.length + 1) cap4) ((l ++ [fill s]).map Value.string) := by
    rw [List.map_append]; exact Cells.ofOwn hown4.out (fun b e h1 h2 => Or.inr ⟨h1, h2⟩)
  refine (ref_set (hHeld.pcs.mono (fun _ h => Grow.old h)) (p := l ++ [fill s]) hcn Hkn.out Hn4.out).mono ?_
  rintro e w5 ⟨v5, rfl, hp5, hb5⟩
  obtain ⟨vA, vc, rfl⟩ := hp5.form
  have hp6 := hp5.mono (fun k hk => Grow.trans hk hHeld4.bel.size hb5.size)
  have Hp5 := Lib.hid hp6
  clear hcn hp5 hp6
  refine hK.out _ _ (hHeld.below hb5) (fun hHeld5 => ?_)
  clear hK K
  refine wpAnyH_done (by kernel_rfl) ?_ _
  refine wpAny_of_held (S := fun _ => True) _ _ _ _ ?_
  have hHeld : True := trivial
  refine wpAnyH_take (i := 22) (v := ?_) rfl (by kernel_rfl) (by kernel_rfl) (by kernel_rfl) (fun _ _ _ h => h) (Or.inl ⟨by rfl, (by intro w hSw; go_simp; try with_reducible rfl)⟩) (by assumption) ?_
  simp only [Act.put, List.getElem_toArray, List.getElem_cons_zero, List.getElem_cons_succ, List.setIfInBounds_toArray, List.set_cons_zero, List.set_cons_succ]
  refine wpAnyH_take (i := 23) (v := ?_) rfl (by kernel_rfl) (by kernel_rfl) (by kernel_rfl) (fun _ _ _ h => h) (Or.inl ⟨by rfl, (by intro w hSw; go_simp; try with_reducible rfl)⟩) (by assumption) ?_
  simp only [Act.put, List.getElem_toArray, List.getElem_cons_zero, List.getElem_cons_succ, List.setIfInBounds_toArray, List.set_cons_zero, List.set_cons_succ]
  refine wpAnyH_ready (rs := [24]) (by kernel_rfl) (by simp) ?_
  refine AllReadyH.cons rfl (fun K hK => ?_) AllReadyH.nil
  obtain ⟨c0, -, -, -, f0, -, -, -⟩ := hHeld5.blk.facts
  go_simp
  refine hK.out _ _ trivial (fun hHeld => ?_)
  clear hK K
  refine wpAnyH_done (by kernel_rfl) ?_ _
  go_wp2_with fail
  have hf := fin.out _ _ hHeld5 Hp5.out
  rw [List.length_set] at hf
  clear hHeld5 Hp5 fin
  go_ret
  exact ⟨rfl, hf⟩
end Go.Proofs.Ytdagdmfockibfaa
