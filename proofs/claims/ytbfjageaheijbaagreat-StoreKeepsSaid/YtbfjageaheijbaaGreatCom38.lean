/- The landed store: the journal has changes, or the values behind them. -/
import Derived.Test.YtbfjageaheijbaaGreatCom37
import Derived.StillTailTactics
set_option linter.unusedSimpArgs false
set_option linter.unusedVariables false
namespace Go.Proofs.YtbfjageaheijbaaGreat
open Go.RowKit Dsk Jnl

set_option maxRecDepth 100000 in
/-- A journal's call behind what turned nothing of it. -/
theorem jat_under {w w1 : World} {F : Nat → Prop} {dv jv : Value} {n : Nat} {d : D} {j : J} (h : JAt AtL JOwn w F dv jv n d j) (k : Below w.heap.size w w1) : JAt AtL JOwn w1 F dv jv n d j := by
  obtain ⟨F1, F2, h1, h2, h3, h4, h5⟩ := h
  exact ⟨F1, F2, atl_below h1 k, jown_kept h2 (Kept.ofBelow k (fun _ => False)) (fun _ _ h => h), h3, h4, h5⟩

set_option maxRecDepth 100000 in
theorem jat_lt {w : World} {F : Nat → Prop} {dv jv : Value} {n : Nat} {d : D} {j : J} (h : JAt AtL JOwn w F dv jv n d j) : JAt AtL JOwn w (fun k => F k ∧ k < w.heap.size) dv jv n d j := by
  obtain ⟨F1, F2, h1, h2, h3, h4, h5⟩ := h
  exact ⟨F1, F2, h1, h2, h3, fun k hk => ⟨h4 k hk, h1.2 k hk⟩, fun k hk => ⟨h5 k hk, jown_lt h2 k hk⟩⟩

section
variable {w w' : World} {F G : Nat → Prop} {dv sv jv : Value} {n : Nat} {d : D} {s : Sto.Sr} {b bm : Nat} {N : Nat}

set_option maxRecDepth 100000 in
theorem cells_one {w : World} {x : List UInt8} : Cells (w.alloc (.cells #[.string (mk x)] 9)) (fun i => i = w.heap.size) (.slice (some ⟨w.heap.size, 0, none⟩) 1 1) (texts [x]) := by
  refine ⟨_, _, rfl, Nat.le_refl _, fun _ => ⟨w.heap.size, 0, rfl, rfl, by simp, fun i u hu => ?_⟩⟩
  rw [(Row.made w _ _).at, Nat.zero_add]
  match i, hu with
  | 0, hu => simpa [texts] using hu

/-- Where the journal lies when its records are laid anew. -/
structure Rw5 (w : World) (F : Nat → Prop) (dv jv : Value) (n : Nat) (d : D) (s : Sto.Sr) (b bm bn : Nat) (nx : List Sto.Pr) (W : World) (F5 : Nat → Prop) : Prop where
  jat : JAt AtL JOwn W F5 dv jv n d s.j
  lt : ∀ k, F5 k → k < W.heap.size
  map : MapAt W bn nx
  row : Row W b 81 (scells jv bm s)
  box : Row W w.heap.size 76 (vcells bn nx)
  nb : ¬ F5 b
  nx' : ¬ F5 w.heap.size
  sub : ∀ k, F5 k → Grow F w W k
  kept : Kept F w W

set_option maxRecDepth 100000 in
theorem Rw5.drew {W : World} {F5 : Nat → Prop} {bn : Nat} {nx : List Sto.Pr} (h : Rw5 w F dv jv n d s b bm bn nx W F5) : Rw5 w F dv jv n d s b bm bn nx W.drew F5 :=
  ⟨jat_under h.jat (Below.drew (Below.refl _ _)), h.lt, h.map, h.row.behindDraw, h.box.behindDraw, h.nb, h.nx', h.sub, h.kept.drew⟩

set_option maxRecDepth 100000 in
theorem Rw5.below {W W2 : World} {F5 : Nat → Prop} {bn : Nat} {nx : List Sto.Pr} (h : Rw5 w F dv jv n d s b bm bn nx W F5) (k : Below W.heap.size W W2) : Rw5 w F dv jv n d s b bm bn nx W2 F5 :=
  ⟨jat_under h.jat k, fun i hi => Nat.lt_of_lt_of_le (h.lt i hi) k.size, h.map.below k h.map.lt, h.row.below k h.row.inHeap, h.box.below k h.box.inHeap, h.nb, h.nx', fun i hi => Grow.within (h.sub i hi) k.size, h.kept.trans (Kept.ofBelow k F) (fun _ _ h => h)⟩

set_option maxRecDepth 100000 in
theorem Rw5.done {W w' : World} {F5 : Nat → Prop} {bn : Nat} {nx : List Sto.Pr} {d' : D} {j' : J} (h : Rw5 w F dv jv n d s b bm bn nx W F5) (h1 : JAt AtL JOwn w' (Grow F5 W w') dv jv n d' j') (h2 : Kept F5 W w') :
    JAt AtL JOwn w' (Grow F w w') dv jv n d' j' ∧ Kept F w w' := by
  have hz := h.kept.size
  have hz2 := h2.size
  refine ⟨jat_mono h1 (fun i hi => ?_), h.kept.trans h2 (fun i hi hf => ?_)⟩
  · rcases hi with hi | hi
    · rcases h.sub i hi with hi | hi
      · exact Or.inl hi
      · exact Or.inr (by omega)
    · exact Or.inr (by omega)
  · rcases h.sub i hf with hf | hf
    · exact hf
    · omega

set_option maxRecDepth 100000 in
set_option maxHeartbeats 6400000 in
theorem sto_keep {cv : Value} {cs : List Sto.Ch} {nx : List Sto.Pr} (h : JAt AtL JOwn w F dv jv n d s.j) (hF : ∀ k, F k → k < w.heap.size) (hs : Sound n d N) (hh : Held n d s.j) (hN : N + hof n + 3 ≤ 100000)
    (hr : Row w b 81 (scells jv bm s)) (hb : ¬ F b) (hc : Changes w G cv cs) (h0 : cs ≠ []) (hl : cs.length ≤ 1024) (hm : ∀ c ∈ cs, Sto.May c) {bn : Nat} (hmn : MapAt w bn nx) (hbn : ¬ F bn) (hso : Sto.Sorted nx) (hfi : Sto.Fit nx) (hnl : nx.length ≤ 100000) :
    Calls Tryz.prog 43 #[.pointer (some ⟨b, 0, none⟩), cv, vA bn nx] w fun e w' =>
      e = .returned (.int .i64 (Sto.keeps n d s.j cs nx).1) ∧ JAt AtL JOwn w' (Grow F w w') dv jv n (Sto.keeps n d s.j cs nx).2.1 (Sto.keeps n d s.j cs nx).2.2 ∧ Kept F w w' := by
  have hbw := hr.inHeap
  have hml := hmn.lt
  have hb0 : Below w.heap.size w (w.alloc (.cells (vcells bn nx) 76)) := (Below.refl _ _).alloc (Nat.le_refl _) _
  have hbox := Row.made w 76 (vcells bn nx)
  have hc0 := hc.below hb0
  have hrl := Sto.rec_len hm
  have hxF : ¬ F w.heap.size := fun e => by have := hF _ e; omega
  have HRec := Lib.hid (sto_record hc0 h0 hl hm)
  have H5 := Lib.hid (⟨jat_under h hb0, fun i hi => Nat.lt_of_lt_of_le (hF i hi) hb0.size, hmn.below hb0 hml, hr.below hb0 hbw, hbox, hb, hxF, fun i hi => Or.inl hi, Kept.ofBelow hb0 F⟩ : Rw5 w F dv jv n d s b bm bn nx (w.alloc (.cells (vcells bn nx) 76)) F)
  have HApp := Lib.hid (fun (W : World) (k : Rw5 w F dv jv n d s b bm bn nx W F) => (jnl_append (G := fun i => i = W.heap.size) (a := [Sto.rec cs]) (lv := .slice (some ⟨W.heap.size, 0, none⟩) 1 1) (jat_under k.jat ((Below.refl W.heap.size W).alloc (Nat.le_refl _) (.cells #[.string (mk (Sto.rec cs))] 9))) hs (by omega) (Or.inr ⟨hh, hN⟩) cells_one (fun i hi hf => by have := k.lt i hf; omega) (by simp) (fun t ht => by rw [List.mem_singleton.1 ht]; omega)))
  have HRw := Lib.hid (fun (W : World) (F5 : Nat → Prop) (k : Rw5 w F dv jv n d s b bm bn nx W F5) (W2 : World) (lv : Value) (hb2 : Below W.heap.size W W2) (hcl : Cells W2 (NewIn W W2) lv (texts (Sto.singles nx))) => (jnl_rewrite (G := NewIn W W2) (a := Sto.singles nx) (lv := lv) (k.below hb2).jat hs (by omega) (Or.inr ⟨hh, hN⟩) hcl (fun i hi hf => by have := k.lt i hf; have := hi.1; omega) (by unfold Sto.singles; rw [List.length_map]; exact hnl) (fun t ht => by
      obtain ⟨p, hp, rfl⟩ := List.mem_map.1 ht
      have := Sto.single_len (hfi p hp)
      omega)))
  have HRs := Lib.hid (fun (W : World) (hM : MapAt W bn nx) => sto_records hM hso hfi (by omega))
  have hkeeps : Hid (Sto.keeps n d s.j cs nx = if (Sto.adds n d s.j cs).1 = 10 ∨ (Sto.adds n d s.j cs).1 = 4 then Jnl.rewrite n d s.j (Sto.singles nx) else Sto.adds n d s.j cs) := Lib.hid (by
    unfold Sto.keeps
    split
    · rename_i h1
      rw [Sto.adds_same h1]
    · rfl)
  have hone : Hid (∀ (W w' : World), Rw5 w F dv jv n d s b bm bn nx W F → JAt AtL JOwn w' (Grow F (W.alloc (.cells #[.string (mk (Sto.rec cs))] 9)) w') dv jv n d s.j → Kept F (W.alloc (.cells #[.string (mk (Sto.rec cs))] 9)) w' → Rw5 w F dv jv n d s b bm bn nx w' (Grow F (W.alloc (.cells #[.string (mk (Sto.rec cs))] 9)) w')) := Lib.hid (by
    intro W w' k h1 h2
    have k2 := k.below ((Below.refl W.heap.size W).alloc (Nat.le_refl _) (.cells #[.string (mk (Sto.rec cs))] 9))
    have hz := h2.size
    have hbW := k2.row.inHeap
    have hxW := k2.box.inHeap
    refine ⟨h1, fun i hi => Grow.lt hi k2.lt hz, k2.map.kept h2 hbn, k2.row.kept h2 hb, k2.box.kept h2 hxF, fun e => ?_, fun e => ?_, fun i hi => ?_, kept_two k2.kept h2⟩
    · rcases e with e | e
      · exact hb e
      · omega
    · rcases e with e | e
      · exact hxF e
      · omega
    · have hz2 := k2.kept.size
      rcases hi with hi | hi
      · exact Or.inl hi
      · exact Or.inr (by omega))
  have hone2 : Hid (∀ (W w' : World) (d' : D) (j' : J), Rw5 w F dv jv n d s b bm bn nx W F → JAt AtL JOwn w' (Grow F (W.alloc (.cells #[.string (mk (Sto.rec cs))] 9)) w') dv jv n d' j' → Kept F (W.alloc (.cells #[.string (mk (Sto.rec cs))] 9)) w' → JAt AtL JOwn w' (Grow F w w') dv jv n d' j' ∧ Kept F w w') := Lib.hid (by
    intro W w' d' j' k h1 h2
    exact (k.below ((Below.refl W.heap.size W).alloc (Nat.le_refl _) (.cells #[.string (mk (Sto.rec cs))] 9))).done h1 h2)
  have hadd : Hid (Sto.adds n d s.j cs = if 65536 < (Sto.rec cs).length then (4, d, s.j) else Jnl.append n d s.j [Sto.rec cs]) := Lib.hid rfl
  have hro : Hid (recOf cs = if 65536 < (Sto.rec cs).length then ([], 4) else (Sto.rec cs, 0)) := Lib.hid rfl
  obtain ⟨A, cap, rfl, hcap⟩ := hc.slice
  clear h hF hs hh hN hr hb hc h0 hl hm hmn hbn hso hfi hnl hbw hml hb0 hbox hc0 hrl hxF hcap
  by_cases hlong : 65536 < (Sto.rec cs).length
  · have e1 := hro.out
    have e2 := hadd.out
    rw [if_pos hlong] at e1 e2
    rw [e1] at HRec
    have e3 := hkeeps.out
    rw [e2, if_pos (Or.inr rfl)] at e3
    rw [e3]
    clear e1 e2 e3 hlong hro hadd hkeeps hone hone2 HApp
    generalize Jnl.rewrite n d s.j (Sto.singles nx) = R at *
    unfold vA vcells at *
    go_enter Tryz.func43, Tryz.ntmps43
    go_wp2_with (go_at_call 67; refine HRec.out.mono ?_; rintro e w5 ⟨rfl, hb5⟩; have h5 := Lib.hid (Rw5.drew (H5.out.below hb5)); clear hb5)
    refine wp_region_held_drew (S := (fun w' : World => Row w' b 81 (scells jv bm s) ∧ Row w' w.heap.size 76 #[.map (some bn), .int .i64 (Sto.bytes nx : Int), .int .i64 (Sto.whole nx : Int)])) (by kernel_rfl) (⟨h5.out.row, h5.out.box⟩) (fun hHeld => ?_)
    refine wpAnyH_take (i := 0) (v := ?_) rfl (by kernel_rfl) (by kernel_rfl) (by kernel_rfl) (fun _ _ _ h => h) (Or.inl ⟨by rfl, (by intro w hSw; go_simp; try with_reducible rfl)⟩) (by assumption) ?_
    simp only [Act.put, List.getElem_toArray, List.getElem_cons_zero, List.getElem_cons_succ, List.setIfInBounds_toArray, List.set_cons_zero, List.set_cons_succ]
    refine wpAnyH_take (i := 1) (v := ?_) rfl (by kernel_rfl) (by kernel_rfl) (by kernel_rfl) (fun _ _ _ h => h) (Or.inl ⟨by rfl, (by intro w hSw; go_simp; try with_reducible rfl)⟩) (by assumption) ?_
    simp only [Act.put, List.getElem_toArray, List.getElem_cons_zero, List.getElem_cons_succ, List.setIfInBounds_toArray, List.set_cons_zero, List.set_cons_succ]
    refine wpAnyH_take (i := 2) (v := ?_) rfl (by kernel_rfl) (by kernel_rfl) (by kernel_rfl) (fun _ _ _ h => h) (Or.inl ⟨by rfl, (by intro w hSw; go_simp; try with_reducible rfl)⟩) (by assumption) ?_
    simp only [Act.put, List.getElem_toArray, List.getElem_cons_zero, List.getElem_cons_succ, List.setIfInBounds_toArray, List.set_cons_zero, List.set_cons_succ]
    refine wpAnyH_take (i := 3) (v := ?_) rfl (by kernel_rfl) (by kernel_rfl) (by kernel_rfl) (fun _ _ _ h => h) (Or.inl ⟨by rfl, (by intro w hSw; have c0 : w.cell? ⟨b, 0, none⟩ = some jv := hSw.1.at 0; go_simp; try with_reducible rfl)⟩) (by assumption) ?_
    simp only [Act.put, List.getElem_toArray, List.getElem_cons_zero, List.getElem_cons_succ, List.setIfInBounds_toArray, List.set_cons_zero, List.set_cons_succ]
    refine wpAnyH_take (i := 4) (v := ?_) rfl (by kernel_rfl) (by kernel_rfl) (by kernel_rfl) (fun _ _ _ h => h) (Or.inl ⟨by rfl, (by intro w hSw; have c0 := hSw.2.at 0; have c1 := hSw.2.at 1; have c2 := hSw.2.at 2; go_simp; try with_reducible rfl)⟩) (by assumption) ?_
    simp only [Act.put, List.getElem_toArray, List.getElem_cons_zero, List.getElem_cons_succ, List.setIfInBounds_toArray, List.set_cons_zero, List.set_cons_succ]
    refine wpAnyH_ready (rs := [5]) (by kernel_rfl) (by simp) ?_
    refine AllReadyH.cons rfl (fun K hK => ?_) AllReadyH.nil
    go_simp
    go_at_call 69
    refine (HRs.out _ h5.out.map).mono ?_
    rintro e w6 ⟨lv, rfl, hc6, hb6⟩
    have h6 := Lib.hid (h5.out.below hb6)
    have HC6 := Lib.hid hc6
    have HB6 := Lib.hid hb6
    refine hK.out _ _ ⟨h6.out.row, h6.out.box⟩ (fun hHeld => ?_)
    clear hc6 hb6
    clear hK K
    refine wpAnyH_ready (rs := [6]) (by kernel_rfl) (by simp) ?_
    refine AllReadyH.cons rfl (fun K hK => ?_) AllReadyH.nil
    go_simp
    go_at_call 68
    refine (HRw.out _ _ h5.out w6 lv HB6.out HC6.out).mono ?_
    rintro e w7 ⟨rfl, hj7, hk7⟩
    have Hdone := Lib.hid (h6.out.done hj7 hk7)
    have hr7 := h6.out.row.kept hk7 h6.out.nb
    have hx7 := h6.out.box.kept hk7 h6.out.nx'
    refine hK.out _ _ ⟨hr7, hx7⟩ (fun hHeld => ?_)
    clear hj7 hk7 hr7 hx7
    clear hK K
    refine wpAnyH_take (i := 7) (v := ?_) rfl (by kernel_rfl) (by kernel_rfl) (by kernel_rfl) (fun _ _ _ h => h) (Or.inl ⟨by rfl, (by intro w hSw; go_simp; try with_reducible rfl)⟩) (by assumption) ?_
    simp only [Act.put, List.getElem_toArray, List.getElem_cons_zero, List.getElem_cons_succ, List.setIfInBounds_toArray, List.set_cons_zero, List.set_cons_succ]
    refine wpAnyH_done (by kernel_rfl) ?_ _
    clear hHeld
    go_wp2_with fail
    go_ret
    exact ⟨rfl, Hdone.out⟩
  · have e1 := hro.out
    have e2 := hadd.out
    rw [if_neg hlong] at e1 e2
    rw [e1] at HRec
    have hsame := Sto.adds_same (n := n) (d := d) (j := s.j) (cs := cs)
    have e3 := hkeeps.out
    rw [e2] at e3 hsame
    rw [e3]
    clear e1 e2 e3 hlong hro hadd hkeeps
    generalize Jnl.append n d s.j [Sto.rec cs] = X at *
    obtain ⟨x, d1, j1⟩ := X
    simp only at hsame
    by_cases hx : x = 10 ∨ x = 4
    · have he := hsame hx
      have hd1 : d1 = d := by injection he
      have hj1 : j1 = s.j := by injection he
      subst hd1 hj1
      rw [if_pos hx]
      clear hsame he hone2
      generalize Jnl.rewrite n d1 s.j (Sto.singles nx) = R at *
      unfold vA vcells at *
      simp only at HApp
      rcases hx with rfl | rfl
      all_goals
        go_enter Tryz.func43, Tryz.ntmps43
        go_wp2_with (first
          | (go_at_call 67; refine HRec.out.mono ?_; rintro e w4 ⟨rfl, hb4⟩; have h4 := Lib.hid (H5.out.below hb4); have c0 : w4.cell? ⟨b, 0, none⟩ = some jv := h4.out.row.at 0; clear hb4)
          | (go_at_call 27; refine (HApp.out _ h4.out).mono ?_; rintro e w5 ⟨rfl, hj5, hk5⟩; have h5 := Lib.hid (Rw5.drew (hone.out _ _ h4.out hj5 hk5)); clear hj5 hk5 c0))
        refine wp_region_held_drew (S := (fun w' : World => Row w' b 81 (scells jv bm s) ∧ Row w' w.heap.size 76 #[.map (some bn), .int .i64 (Sto.bytes nx : Int), .int .i64 (Sto.whole nx : Int)])) (by kernel_rfl) (⟨h5.out.row, h5.out.box⟩) (fun hHeld => ?_)
        refine wpAnyH_take (i := 0) (v := ?_) rfl (by kernel_rfl) (by kernel_rfl) (by kernel_rfl) (fun _ _ _ h => h) (Or.inl ⟨by rfl, (by intro w hSw; go_simp; try with_reducible rfl)⟩) (by assumption) ?_
        simp only [Act.put, List.getElem_toArray, List.getElem_cons_zero, List.getElem_cons_succ, List.setIfInBounds_toArray, List.set_cons_zero, List.set_cons_succ]
        refine wpAnyH_take (i := 1) (v := ?_) rfl (by kernel_rfl) (by kernel_rfl) (by kernel_rfl) (fun _ _ _ h => h) (Or.inl ⟨by rfl, (by intro w hSw; go_simp; try with_reducible rfl)⟩) (by assumption) ?_
        simp only [Act.put, List.getElem_toArray, List.getElem_cons_zero, List.getElem_cons_succ, List.setIfInBounds_toArray, List.set_cons_zero, List.set_cons_succ]
        refine wpAnyH_take (i := 2) (v := ?_) rfl (by kernel_rfl) (by kernel_rfl) (by kernel_rfl) (fun _ _ _ h => h) (Or.inl ⟨by rfl, (by intro w hSw; go_simp; try with_reducible rfl)⟩) (by assumption) ?_
        simp only [Act.put, List.getElem_toArray, List.getElem_cons_zero, List.getElem_cons_succ, List.setIfInBounds_toArray, List.set_cons_zero, List.set_cons_succ]
        refine wpAnyH_take (i := 3) (v := ?_) rfl (by kernel_rfl) (by kernel_rfl) (by kernel_rfl) (fun _ _ _ h => h) (Or.inl ⟨by rfl, (by intro w hSw; have c0 : w.cell? ⟨b, 0, none⟩ = some jv := hSw.1.at 0; go_simp; try with_reducible rfl)⟩) (by assumption) ?_
        simp only [Act.put, List.getElem_toArray, List.getElem_cons_zero, List.getElem_cons_succ, List.setIfInBounds_toArray, List.set_cons_zero, List.set_cons_succ]
        refine wpAnyH_take (i := 4) (v := ?_) rfl (by kernel_rfl) (by kernel_rfl) (by kernel_rfl) (fun _ _ _ h => h) (Or.inl ⟨by rfl, (by intro w hSw; have c0 := hSw.2.at 0; have c1 := hSw.2.at 1; have c2 := hSw.2.at 2; go_simp; try with_reducible rfl)⟩) (by assumption) ?_
        simp only [Act.put, List.getElem_toArray, List.getElem_cons_zero, List.getElem_cons_succ, List.setIfInBounds_toArray, List.set_cons_zero, List.set_cons_succ]
        refine wpAnyH_ready (rs := [5]) (by kernel_rfl) (by simp) ?_
        refine AllReadyH.cons rfl (fun K hK => ?_) AllReadyH.nil
        go_simp
        go_at_call 69
        refine (HRs.out _ h5.out.map).mono ?_
        rintro e w6 ⟨lv, rfl, hc6, hb6⟩
        have h6 := Lib.hid (h5.out.below hb6)
        have HC6 := Lib.hid hc6
        have HB6 := Lib.hid hb6
        refine hK.out _ _ ⟨h6.out.row, h6.out.box⟩ (fun hHeld => ?_)
        clear hc6 hb6
        clear hK K
        refine wpAnyH_ready (rs := [6]) (by kernel_rfl) (by simp) ?_
        refine AllReadyH.cons rfl (fun K hK => ?_) AllReadyH.nil
        go_simp
        go_at_call 68
        refine (HRw.out _ _ h5.out w6 lv HB6.out HC6.out).mono ?_
        rintro e w7 ⟨rfl, hj7, hk7⟩
        have Hdone := Lib.hid (h6.out.done hj7 hk7)
        have hr7 := h6.out.row.kept hk7 h6.out.nb
        have hx7 := h6.out.box.kept hk7 h6.out.nx'
        refine hK.out _ _ ⟨hr7, hx7⟩ (fun hHeld => ?_)
        clear hj7 hk7 hr7 hx7
        clear hK K
        refine wpAnyH_take (i := 7) (v := ?_) rfl (by kernel_rfl) (by kernel_rfl) (by kernel_rfl) (fun _ _ _ h => h) (Or.inl ⟨by rfl, (by intro w hSw; go_simp; try with_reducible rfl)⟩) (by assumption) ?_
        simp only [Act.put, List.getElem_toArray, List.getElem_cons_zero, List.getElem_cons_succ, List.setIfInBounds_toArray, List.set_cons_zero, List.set_cons_succ]
        refine wpAnyH_done (by kernel_rfl) ?_ _
        clear hHeld
        go_wp2_with fail
        go_ret
        exact ⟨rfl, Hdone.out⟩
    · have g1 : (x == 10) = false := by rw [beq_eq_false_iff_ne]; exact fun e => hx (Or.inl e)
      have g2 : (x == 4) = false := by rw [beq_eq_false_iff_ne]; exact fun e => hx (Or.inr e)
      rw [if_neg hx]
      simp only at HApp ⊢
      clear hsame hone hx HRs HRw
      unfold vA vcells at *
      go_enter Tryz.func43, Tryz.ntmps43
      go_wp2_with (first
        | (go_at_call 67; refine HRec.out.mono ?_; rintro e w4 ⟨rfl, hb4⟩; have h4 := Lib.hid (H5.out.below hb4); have c0 : w4.cell? ⟨b, 0, none⟩ = some jv := h4.out.row.at 0; clear hb4)
        | (go_at_call 27; refine (HApp.out _ h4.out).mono ?_; rintro e w5 ⟨rfl, hj5, hk5⟩; have Hdone := Lib.hid (hone2.out _ _ _ _ h4.out hj5 hk5); clear hj5 hk5 c0))
      go_ret
      exact ⟨rfl, Hdone.out⟩
end
end Go.Proofs.YtbfjageaheijbaaGreat
