/- The landed journal: keep, Append, Rewrite. -/
import Derived.Test.YtbfjageaheijbaaGreatCom33
import Derived.Test.YtbfjageaheijbaaGreatCom26
import Derived.Test.YtbfjageaheijbaaGreatCom28
set_option linter.unusedSimpArgs false
set_option linter.unusedVariables false
namespace Go.Proofs.YtbfjageaheijbaaGreat
open Go.RowKit Dsk Jnl

/-- What keep answers. -/
def keptOf (n : Nat) (d : D) (j : J) (half : Nat) (pre new : List UInt8) : Int × D × J :=
  if 65536 < new.length then (4, d, j) else if 64 * hof n < pre.length + new.length then (10, d, j) else lays n d j half pre new

set_option maxRecDepth 100000 in
theorem ws_below {w w3 : World} {x y : Value} (h : Below w.heap.size w w3) : Below w.heap.size w ((w3.setCell ⟨w.heap.size, 0, none⟩ x).setCell ⟨w.heap.size, 2, none⟩ y) := below_store (below_store h (Nat.le_refl _) x) (Nat.le_refl _) y

set_option maxRecDepth 100000 in
theorem ws_row {w3 : World} {b : Nat} {t : TypeId} {p q r x y : Value} (h : Row w3 b t #[p, q, r]) : Row ((w3.setCell ⟨b, 0, none⟩ x).setCell ⟨b, 2, none⟩ y) b t #[x, q, y] := by
  simpa using (h.stored 0 x).stored 2 y

set_option maxRecDepth 100000 in
theorem ws_bytes {w3 : World} {k m : Nat} {v x y : Value} {l : List UInt8} (h : BytesAt w3 (fun i => k < i ∧ i < m) v l) (hm : k < m) : BytesAt ((w3.setCell ⟨k, 0, none⟩ x).setCell ⟨k, 2, none⟩ y) (fun i => k < i ∧ i < m) v l :=
  h.kept (G := fun i => i = k) (((Kept.refl (fun i => i = k) w3).stored (p := ⟨k, 0, none⟩) (Or.inl rfl) x).stored (p := ⟨k, 2, none⟩) (Or.inl rfl) y) (fun i hi e => by omega)

set_option maxRecDepth 100000 in
theorem keep_box {w3 wb : World} {k : Nat} {F1 : Nat → Prop} {dv : Value} {dn : D} {p q r x y : Value} (hb : Row w3 k 96 #[p, q, r]) (kb : Doing AtL ((w3.setCell ⟨k, 0, none⟩ x).setCell ⟨k, 2, none⟩ y) F1 dv dn wb) (hlt : ∀ i, F1 i → i < k) :
    ∀ w', Below wb.heap.size wb w' → Row w' k 96 #[x, q, y] := fun w' hb' => by
  have r1 := (ws_row (w3 := w3) hb (x := x) (y := y)).kept kb.2 (fun hf => by have := hlt _ hf; omega)
  exact r1.below hb' r1.inHeap

set_option maxRecDepth 100000 in
theorem keep_tail {w3 wb : World} {k m : Nat} {F1 : Nat → Prop} {dv v x y : Value} {dn : D} {l : List UInt8} (h : BytesAt w3 (fun i => k < i ∧ i < m) v l) (hm : k < m) (kb : Doing AtL ((w3.setCell ⟨k, 0, none⟩ x).setCell ⟨k, 2, none⟩ y) F1 dv dn wb) (hlt : ∀ i, F1 i → i < k) : BytesAt wb (fun i => k < i ∧ i < m) v l :=
  (ws_bytes h hm).kept kb.2 (fun i hi hf => by have := hlt _ hf; have := hi.1; omega)

set_option maxRecDepth 100000 in
theorem j_stored {w : World} {b q h u q' h' u' : Nat} {dv tv tv' : Value} {br : Bool} {x z : Int} (hr : Row w b 106 (jcells dv q h u tv br)) (e1 : x = ((q' : Nat) : Int)) (e2 : z = ((u' : Nat) : Int)) :
    Row ((((w.setCell ⟨b, 1, none⟩ (.int .i64 x)).setCell ⟨b, 2, none⟩ (.int .i64 (h' : Int))).setCell ⟨b, 3, none⟩ (.int .i64 z)).setCell ⟨b, 4, none⟩ tv') b 106 (jcells dv q' h' u' tv' br) := by
  rw [e1, e2]
  simpa [jcells] using (((hr.stored 1 (.int .i64 (q' : Int))).stored 2 (.int .i64 (h' : Int))).stored 3 (.int .i64 (u' : Int))).stored 4 tv'

set_option maxRecDepth 100000 in
theorem j_stored_kept {w : World} {b : Nat} {x y z t : Value} : Kept (fun i => i = b) w ((((w.setCell ⟨b, 1, none⟩ x).setCell ⟨b, 2, none⟩ y).setCell ⟨b, 3, none⟩ z).setCell ⟨b, 4, none⟩ t) :=
  ((((Kept.refl (fun i => i = b) w).stored (p := ⟨b, 1, none⟩) (Or.inl rfl) x).stored (p := ⟨b, 2, none⟩) (Or.inl rfl) y).stored (p := ⟨b, 3, none⟩) (Or.inl rfl) z).stored (p := ⟨b, 4, none⟩) (Or.inl rfl) t

set_option maxRecDepth 100000 in
theorem j_three_kept {w : World} {b : Nat} {x y z : Value} : Kept (fun i => i = b) w (((w.setCell ⟨b, 1, none⟩ x).setCell ⟨b, 2, none⟩ y).setCell ⟨b, 3, none⟩ z) :=
  (((Kept.refl (fun i => i = b) w).stored (p := ⟨b, 1, none⟩) (Or.inl rfl) x).stored (p := ⟨b, 2, none⟩) (Or.inl rfl) y).stored (p := ⟨b, 3, none⟩) (Or.inl rfl) z

set_option maxRecDepth 100000 in
theorem j_broken {w : World} {b q h u : Nat} {dv tv : Value} {br : Bool} (hr : Row w b 106 (jcells dv q h u tv br)) : Row (w.setCell ⟨b, 5, none⟩ (.bool true)) b 106 (jcells dv q h u tv true) := by
  simpa [jcells] using hr.stored 5 (.bool true)

set_option maxRecDepth 100000 in
theorem j_broken_kept {w : World} {b : Nat} {x : Value} : Kept (fun i => i = b) w (w.setCell ⟨b, 5, none⟩ x) := (Kept.refl (fun i => i = b) w).stored (p := ⟨b, 5, none⟩) (Or.inl rfl) x

section
variable {w : World} {F F1 F2 G : Nat → Prop} {dv tv0 tv lv : Value} {n : Nat} {d : D} {N half b : Nat} {pre : List UInt8} {a : List (List UInt8)} {j : J}

set_option maxRecDepth 100000 in
set_option maxHeartbeats 3200000 in
theorem jkeep_any (h : AtL w F1 dv d) (hs : Sound n d N) (hm : n ≤ 4096) (hN : N + hof n + 3 ≤ 100000) (hrow : Row w b 106 (jcells dv j.seq j.half j.bytes.length tv0 false)) (hb : F2 b) (h2 : ∀ i, F2 i → i < w.heap.size) (h3 : ∀ k, F1 k → ¬ F2 k) (h4 : ∀ k, F1 k → F k) (h5 : ∀ k, F2 k → F k)
    (ht0 : BytesAt w (fun i => F2 i ∧ i ≠ b) tv0 (tailB j.bytes)) (htv : BytesAt w F2 tv (tailB pre)) (hlv : Cells w G lv (texts a)) (ha : a.length ≤ 100000) (hat : ∀ t ∈ a, t.length ≤ 16777216)
    (hbr : j.broken = false) (hjh : j.half ≤ 1) (hjf : j.bytes.length ≤ 64 * hof n) (hq : j.seq < 9223372036854775807) (hhalf : half ≤ 1) (hpre : pre.length ≤ 64 * hof n) (hnil : 0 < (Frm.all a).length ∨ tv = .slice none 0 0) :
    Calls Tryz.prog 55 #[.pointer (some ⟨b, 0, none⟩), .agg #[.int .i64 (j.seq : Int), .int .i64 (half : Int), .int .i64 (pre.length : Int)], tv, lv] w fun e w' =>
      e = .returned (.int .i64 (keptOf n d j half pre (Frm.all a)).1) ∧ JAt AtL JOwn w' (Grow F w w') dv (.pointer (some ⟨b, 0, none⟩)) n (keptOf n d j half pre (Frm.all a)).2.1 (keptOf n d j half pre (Frm.all a)).2.2 ∧ Kept F w w' := by
  have hn := hs.shape.len
  have h4n := hs.four
  have hho : hof n ≤ 4096 := by unfold hof; omega
  have hhb := half_base (h := hof n) hhalf
  have hfit := hof_fits h4n
  have hbw := h2 b hb
  have hbn : ¬ F1 b := fun hf => h3 b hf hb
  have h1lt := h.2
  -- as it was
  have fin0 : Hid (∀ w', Below w.heap.size w w' → JAt AtL JOwn w' (Grow F w w') dv (.pointer (some ⟨b, 0, none⟩)) n d j ∧ Kept F w w') := Lib.hid (fun w' hb' => jat_below ⟨F1, F2, h, ⟨b, tv0, rfl, by rw [hbr]; exact hrow, hb, ht0, h2, hjh, hjf, by omega⟩, h3, h4, h5⟩ hb')
  have HLay := Lib.hid (fun (W : World) (hb' : Below w.heap.size w W) => frame_ok.lay (hlv.below hb') ha hat)
  have HB := Lib.hid (fun (W : World) (hb' : Below w.heap.size w W) => half_bytes (atl_below h hb') hn h4n hm)
  have HSec := Lib.hid (fun (W : World) (hb' : Below w.heap.size w W) => sector_of (atl_below h hb') hn h4n hm hhalf hpre)
  have HCell : Hid (∀ W, Below w.heap.size w W → Row W b 106 (jcells dv j.seq j.half j.bytes.length tv0 false)) := Lib.hid (fun W hb' => hrow.below hb' hbw)
  have hbox := Row.made w 96 #[.int .i64 (j.seq : Int), .int .i64 (half : Int), .int .i64 (pre.length : Int)]
  have Hbox := Lib.hid hbox
  by_cases hbig : 65536 < (Frm.all a).length
  · have hk : keptOf n d j half pre (Frm.all a) = (4, d, j) := by unfold keptOf; rw [if_pos hbig]
    rw [hk]
    have hle : ¬ (Frm.all a).length ≤ 65536 := by omega
    simp only [if_neg hle] at HLay
    clear hk hbig hle h hs hrow hlv ht0 htv hbox hn h4n hho hhb hfit hbn h1lt h3 hnil
    go_enter Tryz.func55, Tryz.ntmps55
    go_wp2_with (go_at_call 81; refine (HLay.out _ ((Below.refl _ _).alloc (Nat.le_refl _) _)).mono ?_; rintro e w2 ⟨rfl, hb2⟩
                 have HB2 := Lib.hid (((Below.refl _ _).alloc (Nat.le_refl _) _).trans (hb2.mono (by simp)))
                 clear hb2)
    go_ret
    exact ⟨rfl, fin0.out _ HB2.out⟩
  · have hle : (Frm.all a).length ≤ 65536 := by omega
    simp only [if_pos hle] at HLay
    have hxs : (mk (Frm.all a)).size = (Frm.all a).length := mk_len _
    have hcut := tail_cut htv
    have hoverV : ((64 * hof n : Nat) : Int) ≤ 1000000 := by omega
    have hpI : (pre.length : Int) ≤ ((64 * hof n : Nat) : Int) := by omega
    have hp0 : (0 : Int) ≤ (pre.length : Int) := by omega
    have hsub : IntKind.i64.wrap (((64 * hof n : Nat) : Int) - (pre.length : Int)) = ((64 * hof n : Nat) : Int) - (pre.length : Int) := IntWalk.i64_in _ ⟨by omega, by omega⟩
    by_cases hfull : 64 * hof n < pre.length + (Frm.all a).length
    · have hk : keptOf n d j half pre (Frm.all a) = (10, d, j) := by unfold keptOf; rw [if_neg hbig, if_pos hfull]
      rw [hk]
      have hgt : decide (((mk (Frm.all a)).size : Int) > ((64 * hof n : Nat) : Int) - (pre.length : Int)) = true := decide_eq_true (by omega)
      clear hk hbig hle h hs hrow hlv ht0 htv hbox hn h4n hho hhb hfit hbn h1lt h3 hnil hxs hfull hcut hpre hjf
      generalize ((64 * hof n : Nat) : Int) = V at *
      generalize mk (Frm.all a) = X at *
      generalize (pre.length : Int) = U at *
      go_enter Tryz.func55, Tryz.ntmps55
      go_wp2_with (go_at_call 81; refine (HLay.out _ ((Below.refl _ _).alloc (Nat.le_refl _) _)).mono ?_; rintro e w2 ⟨rfl, hb2⟩
                   have HB2 := Lib.hid (((Below.refl _ _).alloc (Nat.le_refl _) _).trans (hb2.mono (by simp)))
                   have hbx := Hbox.out.below hb2 (by simp)
                   have HBx : Hid (∀ w', Below w2.heap.size w2 w' → Row w' w.heap.size 96 #[.int .i64 (j.seq : Int), .int .i64 (half : Int), .int .i64 U]) := Lib.hid (fun w' hb => hbx.below hb hbx.inHeap)
                   clear hb2 hbx)
      refine wp_region_held_drew (S := (Below w2.heap.size w2)) (by kernel_rfl) (Below.drew (Below.refl _ _)) (fun hHeld => ?_)
      refine wpAnyH_take (i := 0) (v := ?_) rfl (by kernel_rfl) (by kernel_rfl) (by kernel_rfl) (fun _ _ _ h => h) (Or.inl ⟨by rfl, (by intro w hSw; go_simp; try with_reducible rfl)⟩) (by assumption) ?_
      simp only [Act.put, List.getElem_toArray, List.getElem_cons_zero, List.getElem_cons_succ, List.setIfInBounds_toArray, List.set_cons_zero, List.set_cons_succ]
      refine wpAnyH_take (i := 1) (v := ?_) rfl (by kernel_rfl) (by kernel_rfl) (by kernel_rfl) (fun _ _ _ h => h) (Or.inl ⟨by rfl, (by intro w hSw; go_simp; try with_reducible rfl)⟩) (by assumption) ?_
      simp only [Act.put, List.getElem_toArray, List.getElem_cons_zero, List.getElem_cons_succ, List.setIfInBounds_toArray, List.set_cons_zero, List.set_cons_succ]
      refine wpAnyH_take (i := 2) (v := ?_) rfl (by kernel_rfl) (by kernel_rfl) (by kernel_rfl) (fun _ _ _ h => h) (Or.inl ⟨by rfl, (by intro w hSw; go_simp; try with_reducible rfl)⟩) (by assumption) ?_
      simp only [Act.put, List.getElem_toArray, List.getElem_cons_zero, List.getElem_cons_succ, List.setIfInBounds_toArray, List.set_cons_zero, List.set_cons_succ]
      refine wpAnyH_take (i := 3) (v := ?_) rfl (by kernel_rfl) (by kernel_rfl) (by kernel_rfl) (fun _ _ _ h => h) (Or.inl ⟨by rfl, (by intro w hSw; go_simp; try with_reducible rfl)⟩) (by assumption) ?_
      simp only [Act.put, List.getElem_toArray, List.getElem_cons_zero, List.getElem_cons_succ, List.setIfInBounds_toArray, List.set_cons_zero, List.set_cons_succ]
      refine wpAnyH_take (i := 4) (v := ?_) rfl (by kernel_rfl) (by kernel_rfl) (by kernel_rfl) (fun _ _ _ h => h) (Or.inl ⟨by rfl, (by intro w hSw; go_simp; try with_reducible rfl)⟩) (by assumption) ?_
      simp only [Act.put, List.getElem_toArray, List.getElem_cons_zero, List.getElem_cons_succ, List.setIfInBounds_toArray, List.set_cons_zero, List.set_cons_succ]
      refine wpAnyH_take (i := 5) (v := ?_) rfl (by kernel_rfl) (by kernel_rfl) (by kernel_rfl) (fun _ _ _ h => h) (Or.inl ⟨by rfl, (by intro w hSw; have c0 : w.cell? ⟨b, 0, none⟩ = some dv := (HCell.out w (HB2.out.trans (hSw.mono HB2.out.size))).at 0; go_simp; try with_reducible rfl)⟩) (by assumption) ?_
      simp only [Act.put, List.getElem_toArray, List.getElem_cons_zero, List.getElem_cons_succ, List.setIfInBounds_toArray, List.set_cons_zero, List.set_cons_succ]
      refine wpAnyH_take (i := 7) (v := ?_) rfl (by kernel_rfl) (by kernel_rfl) (by kernel_rfl) (fun _ _ _ h => h) (Or.inl ⟨by rfl, (by intro w hSw; go_simp; try with_reducible rfl)⟩) (by assumption) ?_
      simp only [Act.put, List.getElem_toArray, List.getElem_cons_zero, List.getElem_cons_succ, List.setIfInBounds_toArray, List.set_cons_zero, List.set_cons_succ]
      refine wpAnyH_take (i := 8) (v := ?_) rfl (by kernel_rfl) (by kernel_rfl) (by kernel_rfl) (fun _ _ _ h => h) (Or.inl ⟨by rfl, (by intro w hSw; have c2 := (HBx.out w hSw).at 2; go_simp; try with_reducible rfl)⟩) (by assumption) ?_
      simp only [Act.put, List.getElem_toArray, List.getElem_cons_zero, List.getElem_cons_succ, List.setIfInBounds_toArray, List.set_cons_zero, List.set_cons_succ]
      refine wpAnyH_ready (rs := [6]) (by kernel_rfl) (by simp) ?_
      refine AllReadyH.cons rfl (fun K hK => ?_) AllReadyH.nil
      go_simp
      go_at_call 66
      refine (HB.out _ (HB2.out.trans (hHeld.mono HB2.out.size))).mono ?_
      rintro e w3 ⟨rfl, rfl⟩
      refine hK.out _ _ hHeld (fun hHeld => ?_)
      clear hK K
      refine wpAnyH_take (i := 9) (v := ?_) rfl (by kernel_rfl) (by kernel_rfl) (by kernel_rfl) (fun _ _ _ h => h) (Or.inl ⟨by rfl, (by intro w hSw; go_simp; try with_reducible rfl)⟩) (by assumption) ?_
      simp only [Act.put, List.getElem_toArray, List.getElem_cons_zero, List.getElem_cons_succ, List.setIfInBounds_toArray, List.set_cons_zero, List.set_cons_succ]
      refine wpAnyH_take (i := 10) (v := ?_) rfl (by kernel_rfl) (by kernel_rfl) (by kernel_rfl) (fun _ _ _ h => h) (Or.inl ⟨by rfl, (by intro w hSw; go_simp; try with_reducible rfl)⟩) (by assumption) ?_
      simp only [Act.put, List.getElem_toArray, List.getElem_cons_zero, List.getElem_cons_succ, List.setIfInBounds_toArray, List.set_cons_zero, List.set_cons_succ]
      refine wpAnyH_done (by kernel_rfl) ?_ _
      have HH := Lib.hid hHeld
      clear hHeld
      go_wp2_with fail
      go_ret
      exact ⟨rfl, fin0.out _ (HB2.out.trans (HH.out.mono HB2.out.size))⟩
    · have hk : keptOf n d j half pre (Frm.all a) = lays n d j half pre (Frm.all a) := by unfold keptOf; rw [if_neg hbig, if_neg hfull]
      have hgt : decide (((mk (Frm.all a)).size : Int) > ((64 * hof n : Nat) : Int) - (pre.length : Int)) = false := decide_eq_false (by omega)
      have hfits : (pre ++ Frm.all a).length ≤ 64 * hof n := by rw [List.length_append]; omega
      have HWR : Hid (∀ (w3 : World) (bv : Value), Below w.heap.size w w3 → w.heap.size < w3.heap.size → BytesAt w3 (fun i => w.heap.size < i ∧ i < w3.heap.size) bv (tailB pre ++ (mk (Frm.all a)).data.toList) →
          Calls Tryz.prog 82 #[.pointer (some ⟨b, 0, none⟩), .int .i64 ((2 + half * hof n + pre.length / 64 : Nat) : Int), bv, .agg #[.int .i64 ((j.seq : Int) + 1), .int .i64 (half : Int), .int .i64 ((pre.length : Int) + ((mk (Frm.all a)).size : Int))]]
            ((w3.setCell ⟨w.heap.size, 0, none⟩ (.int .i64 ((j.seq : Int) + 1))).setCell ⟨w.heap.size, 2, none⟩ (.int .i64 ((pre.length : Int) + ((mk (Frm.all a)).size : Int)))) fun e w' =>
            e = .returned (.int .i64 (commit (hof n) j.seq half pre (Frm.all a) d).1) ∧ Doing AtL ((w3.setCell ⟨w.heap.size, 0, none⟩ (.int .i64 ((j.seq : Int) + 1))).setCell ⟨w.heap.size, 2, none⟩ (.int .i64 ((pre.length : Int) + ((mk (Frm.all a)).size : Int)))) F1 dv (commit (hof n) j.seq half pre (Frm.all a) d).2 w') := Lib.hid (fun w3 bv hb3 hz3 hbv => by
        have hws := ws_below (x := .int .i64 ((j.seq : Int) + 1)) (y := .int .i64 ((pre.length : Int) + ((mk (Frm.all a)).size : Int))) hb3
        have hbs := ws_bytes (x := .int .i64 ((j.seq : Int) + 1)) (y := .int .i64 ((pre.length : Int) + ((mk (Frm.all a)).size : Int))) hbv hz3
        rw [mk_data, tail_join] at hbs
        have hw := hws.size
        have hzz : ((w3.setCell ⟨w.heap.size, 0, none⟩ (.int .i64 ((j.seq : Int) + 1))).setCell ⟨w.heap.size, 2, none⟩ (.int .i64 ((pre.length : Int) + ((mk (Frm.all a)).size : Int)))).heap.size = w3.heap.size := by simp [World.setCell]
        have hin : w3.heap.size ≤ ((w3.setCell ⟨w.heap.size, 0, none⟩ (.int .i64 ((j.seq : Int) + 1))).setCell ⟨w.heap.size, 2, none⟩ (.int .i64 ((pre.length : Int) + ((mk (Frm.all a)).size : Int)))).heap.size := by omega
        have hr := (hrow.below hws hbw)
        have hlen : (pre ++ Frm.all a).length = pre.length + (Frm.all a).length := List.length_append
        have e1 : ((j.seq : Int) + 1) = ((j.seq + 1 : Nat) : Int) := by omega
        have e2 : (pre.length : Int) + ((mk (Frm.all a)).size : Int) = (((pre ++ Frm.all a).length : Nat) : Int) := by omega
        generalize (w3.setCell ⟨w.heap.size, 0, none⟩ (.int .i64 ((j.seq : Int) + 1))).setCell ⟨w.heap.size, 2, none⟩ (.int .i64 ((pre.length : Int) + ((mk (Frm.all a)).size : Int))) = ws at *
        rw [e1, e2]
        unfold commit
        refine write_any (base := 2 + half * hof n) (i0 := pre.length / 64) (all := pre ++ Frm.all a) (c := ((pre ++ Frm.all a).length + 63) / 64 - pre.length / 64) (atl_below h hws) hs.fine ?_ (hr.at 0) hbn (by omega) (fun i hi => ⟨by have := hi.2; omega, fun hf => by have := h1lt i hf; have := hi.1; omega⟩) hbs ?_ ?_ ?_ (by omega) (by omega) (by omega)
        · omega
        · omega
        · omega
        · omega)
      rw [hk]
      unfold lays
      have Hfits := Lib.hid hfits
      have Hsum : Hid ((tailB pre).length + (mk (Frm.all a)).size ≤ 1000000000) := Lib.hid (by unfold tailB; rw [List.length_drop]; omega)
      have Hbn := Lib.hid hbn
      have H1lt := Lib.hid h1lt
      have Hsm : Hid ((tailB pre ++ (mk (Frm.all a)).data.toList).length ≤ 1000000) := Lib.hid (by rw [mk_data, tail_join, List.length_drop]; omega)
      have hseqI : (j.seq : Int) ≤ 9223372036854775806 := by omega
      have hxI : ((mk (Frm.all a)).size : Int) ≤ 65536 := by omega
      have Hrow0 := Lib.hid hrow
      have Hfin : Hid (∀ (wa wb wc wf : World) (dn : D) (Ft : Nat → Prop) (tvn : Value) (jn : J), Below w.heap.size w wa → Doing AtL wa F1 dv dn wb → Below wb.heap.size wb wc → Kept (fun i => i = b) wc wf → Row wf b 106 (jcells dv jn.seq jn.half jn.bytes.length tvn jn.broken) → BytesAt wf Ft tvn (tailB jn.bytes) → (∀ i, Ft i → (F2 i ∧ i ≠ b) ∨ (wb.heap.size ≤ i ∧ i < wc.heap.size)) → jn.half ≤ 1 → jn.bytes.length ≤ 64 * hof n → jn.seq < 9223372036854775808 →
          JAt AtL JOwn wf (Grow F w wf) dv (.pointer (some ⟨b, 0, none⟩)) n dn jn ∧ Kept F w wf) := Lib.hid (fun wa wb wc wf dn Ft tvn jn k1 k2 k3 k4 k5 k6 k7 k8 k9 k10 => keep_end h1lt h2 hb h3 h4 h5 k1 k2 k3 k4 k5 k6 k7 k8 k9 k10)
      have Ht0 : Hid (∀ wa wb dn, Below w.heap.size w wa → Doing AtL wa F1 dv dn wb → BytesAt wb (fun i => F2 i ∧ i ≠ b) tv0 (tailB j.bytes)) := Lib.hid (fun wa wb dn k1 k2 => (ht0.kept (Kept.ofBelow k1 (fun _ => False)) (fun _ _ h => h)).kept k2.2 (fun i hi hf => h3 i hf hi.1))
      have Hjj : Hid (j.half ≤ 1 ∧ j.bytes.length ≤ 64 * hof n ∧ j.seq < 9223372036854775807 ∧ half ≤ 1) := Lib.hid ⟨hjh, hjf, hq, hhalf⟩
      have Hxs := Lib.hid hxs
      have Hnew : Hid ((mk (Frm.all a)).data.toList = Frm.all a) := Lib.hid (mk_data _)
      generalize commit (hof n) j.seq half pre (Frm.all a) d = R at *
      obtain ⟨x, dn⟩ := R
      simp only at *
      clear h hs hrow hlv ht0 htv hbox hn h4n hho hhb hfit hbn h1lt h3 hxs hfull hpre hjf hk hbig hle ha hat hjh hq hhalf hfits
      rcases hcut with ⟨rfl, e0⟩ | ⟨g, o, cc, rfl, hcc, hg, hcell⟩
      · have Hcut0 : Hid (∀ W, Cells W (fun _ => False) (.slice none 0 0) (Lib.byteCells (tailB pre))) := Lib.hid (fun W => by rw [e0]; exact Cells.none _ _)
        rw [e0, List.length_nil] at Hsum
        clear e0
        generalize ((2 + half * hof n + pre.length / 64 : Nat) : Int) = AT at *
        have hUeq : Hid ((pre.length : Int) + ((mk (Frm.all a)).size : Int) = (((pre ++ Frm.all a).length : Nat) : Int)) := Lib.hid (by rw [List.length_append, Hxs.out]; push_cast; rfl)
        have htt : Hid (tailB (tailB pre ++ (mk (Frm.all a)).data.toList) = tailB (pre ++ Frm.all a)) := Lib.hid (by rw [Hnew.out, tail_join]; exact tail_tail _ _ (by rw [List.length_append]; omega))
        generalize hU : (pre.length : Int) = U at *
        generalize ((64 * hof n : Nat) : Int) = V at *
        generalize mk (Frm.all a) = X at *
        clear hU
        have Hbw := Lib.hid hbw
        by_cases hx : x = 0
        · simp only [if_pos hx]
          subst hx
          go_enter Tryz.func55, Tryz.ntmps55
          go_wp2_with (go_at_call 81; refine (HLay.out _ ((Below.refl _ _).alloc (Nat.le_refl _) _)).mono ?_; rintro e w2 ⟨rfl, hb2⟩
                       have HB2 := Lib.hid (((Below.refl _ _).alloc (Nat.le_refl _) _).trans (hb2.mono (by simp)))
                       have hbx := Hbox.out.below hb2 (by simp)
                       have HBx : Hid (∀ w', Below w2.heap.size w2 w' → Row w' w.heap.size 96 #[.int .i64 (j.seq : Int), .int .i64 (half : Int), .int .i64 U]) := Lib.hid (fun w' hb => hbx.below hb hbx.inHeap)
                       clear hb2 hbx)
          refine wp_region_held_drew (S := (Below w2.heap.size w2)) (by kernel_rfl) (Below.drew (Below.refl _ _)) (fun hHeld => ?_)
          refine wpAnyH_take (i := 0) (v := ?_) rfl (by kernel_rfl) (by kernel_rfl) (by kernel_rfl) (fun _ _ _ h => h) (Or.inl ⟨by rfl, (by intro w hSw; go_simp; try with_reducible rfl)⟩) (by assumption) ?_
          simp only [Act.put, List.getElem_toArray, List.getElem_cons_zero, List.getElem_cons_succ, List.setIfInBounds_toArray, List.set_cons_zero, List.set_cons_succ]
          refine wpAnyH_take (i := 1) (v := ?_) rfl (by kernel_rfl) (by kernel_rfl) (by kernel_rfl) (fun _ _ _ h => h) (Or.inl ⟨by rfl, (by intro w hSw; go_simp; try with_reducible rfl)⟩) (by assumption) ?_
          simp only [Act.put, List.getElem_toArray, List.getElem_cons_zero, List.getElem_cons_succ, List.setIfInBounds_toArray, List.set_cons_zero, List.set_cons_succ]
          refine wpAnyH_take (i := 2) (v := ?_) rfl (by kernel_rfl) (by kernel_rfl) (by kernel_rfl) (fun _ _ _ h => h) (Or.inl ⟨by rfl, (by intro w hSw; go_simp; try with_reducible rfl)⟩) (by assumption) ?_
          simp only [Act.put, List.getElem_toArray, List.getElem_cons_zero, List.getElem_cons_succ, List.setIfInBounds_toArray, List.set_cons_zero, List.set_cons_succ]
          refine wpAnyH_take (i := 3) (v := ?_) rfl (by kernel_rfl) (by kernel_rfl) (by kernel_rfl) (fun _ _ _ h => h) (Or.inl ⟨by rfl, (by intro w hSw; go_simp; try with_reducible rfl)⟩) (by assumption) ?_
          simp only [Act.put, List.getElem_toArray, List.getElem_cons_zero, List.getElem_cons_succ, List.setIfInBounds_toArray, List.set_cons_zero, List.set_cons_succ]
          refine wpAnyH_take (i := 4) (v := ?_) rfl (by kernel_rfl) (by kernel_rfl) (by kernel_rfl) (fun _ _ _ h => h) (Or.inl ⟨by rfl, (by intro w hSw; go_simp; try with_reducible rfl)⟩) (by assumption) ?_
          simp only [Act.put, List.getElem_toArray, List.getElem_cons_zero, List.getElem_cons_succ, List.setIfInBounds_toArray, List.set_cons_zero, List.set_cons_succ]
          refine wpAnyH_take (i := 5) (v := ?_) rfl (by kernel_rfl) (by kernel_rfl) (by kernel_rfl) (fun _ _ _ h => h) (Or.inl ⟨by rfl, (by intro w hSw; have c0 : w.cell? ⟨b, 0, none⟩ = some dv := (HCell.out w (HB2.out.trans (hSw.mono HB2.out.size))).at 0; go_simp; try with_reducible rfl)⟩) (by assumption) ?_
          simp only [Act.put, List.getElem_toArray, List.getElem_cons_zero, List.getElem_cons_succ, List.setIfInBounds_toArray, List.set_cons_zero, List.set_cons_succ]
          refine wpAnyH_take (i := 7) (v := ?_) rfl (by kernel_rfl) (by kernel_rfl) (by kernel_rfl) (fun _ _ _ h => h) (Or.inl ⟨by rfl, (by intro w hSw; go_simp; try with_reducible rfl)⟩) (by assumption) ?_
          simp only [Act.put, List.getElem_toArray, List.getElem_cons_zero, List.getElem_cons_succ, List.setIfInBounds_toArray, List.set_cons_zero, List.set_cons_succ]
          refine wpAnyH_take (i := 8) (v := ?_) rfl (by kernel_rfl) (by kernel_rfl) (by kernel_rfl) (fun _ _ _ h => h) (Or.inl ⟨by rfl, (by intro w hSw; have c2 := (HBx.out w hSw).at 2; go_simp; try with_reducible rfl)⟩) (by assumption) ?_
          simp only [Act.put, List.getElem_toArray, List.getElem_cons_zero, List.getElem_cons_succ, List.setIfInBounds_toArray, List.set_cons_zero, List.set_cons_succ]
          refine wpAnyH_ready (rs := [6]) (by kernel_rfl) (by simp) ?_
          refine AllReadyH.cons rfl (fun K hK => ?_) AllReadyH.nil
          go_simp
          go_at_call 66
          refine (HB.out _ (HB2.out.trans (hHeld.mono HB2.out.size))).mono ?_
          rintro e w3 ⟨rfl, rfl⟩
          refine hK.out _ _ hHeld (fun hHeld => ?_)
          clear hK K
          refine wpAnyH_take (i := 9) (v := ?_) rfl (by kernel_rfl) (by kernel_rfl) (by kernel_rfl) (fun _ _ _ h => h) (Or.inl ⟨by rfl, (by intro w hSw; go_simp; try with_reducible rfl)⟩) (by assumption) ?_
          simp only [Act.put, List.getElem_toArray, List.getElem_cons_zero, List.getElem_cons_succ, List.setIfInBounds_toArray, List.set_cons_zero, List.set_cons_succ]
          refine wpAnyH_take (i := 10) (v := ?_) rfl (by kernel_rfl) (by kernel_rfl) (by kernel_rfl) (fun _ _ _ h => h) (Or.inl ⟨by rfl, (by intro w hSw; go_simp; try with_reducible rfl)⟩) (by assumption) ?_
          simp only [Act.put, List.getElem_toArray, List.getElem_cons_zero, List.getElem_cons_succ, List.setIfInBounds_toArray, List.set_cons_zero, List.set_cons_succ]
          refine wpAnyH_done (by kernel_rfl) ?_ _
          have HH := Lib.hid hHeld
          clear hHeld
          go_wp2_with fail
          refine wp_region_held_drew (S := (Below w2.heap.size w2)) (by kernel_rfl) (Below.drew HH.out) (fun hHeld => ?_)
          refine wpAnyH_take (i := 0) (v := ?_) rfl (by kernel_rfl) (by kernel_rfl) (by kernel_rfl) (fun _ _ _ h => h) (Or.inl ⟨by rfl, (by intro w hSw; go_simp; try with_reducible rfl)⟩) (by assumption) ?_
          simp only [Act.put, List.getElem_toArray, List.getElem_cons_zero, List.getElem_cons_succ, List.setIfInBounds_toArray, List.set_cons_zero, List.set_cons_succ]
          refine wpAnyH_take (i := 1) (v := ?_) rfl (by kernel_rfl) (by kernel_rfl) (by kernel_rfl) (fun _ _ _ h => h) (Or.inl ⟨by rfl, (by intro w hSw; go_simp; try with_reducible rfl)⟩) (by assumption) ?_
          simp only [Act.put, List.getElem_toArray, List.getElem_cons_zero, List.getElem_cons_succ, List.setIfInBounds_toArray, List.set_cons_zero, List.set_cons_succ]
          refine wpAnyH_take (i := 2) (v := ?_) rfl (by kernel_rfl) (by kernel_rfl) (by kernel_rfl) (fun _ _ _ h => h) (Or.inl ⟨by rfl, (by intro w hSw; go_simp; try with_reducible rfl)⟩) (by assumption) ?_
          simp only [Act.put, List.getElem_toArray, List.getElem_cons_zero, List.getElem_cons_succ, List.setIfInBounds_toArray, List.set_cons_zero, List.set_cons_succ]
          refine wpAnyH_take (i := 3) (v := ?_) rfl (by kernel_rfl) (by kernel_rfl) (by kernel_rfl) (fun _ _ _ h => h) (Or.inl ⟨by rfl, (by intro w hSw; have c0 : w.cell? ⟨b, 0, none⟩ = some dv := (HCell.out w (HB2.out.trans (hSw.mono HB2.out.size))).at 0; go_simp; try with_reducible rfl)⟩) (by assumption) ?_
          simp only [Act.put, List.getElem_toArray, List.getElem_cons_zero, List.getElem_cons_succ, List.setIfInBounds_toArray, List.set_cons_zero, List.set_cons_succ]
          refine wpAnyH_take (i := 4) (v := ?_) rfl (by kernel_rfl) (by kernel_rfl) (by kernel_rfl) (fun _ _ _ h => h) (Or.inl ⟨by rfl, (by intro w hSw; go_simp; try with_reducible rfl)⟩) (by assumption) ?_
          simp only [Act.put, List.getElem_toArray, List.getElem_cons_zero, List.getElem_cons_succ, List.setIfInBounds_toArray, List.set_cons_zero, List.set_cons_succ]
          refine wpAnyH_take (i := 5) (v := ?_) rfl (by kernel_rfl) (by kernel_rfl) (by kernel_rfl) (fun _ _ _ h => h) (Or.inl ⟨by rfl, (by intro w hSw; have c1 := (HBx.out w hSw).at 1; go_simp; try with_reducible rfl)⟩) (by assumption) ?_
          simp only [Act.put, List.getElem_toArray, List.getElem_cons_zero, List.getElem_cons_succ, List.setIfInBounds_toArray, List.set_cons_zero, List.set_cons_succ]
          refine wpAnyH_take (i := 6) (v := ?_) rfl (by kernel_rfl) (by kernel_rfl) (by kernel_rfl) (fun _ _ _ h => h) (Or.inl ⟨by rfl, (by intro w hSw; go_simp; try with_reducible rfl)⟩) (by assumption) ?_
          simp only [Act.put, List.getElem_toArray, List.getElem_cons_zero, List.getElem_cons_succ, List.setIfInBounds_toArray, List.set_cons_zero, List.set_cons_succ]
          refine wpAnyH_take (i := 7) (v := ?_) rfl (by kernel_rfl) (by kernel_rfl) (by kernel_rfl) (fun _ _ _ h => h) (Or.inl ⟨by rfl, (by intro w hSw; have c2 := (HBx.out w hSw).at 2; go_simp; try with_reducible rfl)⟩) (by assumption) ?_
          simp only [Act.put, List.getElem_toArray, List.getElem_cons_zero, List.getElem_cons_succ, List.setIfInBounds_toArray, List.set_cons_zero, List.set_cons_succ]
          refine wpAnyH_ready (rs := [8]) (by kernel_rfl) (by simp) ?_
          refine AllReadyH.cons rfl (fun K hK => ?_) AllReadyH.nil
          go_simp
          go_at_call 78
          refine (HSec.out _ (HB2.out.trans (hHeld.mono HB2.out.size))).mono ?_
          rintro e w3 ⟨rfl, rfl⟩
          refine hK.out _ _ hHeld (fun hHeld => ?_)
          clear hK K
          refine wpAnyH_take (i := 9) (v := ?_) rfl (by kernel_rfl) (by kernel_rfl) (by kernel_rfl) (fun _ _ _ h => h) (Or.inl ⟨by rfl, (by intro w hSw; go_simp; try with_reducible rfl)⟩) (by assumption) ?_
          simp only [Act.put, List.getElem_toArray, List.getElem_cons_zero, List.getElem_cons_succ, List.setIfInBounds_toArray, List.set_cons_zero, List.set_cons_succ]
          refine wpAnyH_done (by kernel_rfl) ?_ _
          have HW := Lib.hid (HB2.out.trans (hHeld.mono HB2.out.size))
          have HBw := Lib.hid (HBx.out _ hHeld)
          clear hHeld HH
          go_wp2_with (first
            | (at_builtin; refine wp_string_full (F := fun _ => False) (A := none) (n := 0) (l := tailB pre) (s := X) rfl _ _ rfl (by rfl) (by rfl) (Hcut0.out _) (Or.inr rfl) Hsum.out ?_
               intro bv w3 hba hbl
               have hW3 := HW.out.trans (hbl.mono HW.out.size)
               have hb3 := HBw.out.below hbl HBw.out.inHeap
               have c0 := hb3.at 0
               have c1 := hb3.at 1
               have c2 := hb3.at 2
               have f0 := hb3.free 0
               have f2 := hb3.free 2
               have hz3 := Nat.lt_of_lt_of_le HBw.out.inHeap hbl.size
               have hwr := HWR.out w3 bv hW3 hz3 (hba.mono (fun i hi => ⟨Nat.lt_of_lt_of_le HBw.out.inHeap hi.1, hi.2⟩))
               have Hwr := Lib.hid hwr
               have Hb3 := Lib.hid hb3
               have Hba := Lib.hid (hba.mono (G := fun i => w.heap.size < i ∧ i < w3.heap.size) (fun i hi => ⟨Nat.lt_of_lt_of_le HBw.out.inHeap hi.1, hi.2⟩))
               have HW3 := Lib.hid hW3
               have Hz3 := Lib.hid hz3
               clear hwr hb3 hba hW3 hbl hz3)
            | (go_at_call 82; refine Hwr.out.mono ?_
               rintro e wb ⟨rfl, kb⟩
               have hws := ws_below (x := .int .i64 ((j.seq : Int) + 1)) (y := .int .i64 (U + (X.size : Int))) HW3.out
               have hrb := (HCell.out _ hws).kept kb.2 Hbn.out
               have c5 : wb.cell? ⟨b, 5, none⟩ = some (.bool false) := hrb.at 5
               have f5 := hrb.free 5
               have HRow := Lib.hid hrb
               have Hkb := Lib.hid kb
               have Hws := Lib.hid hws
               have HBb := Lib.hid (keep_box Hb3.out kb H1lt.out)
               have HbB := Lib.hid (keep_tail Hba.out Hz3.out kb H1lt.out)
               clear hrb kb hws))
          refine wp_region_held_drew (S := (fun w' => Row w' w.heap.size 96 #[.int .i64 ((j.seq : Int) + 1), .int .i64 (half : Int), .int .i64 (U + (X.size : Int))])) (by kernel_rfl) (HBb.out _ (Below.drew (Below.refl _ _))) (fun hHeld => ?_)
          refine wpAnyH_take (i := 0) (v := ?_) rfl (by kernel_rfl) (by kernel_rfl) (by kernel_rfl) (fun _ _ _ h => h) (Or.inl ⟨by rfl, (by intro w hSw; go_simp; try with_reducible rfl)⟩) (by assumption) ?_
          simp only [Act.put, List.getElem_toArray, List.getElem_cons_zero, List.getElem_cons_succ, List.setIfInBounds_toArray, List.set_cons_zero, List.set_cons_succ]
          refine wpAnyH_take (i := 1) (v := ?_) rfl (by kernel_rfl) (by kernel_rfl) (by kernel_rfl) (fun _ _ _ h => h) (Or.inl ⟨by rfl, (by intro w hSw; go_simp; try with_reducible rfl)⟩) (by assumption) ?_
          simp only [Act.put, List.getElem_toArray, List.getElem_cons_zero, List.getElem_cons_succ, List.setIfInBounds_toArray, List.set_cons_zero, List.set_cons_succ]
          refine wpAnyH_take (i := 2) (v := ?_) rfl (by kernel_rfl) (by kernel_rfl) (by kernel_rfl) (fun _ _ _ h => h) (Or.inl ⟨by rfl, (by intro w hSw; have c0 := Row.at hSw 0; have c1 := Row.at hSw 1; have c2 := Row.at hSw 2; go_simp; try with_reducible rfl)⟩) (by assumption) ?_
          simp only [Act.put, List.getElem_toArray, List.getElem_cons_zero, List.getElem_cons_succ, List.setIfInBounds_toArray, List.set_cons_zero, List.set_cons_succ]
          refine wpAnyH_take (i := 3) (v := ?_) rfl (by kernel_rfl) (by kernel_rfl) (by kernel_rfl) (fun _ _ _ h => h) (Or.inl ⟨by rfl, (by intro w hSw; go_simp; try with_reducible rfl)⟩) (by assumption) ?_
          simp only [Act.put, List.getElem_toArray, List.getElem_cons_zero, List.getElem_cons_succ, List.setIfInBounds_toArray, List.set_cons_zero, List.set_cons_succ]
          refine wpAnyH_ready (rs := [4]) (by kernel_rfl) (by simp) ?_
          refine AllReadyH.cons rfl (fun K hK => ?_) AllReadyH.nil
          go_simp
          go_at_call 53
          refine (tail_of (HbB.out.below (Below.drew (Below.refl _ _))) Hsm.out).mono ?_
          rintro e wc ⟨tv2, rfl, ht2, hb2⟩
          obtain ⟨A2, ct2, rfl⟩ := ht2.form
          have hbc : Below wb.heap.size wb wc := (Below.drew (Below.refl _ _)).trans hb2
          have hrc := HRow.out.below hbc HRow.out.inHeap
          have d1 : wc.cell? ⟨b, 1, none⟩ = some (.int .i64 (j.seq : Int)) := hrc.at 1
          have d2 : wc.cell? ⟨b, 2, none⟩ = some (.int .i64 (j.half : Int)) := hrc.at 2
          have d3 : wc.cell? ⟨b, 3, none⟩ = some (.int .i64 (j.bytes.length : Int)) := hrc.at 3
          have d4 : wc.cell? ⟨b, 4, none⟩ = some tv0 := hrc.at 4
          have f1 := hrc.free 1
          have f2 := hrc.free 2
          have f3 := hrc.free 3
          have f4 := hrc.free 4
          have Hbc := Lib.hid hbc
          have Hrc := Lib.hid hrc
          have Ht2 := Lib.hid (ht2.mono (G := fun i => wb.heap.size ≤ i ∧ i < wc.heap.size) (fun i hi => hi))
          have hS4 := hHeld.below hb2 hHeld.inHeap
          clear hbc hrc ht2 hb2
          refine hK.out _ _ hS4 (fun hHeld => ?_)
          clear hS4
          clear hK K
          refine wpAnyH_take (i := 5) (v := ?_) rfl (by kernel_rfl) (by kernel_rfl) (by kernel_rfl) (fun _ _ _ h => h) (Or.inl ⟨by rfl, (by intro w hSw; go_simp; try with_reducible rfl)⟩) (by assumption) ?_
          simp only [Act.put, List.getElem_toArray, List.getElem_cons_zero, List.getElem_cons_succ, List.setIfInBounds_toArray, List.set_cons_zero, List.set_cons_succ]
          refine wpAnyH_take (i := 6) (v := ?_) rfl (by kernel_rfl) (by kernel_rfl) (by kernel_rfl) (fun _ _ _ h => h) (Or.inl ⟨by rfl, (by intro w hSw; go_simp; try with_reducible rfl)⟩) (by assumption) ?_
          simp only [Act.put, List.getElem_toArray, List.getElem_cons_zero, List.getElem_cons_succ, List.setIfInBounds_toArray, List.set_cons_zero, List.set_cons_succ]
          refine wpAnyH_ready (rs := [7]) (by kernel_rfl) (by simp) ?_
          refine AllReadyH.cons rfl (fun K hK => ?_) AllReadyH.nil
          go_simp
          refine hK.out _ _ (hHeld.kept j_three_kept (fun e => by have := Hbw.out; omega)) (fun hHeld => ?_)
          clear hK K
          refine wpAnyH_take (i := 8) (v := ?_) rfl (by kernel_rfl) (by kernel_rfl) (by kernel_rfl) (fun _ _ _ h => h) (Or.inl ⟨by rfl, (by intro w hSw; go_simp; try with_reducible rfl)⟩) (by assumption) ?_
          simp only [Act.put, List.getElem_toArray, List.getElem_cons_zero, List.getElem_cons_succ, List.setIfInBounds_toArray, List.set_cons_zero, List.set_cons_succ]
          refine wpAnyH_take (i := 9) (v := ?_) rfl (by kernel_rfl) (by kernel_rfl) (by kernel_rfl) (fun _ _ _ h => h) (Or.inl ⟨by rfl, (by intro w hSw; go_simp; try with_reducible rfl)⟩) (by assumption) ?_
          simp only [Act.put, List.getElem_toArray, List.getElem_cons_zero, List.getElem_cons_succ, List.setIfInBounds_toArray, List.set_cons_zero, List.set_cons_succ]
          refine wpAnyH_ready (rs := [10]) (by kernel_rfl) (by simp) ?_
          refine AllReadyH.cons rfl (fun K hK => ?_) AllReadyH.nil
          go_simp
          refine hK.out _ _ (hHeld.kept ((Kept.refl (fun i => i = b) _).stored (p := ⟨b, 4, none⟩) (Or.inl rfl) _) (fun e => by have := Hbw.out; omega)) (fun hHeld => ?_)
          clear hK K
          refine wpAnyH_done (by kernel_rfl) ?_ _
          have hend := Hfin.out _ wb wc _ dn _ _ ⟨j.seq + 1, half, pre ++ Frm.all a, false⟩ Hws.out Hkb.out Hbc.out (j_stored_kept (b := b) (x := .int .i64 ((j.seq : Int) + 1)) (y := .int .i64 (half : Int)) (z := .int .i64 (U + (X.size : Int))) (t := .slice A2 (tailB (tailB pre ++ X.data.toList)).length ct2)) (j_stored Hrc.out (by push_cast; rfl) hUeq.out) (by
            have hb4 := (Ht2.out.kept (j_stored_kept (b := b) (w := wc) (x := .int .i64 ((j.seq : Int) + 1)) (y := .int .i64 (half : Int)) (z := .int .i64 (U + (X.size : Int))) (t := .slice A2 (tailB (tailB pre ++ X.data.toList)).length ct2)) (fun i hi e => by have := Hbw.out; have := Hws.out.size; have := Hkb.out.2.size; have := hi.1; omega))
            exact hb4.eq htt.out) (fun i hi => Or.inr hi) Hjj.out.2.2.2 Hfits.out (by have := Hjj.out.2.2.1; show j.seq + 1 < _; omega)
          have Hend := Lib.hid hend
          clear hend hHeld d1 d2 d3 d4 f1 f2 f3 f4 c5 f5
          go_wp2_with fail
          go_ret
          exact ⟨rfl, Hend.out⟩
        · simp only [if_neg hx]
          have hxb : (x != 0) = true := by simpa using hx
          clear hx
          go_enter Tryz.func55, Tryz.ntmps55
          go_wp2_with (go_at_call 81; refine (HLay.out _ ((Below.refl _ _).alloc (Nat.le_refl _) _)).mono ?_; rintro e w2 ⟨rfl, hb2⟩
                       have HB2 := Lib.hid (((Below.refl _ _).alloc (Nat.le_refl _) _).trans (hb2.mono (by simp)))
                       have hbx := Hbox.out.below hb2 (by simp)
                       have HBx : Hid (∀ w', Below w2.heap.size w2 w' → Row w' w.heap.size 96 #[.int .i64 (j.seq : Int), .int .i64 (half : Int), .int .i64 U]) := Lib.hid (fun w' hb => hbx.below hb hbx.inHeap)
                       clear hb2 hbx)
          refine wp_region_held_drew (S := (Below w2.heap.size w2)) (by kernel_rfl) (Below.drew (Below.refl _ _)) (fun hHeld => ?_)
          refine wpAnyH_take (i := 0) (v := ?_) rfl (by kernel_rfl) (by kernel_rfl) (by kernel_rfl) (fun _ _ _ h => h) (Or.inl ⟨by rfl, (by intro w hSw; go_simp; try with_reducible rfl)⟩) (by assumption) ?_
          simp only [Act.put, List.getElem_toArray, List.getElem_cons_zero, List.getElem_cons_succ, List.setIfInBounds_toArray, List.set_cons_zero, List.set_cons_succ]
          refine wpAnyH_take (i := 1) (v := ?_) rfl (by kernel_rfl) (by kernel_rfl) (by kernel_rfl) (fun _ _ _ h => h) (Or.inl ⟨by rfl, (by intro w hSw; go_simp; try with_reducible rfl)⟩) (by assumption) ?_
          simp only [Act.put, List.getElem_toArray, List.getElem_cons_zero, List.getElem_cons_succ, List.setIfInBounds_toArray, List.set_cons_zero, List.set_cons_succ]
          refine wpAnyH_take (i := 2) (v := ?_) rfl (by kernel_rfl) (by kernel_rfl) (by kernel_rfl) (fun _ _ _ h => h) (Or.inl ⟨by rfl, (by intro w hSw; go_simp; try with_reducible rfl)⟩) (by assumption) ?_
          simp only [Act.put, List.getElem_toArray, List.getElem_cons_zero, List.getElem_cons_succ, List.setIfInBounds_toArray, List.set_cons_zero, List.set_cons_succ]
          refine wpAnyH_take (i := 3) (v := ?_) rfl (by kernel_rfl) (by kernel_rfl) (by kernel_rfl) (fun _ _ _ h => h) (Or.inl ⟨by rfl, (by intro w hSw; go_simp; try with_reducible rfl)⟩) (by assumption) ?_
          simp only [Act.put, List.getElem_toArray, List.getElem_cons_zero, List.getElem_cons_succ, List.setIfInBounds_toArray, List.set_cons_zero, List.set_cons_succ]
          refine wpAnyH_take (i := 4) (v := ?_) rfl (by kernel_rfl) (by kernel_rfl) (by kernel_rfl) (fun _ _ _ h => h) (Or.inl ⟨by rfl, (by intro w hSw; go_simp; try with_reducible rfl)⟩) (by assumption) ?_
          simp only [Act.put, List.getElem_toArray, List.getElem_cons_zero, List.getElem_cons_succ, List.setIfInBounds_toArray, List.set_cons_zero, List.set_cons_succ]
          refine wpAnyH_take (i := 5) (v := ?_) rfl (by kernel_rfl) (by kernel_rfl) (by kernel_rfl) (fun _ _ _ h => h) (Or.inl ⟨by rfl, (by intro w hSw; have c0 : w.cell? ⟨b, 0, none⟩ = some dv := (HCell.out w (HB2.out.trans (hSw.mono HB2.out.size))).at 0; go_simp; try with_reducible rfl)⟩) (by assumption) ?_
          simp only [Act.put, List.getElem_toArray, List.getElem_cons_zero, List.getElem_cons_succ, List.setIfInBounds_toArray, List.set_cons_zero, List.set_cons_succ]
          refine wpAnyH_take (i := 7) (v := ?_) rfl (by kernel_rfl) (by kernel_rfl) (by kernel_rfl) (fun _ _ _ h => h) (Or.inl ⟨by rfl, (by intro w hSw; go_simp; try with_reducible rfl)⟩) (by assumption) ?_
          simp only [Act.put, List.getElem_toArray, List.getElem_cons_zero, List.getElem_cons_succ, List.setIfInBounds_toArray, List.set_cons_zero, List.set_cons_succ]
          refine wpAnyH_take (i := 8) (v := ?_) rfl (by kernel_rfl) (by kernel_rfl) (by kernel_rfl) (fun _ _ _ h => h) (Or.inl ⟨by rfl, (by intro w hSw; have c2 := (HBx.out w hSw).at 2; go_simp; try with_reducible rfl)⟩) (by assumption) ?_
          simp only [Act.put, List.getElem_toArray, List.getElem_cons_zero, List.getElem_cons_succ, List.setIfInBounds_toArray, List.set_cons_zero, List.set_cons_succ]
          refine wpAnyH_ready (rs := [6]) (by kernel_rfl) (by simp) ?_
          refine AllReadyH.cons rfl (fun K hK => ?_) AllReadyH.nil
          go_simp
          go_at_call 66
          refine (HB.out _ (HB2.out.trans (hHeld.mono HB2.out.size))).mono ?_
          rintro e w3 ⟨rfl, rfl⟩
          refine hK.out _ _ hHeld (fun hHeld => ?_)
          clear hK K
          refine wpAnyH_take (i := 9) (v := ?_) rfl (by kernel_rfl) (by kernel_rfl) (by kernel_rfl) (fun _ _ _ h => h) (Or.inl ⟨by rfl, (by intro w hSw; go_simp; try with_reducible rfl)⟩) (by assumption) ?_
          simp only [Act.put, List.getElem_toArray, List.getElem_cons_zero, List.getElem_cons_succ, List.setIfInBounds_toArray, List.set_cons_zero, List.set_cons_succ]
          refine wpAnyH_take (i := 10) (v := ?_) rfl (by kernel_rfl) (by kernel_rfl) (by kernel_rfl) (fun _ _ _ h => h) (Or.inl ⟨by rfl, (by intro w hSw; go_simp; try with_reducible rfl)⟩) (by assumption) ?_
          simp only [Act.put, List.getElem_toArray, List.getElem_cons_zero, List.getElem_cons_succ, List.setIfInBounds_toArray, List.set_cons_zero, List.set_cons_succ]
          refine wpAnyH_done (by kernel_rfl) ?_ _
          have HH := Lib.hid hHeld
          clear hHeld
          go_wp2_with fail
          refine wp_region_held_drew (S := (Below w2.heap.size w2)) (by kernel_rfl) (Below.drew HH.out) (fun hHeld => ?_)
          refine wpAnyH_take (i := 0) (v := ?_) rfl (by kernel_rfl) (by kernel_rfl) (by kernel_rfl) (fun _ _ _ h => h) (Or.inl ⟨by rfl, (by intro w hSw; go_simp; try with_reducible rfl)⟩) (by assumption) ?_
          simp only [Act.put, List.getElem_toArray, List.getElem_cons_zero, List.getElem_cons_succ, List.setIfInBounds_toArray, List.set_cons_zero, List.set_cons_succ]
          refine wpAnyH_take (i := 1) (v := ?_) rfl (by kernel_rfl) (by kernel_rfl) (by kernel_rfl) (fun _ _ _ h => h) (Or.inl ⟨by rfl, (by intro w hSw; go_simp; try with_reducible rfl)⟩) (by assumption) ?_
          simp only [Act.put, List.getElem_toArray, List.getElem_cons_zero, List.getElem_cons_succ, List.setIfInBounds_toArray, List.set_cons_zero, List.set_cons_succ]
          refine wpAnyH_take (i := 2) (v := ?_) rfl (by kernel_rfl) (by kernel_rfl) (by kernel_rfl) (fun _ _ _ h => h) (Or.inl ⟨by rfl, (by intro w hSw; go_simp; try with_reducible rfl)⟩) (by assumption) ?_
          simp only [Act.put, List.getElem_toArray, List.getElem_cons_zero, List.getElem_cons_succ, List.setIfInBounds_toArray, List.set_cons_zero, List.set_cons_succ]
          refine wpAnyH_take (i := 3) (v := ?_) rfl (by kernel_rfl) (by kernel_rfl) (by kernel_rfl) (fun _ _ _ h => h) (Or.inl ⟨by rfl, (by intro w hSw; have c0 : w.cell? ⟨b, 0, none⟩ = some dv := (HCell.out w (HB2.out.trans (hSw.mono HB2.out.size))).at 0; go_simp; try with_reducible rfl)⟩) (by assumption) ?_
          simp only [Act.put, List.getElem_toArray, List.getElem_cons_zero, List.getElem_cons_succ, List.setIfInBounds_toArray, List.set_cons_zero, List.set_cons_succ]
          refine wpAnyH_take (i := 4) (v := ?_) rfl (by kernel_rfl) (by kernel_rfl) (by kernel_rfl) (fun _ _ _ h => h) (Or.inl ⟨by rfl, (by intro w hSw; go_simp; try with_reducible rfl)⟩) (by assumption) ?_
          simp only [Act.put, List.getElem_toArray, List.getElem_cons_zero, List.getElem_cons_succ, List.setIfInBounds_toArray, List.set_cons_zero, List.set_cons_succ]
          refine wpAnyH_take (i := 5) (v := ?_) rfl (by kernel_rfl) (by kernel_rfl) (by kernel_rfl) (fun _ _ _ h => h) (Or.inl ⟨by rfl, (by intro w hSw; have c1 := (HBx.out w hSw).at 1; go_simp; try with_reducible rfl)⟩) (by assumption) ?_
          simp only [Act.put, List.getElem_toArray, List.getElem_cons_zero, List.getElem_cons_succ, List.setIfInBounds_toArray, List.set_cons_zero, List.set_cons_succ]
          refine wpAnyH_take (i := 6) (v := ?_) rfl (by kernel_rfl) (by kernel_rfl) (by kernel_rfl) (fun _ _ _ h => h) (Or.inl ⟨by rfl, (by intro w hSw; go_simp; try with_reducible rfl)⟩) (by assumption) ?_
          simp only [Act.put, List.getElem_toArray, List.getElem_cons_zero, List.getElem_cons_succ, List.setIfInBounds_toArray, List.set_cons_zero, List.set_cons_succ]
          refine wpAnyH_take (i := 7) (v := ?_) rfl (by kernel_rfl) (by kernel_rfl) (by kernel_rfl) (fun _ _ _ h => h) (Or.inl ⟨by rfl, (by intro w hSw; have c2 := (HBx.out w hSw).at 2; go_simp; try with_reducible rfl)⟩) (by assumption) ?_
          simp only [Act.put, List.getElem_toArray, List.getElem_cons_zero, List.getElem_cons_succ, List.setIfInBounds_toArray, List.set_cons_zero, List.set_cons_succ]
          refine wpAnyH_ready (rs := [8]) (by kernel_rfl) (by simp) ?_
          refine AllReadyH.cons rfl (fun K hK => ?_) AllReadyH.nil
          go_simp
          go_at_call 78
          refine (HSec.out _ (HB2.out.trans (hHeld.mono HB2.out.size))).mono ?_
          rintro e w3 ⟨rfl, rfl⟩
          refine hK.out _ _ hHeld (fun hHeld => ?_)
          clear hK K
          refine wpAnyH_take (i := 9) (v := ?_) rfl (by kernel_rfl) (by kernel_rfl) (by kernel_rfl) (fun _ _ _ h => h) (Or.inl ⟨by rfl, (by intro w hSw; go_simp; try with_reducible rfl)⟩) (by assumption) ?_
          simp only [Act.put, List.getElem_toArray, List.getElem_cons_zero, List.getElem_cons_succ, List.setIfInBounds_toArray, List.set_cons_zero, List.set_cons_succ]
          refine wpAnyH_done (by kernel_rfl) ?_ _
          have HW := Lib.hid (HB2.out.trans (hHeld.mono HB2.out.size))
          have HBw := Lib.hid (HBx.out _ hHeld)
          clear hHeld HH
          go_wp2_with (first
            | (at_builtin; refine wp_string_full (F := fun _ => False) (A := none) (n := 0) (l := tailB pre) (s := X) rfl _ _ rfl (by rfl) (by rfl) (Hcut0.out _) (Or.inr rfl) Hsum.out ?_
               intro bv w3 hba hbl
               have hW3 := HW.out.trans (hbl.mono HW.out.size)
               have hb3 := HBw.out.below hbl HBw.out.inHeap
               have c0 := hb3.at 0
               have c1 := hb3.at 1
               have c2 := hb3.at 2
               have f0 := hb3.free 0
               have f2 := hb3.free 2
               have hz3 := Nat.lt_of_lt_of_le HBw.out.inHeap hbl.size
               have hwr := HWR.out w3 bv hW3 hz3 (hba.mono (fun i hi => ⟨Nat.lt_of_lt_of_le HBw.out.inHeap hi.1, hi.2⟩))
               have Hwr := Lib.hid hwr
               have Hb3 := Lib.hid hb3
               have Hba := Lib.hid (hba.mono (G := fun i => w.heap.size < i ∧ i < w3.heap.size) (fun i hi => ⟨Nat.lt_of_lt_of_le HBw.out.inHeap hi.1, hi.2⟩))
               have HW3 := Lib.hid hW3
               have Hz3 := Lib.hid hz3
               clear hwr hb3 hba hW3 hbl hz3)
            | (go_at_call 82; refine Hwr.out.mono ?_
               rintro e wb ⟨rfl, kb⟩
               have hws := ws_below (x := .int .i64 ((j.seq : Int) + 1)) (y := .int .i64 (U + (X.size : Int))) HW3.out
               have hrb := (HCell.out _ hws).kept kb.2 Hbn.out
               have c5 : wb.cell? ⟨b, 5, none⟩ = some (.bool false) := hrb.at 5
               have f5 := hrb.free 5
               have HRow := Lib.hid hrb
               have Hkb := Lib.hid kb
               have Hws := Lib.hid hws
               have HBb := Lib.hid (keep_box Hb3.out kb H1lt.out)
               have HbB := Lib.hid (keep_tail Hba.out Hz3.out kb H1lt.out)
               clear hrb kb hws))
          go_ret
          exact ⟨rfl, Hfin.out _ wb wb _ dn _ _ { j with broken := true } Hws.out Hkb.out (Below.refl _ _) (j_broken_kept (b := b)) (j_broken HRow.out) ((Ht0.out _ wb dn Hws.out Hkb.out).kept (j_broken_kept (b := b) (w := wb)) (fun i hi e => hi.2 e)) (fun i hi => Or.inl hi) Hjj.out.1 Hjj.out.2.1 (by have := Hjj.out.2.2.1; show j.seq < _; omega)⟩
      · have Hcut1 := Lib.hid hcell
        have Hnil : Hid (0 < (mk (Frm.all a)).size) := Lib.hid (by
          rcases hnil with hnil | hnil
          · rw [Hxs.out]; exact hnil
          · cases hnil)
        have hmI : ((tailB pre).length : Int) ≤ (cc : Int) := by omega
        clear hcell hnil hcc hg
        generalize hmm : (tailB pre).length = m at *
        have Hmm := Lib.hid hmm
        clear hmm
        generalize ((2 + half * hof n + pre.length / 64 : Nat) : Int) = AT at *
        have hUeq : Hid ((pre.length : Int) + ((mk (Frm.all a)).size : Int) = (((pre ++ Frm.all a).length : Nat) : Int)) := Lib.hid (by rw [List.length_append, Hxs.out]; push_cast; rfl)
        have htt : Hid (tailB (tailB pre ++ (mk (Frm.all a)).data.toList) = tailB (pre ++ Frm.all a)) := Lib.hid (by rw [Hnew.out, tail_join]; exact tail_tail _ _ (by rw [List.length_append]; omega))
        generalize hU : (pre.length : Int) = U at *
        generalize ((64 * hof n : Nat) : Int) = V at *
        generalize mk (Frm.all a) = X at *
        clear hU
        have Hbw := Lib.hid hbw
        by_cases hx : x = 0
        · simp only [if_pos hx]
          subst hx
          go_enter Tryz.func55, Tryz.ntmps55
          go_wp2_with (go_at_call 81; refine (HLay.out _ ((Below.refl _ _).alloc (Nat.le_refl _) _)).mono ?_; rintro e w2 ⟨rfl, hb2⟩
                       have HB2 := Lib.hid (((Below.refl _ _).alloc (Nat.le_refl _) _).trans (hb2.mono (by simp)))
                       have hbx := Hbox.out.below hb2 (by simp)
                       have HBx : Hid (∀ w', Below w2.heap.size w2 w' → Row w' w.heap.size 96 #[.int .i64 (j.seq : Int), .int .i64 (half : Int), .int .i64 U]) := Lib.hid (fun w' hb => hbx.below hb hbx.inHeap)
                       clear hb2 hbx)
          refine wp_region_held_drew (S := (Below w2.heap.size w2)) (by kernel_rfl) (Below.drew (Below.refl _ _)) (fun hHeld => ?_)
          refine wpAnyH_take (i := 0) (v := ?_) rfl (by kernel_rfl) (by kernel_rfl) (by kernel_rfl) (fun _ _ _ h => h) (Or.inl ⟨by rfl, (by intro w hSw; go_simp; try with_reducible rfl)⟩) (by assumption) ?_
          simp only [Act.put, List.getElem_toArray, List.getElem_cons_zero, List.getElem_cons_succ, List.setIfInBounds_toArray, List.set_cons_zero, List.set_cons_succ]
          refine wpAnyH_take (i := 1) (v := ?_) rfl (by kernel_rfl) (by kernel_rfl) (by kernel_rfl) (fun _ _ _ h => h) (Or.inl ⟨by rfl, (by intro w hSw; go_simp; try with_reducible rfl)⟩) (by assumption) ?_
          simp only [Act.put, List.getElem_toArray, List.getElem_cons_zero, List.getElem_cons_succ, List.setIfInBounds_toArray, List.set_cons_zero, List.set_cons_succ]
          refine wpAnyH_take (i := 2) (v := ?_) rfl (by kernel_rfl) (by kernel_rfl) (by kernel_rfl) (fun _ _ _ h => h) (Or.inl ⟨by rfl, (by intro w hSw; go_simp; try with_reducible rfl)⟩) (by assumption) ?_
          simp only [Act.put, List.getElem_toArray, List.getElem_cons_zero, List.getElem_cons_succ, List.setIfInBounds_toArray, List.set_cons_zero, List.set_cons_succ]
          refine wpAnyH_take (i := 3) (v := ?_) rfl (by kernel_rfl) (by kernel_rfl) (by kernel_rfl) (fun _ _ _ h => h) (Or.inl ⟨by rfl, (by intro w hSw; go_simp; try with_reducible rfl)⟩) (by assumption) ?_
          simp only [Act.put, List.getElem_toArray, List.getElem_cons_zero, List.getElem_cons_succ, List.setIfInBounds_toArray, List.set_cons_zero, List.set_cons_succ]
          refine wpAnyH_take (i := 4) (v := ?_) rfl (by kernel_rfl) (by kernel_rfl) (by kernel_rfl) (fun _ _ _ h => h) (Or.inl ⟨by rfl, (by intro w hSw; go_simp; try with_reducible rfl)⟩) (by assumption) ?_
          simp only [Act.put, List.getElem_toArray, List.getElem_cons_zero, List.getElem_cons_succ, List.setIfInBounds_toArray, List.set_cons_zero, List.set_cons_succ]
          refine wpAnyH_take (i := 5) (v := ?_) rfl (by kernel_rfl) (by kernel_rfl) (by kernel_rfl) (fun _ _ _ h => h) (Or.inl ⟨by rfl, (by intro w hSw; have c0 : w.cell? ⟨b, 0, none⟩ = some dv := (HCell.out w (HB2.out.trans (hSw.mono HB2.out.size))).at 0; go_simp; try with_reducible rfl)⟩) (by assumption) ?_
          simp only [Act.put, List.getElem_toArray, List.getElem_cons_zero, List.getElem_cons_succ, List.setIfInBounds_toArray, List.set_cons_zero, List.set_cons_succ]
          refine wpAnyH_take (i := 7) (v := ?_) rfl (by kernel_rfl) (by kernel_rfl) (by kernel_rfl) (fun _ _ _ h => h) (Or.inl ⟨by rfl, (by intro w hSw; go_simp; try with_reducible rfl)⟩) (by assumption) ?_
          simp only [Act.put, List.getElem_toArray, List.getElem_cons_zero, List.getElem_cons_succ, List.setIfInBounds_toArray, List.set_cons_zero, List.set_cons_succ]
          refine wpAnyH_take (i := 8) (v := ?_) rfl (by kernel_rfl) (by kernel_rfl) (by kernel_rfl) (fun _ _ _ h => h) (Or.inl ⟨by rfl, (by intro w hSw; have c2 := (HBx.out w hSw).at 2; go_simp; try with_reducible rfl)⟩) (by assumption) ?_
          simp only [Act.put, List.getElem_toArray, List.getElem_cons_zero, List.getElem_cons_succ, List.setIfInBounds_toArray, List.set_cons_zero, List.set_cons_succ]
          refine wpAnyH_ready (rs := [6]) (by kernel_rfl) (by simp) ?_
          refine AllReadyH.cons rfl (fun K hK => ?_) AllReadyH.nil
          go_simp
          go_at_call 66
          refine (HB.out _ (HB2.out.trans (hHeld.mono HB2.out.size))).mono ?_
          rintro e w3 ⟨rfl, rfl⟩
          refine hK.out _ _ hHeld (fun hHeld => ?_)
          clear hK K
          refine wpAnyH_take (i := 9) (v := ?_) rfl (by kernel_rfl) (by kernel_rfl) (by kernel_rfl) (fun _ _ _ h => h) (Or.inl ⟨by rfl, (by intro w hSw; go_simp; try with_reducible rfl)⟩) (by assumption) ?_
          simp only [Act.put, List.getElem_toArray, List.getElem_cons_zero, List.getElem_cons_succ, List.setIfInBounds_toArray, List.set_cons_zero, List.set_cons_succ]
          refine wpAnyH_take (i := 10) (v := ?_) rfl (by kernel_rfl) (by kernel_rfl) (by kernel_rfl) (fun _ _ _ h => h) (Or.inl ⟨by rfl, (by intro w hSw; go_simp; try with_reducible rfl)⟩) (by assumption) ?_
          simp only [Act.put, List.getElem_toArray, List.getElem_cons_zero, List.getElem_cons_succ, List.setIfInBounds_toArray, List.set_cons_zero, List.set_cons_succ]
          refine wpAnyH_done (by kernel_rfl) ?_ _
          have HH := Lib.hid hHeld
          clear hHeld
          go_wp2_with fail
          refine wp_region_held_drew (S := (Below w2.heap.size w2)) (by kernel_rfl) (Below.drew HH.out) (fun hHeld => ?_)
          refine wpAnyH_take (i := 0) (v := ?_) rfl (by kernel_rfl) (by kernel_rfl) (by kernel_rfl) (fun _ _ _ h => h) (Or.inl ⟨by rfl, (by intro w hSw; go_simp; try with_reducible rfl)⟩) (by assumption) ?_
          simp only [Act.put, List.getElem_toArray, List.getElem_cons_zero, List.getElem_cons_succ, List.setIfInBounds_toArray, List.set_cons_zero, List.set_cons_succ]
          refine wpAnyH_take (i := 1) (v := ?_) rfl (by kernel_rfl) (by kernel_rfl) (by kernel_rfl) (fun _ _ _ h => h) (Or.inl ⟨by rfl, (by intro w hSw; go_simp; try with_reducible rfl)⟩) (by assumption) ?_
          simp only [Act.put, List.getElem_toArray, List.getElem_cons_zero, List.getElem_cons_succ, List.setIfInBounds_toArray, List.set_cons_zero, List.set_cons_succ]
          refine wpAnyH_take (i := 2) (v := ?_) rfl (by kernel_rfl) (by kernel_rfl) (by kernel_rfl) (fun _ _ _ h => h) (Or.inl ⟨by rfl, (by intro w hSw; go_simp; try with_reducible rfl)⟩) (by assumption) ?_
          simp only [Act.put, List.getElem_toArray, List.getElem_cons_zero, List.getElem_cons_succ, List.setIfInBounds_toArray, List.set_cons_zero, List.set_cons_succ]
          refine wpAnyH_take (i := 3) (v := ?_) rfl (by kernel_rfl) (by kernel_rfl) (by kernel_rfl) (fun _ _ _ h => h) (Or.inl ⟨by rfl, (by intro w hSw; have c0 : w.cell? ⟨b, 0, none⟩ = some dv := (HCell.out w (HB2.out.trans (hSw.mono HB2.out.size))).at 0; go_simp; try with_reducible rfl)⟩) (by assumption) ?_
          simp only [Act.put, List.getElem_toArray, List.getElem_cons_zero, List.getElem_cons_succ, List.setIfInBounds_toArray, List.set_cons_zero, List.set_cons_succ]
          refine wpAnyH_take (i := 4) (v := ?_) rfl (by kernel_rfl) (by kernel_rfl) (by kernel_rfl) (fun _ _ _ h => h) (Or.inl ⟨by rfl, (by intro w hSw; go_simp; try with_reducible rfl)⟩) (by assumption) ?_
          simp only [Act.put, List.getElem_toArray, List.getElem_cons_zero, List.getElem_cons_succ, List.setIfInBounds_toArray, List.set_cons_zero, List.set_cons_succ]
          refine wpAnyH_take (i := 5) (v := ?_) rfl (by kernel_rfl) (by kernel_rfl) (by kernel_rfl) (fun _ _ _ h => h) (Or.inl ⟨by rfl, (by intro w hSw; have c1 := (HBx.out w hSw).at 1; go_simp; try with_reducible rfl)⟩) (by assumption) ?_
          simp only [Act.put, List.getElem_toArray, List.getElem_cons_zero, List.getElem_cons_succ, List.setIfInBounds_toArray, List.set_cons_zero, List.set_cons_succ]
          refine wpAnyH_take (i := 6) (v := ?_) rfl (by kernel_rfl) (by kernel_rfl) (by kernel_rfl) (fun _ _ _ h => h) (Or.inl ⟨by rfl, (by intro w hSw; go_simp; try with_reducible rfl)⟩) (by assumption) ?_
          simp only [Act.put, List.getElem_toArray, List.getElem_cons_zero, List.getElem_cons_succ, List.setIfInBounds_toArray, List.set_cons_zero, List.set_cons_succ]
          refine wpAnyH_take (i := 7) (v := ?_) rfl (by kernel_rfl) (by kernel_rfl) (by kernel_rfl) (fun _ _ _ h => h) (Or.inl ⟨by rfl, (by intro w hSw; have c2 := (HBx.out w hSw).at 2; go_simp; try with_reducible rfl)⟩) (by assumption) ?_
          simp only [Act.put, List.getElem_toArray, List.getElem_cons_zero, List.getElem_cons_succ, List.setIfInBounds_toArray, List.set_cons_zero, List.set_cons_succ]
          refine wpAnyH_ready (rs := [8]) (by kernel_rfl) (by simp) ?_
          refine AllReadyH.cons rfl (fun K hK => ?_) AllReadyH.nil
          go_simp
          go_at_call 78
          refine (HSec.out _ (HB2.out.trans (hHeld.mono HB2.out.size))).mono ?_
          rintro e w3 ⟨rfl, rfl⟩
          refine hK.out _ _ hHeld (fun hHeld => ?_)
          clear hK K
          refine wpAnyH_take (i := 9) (v := ?_) rfl (by kernel_rfl) (by kernel_rfl) (by kernel_rfl) (fun _ _ _ h => h) (Or.inl ⟨by rfl, (by intro w hSw; go_simp; try with_reducible rfl)⟩) (by assumption) ?_
          simp only [Act.put, List.getElem_toArray, List.getElem_cons_zero, List.getElem_cons_succ, List.setIfInBounds_toArray, List.set_cons_zero, List.set_cons_succ]
          refine wpAnyH_done (by kernel_rfl) ?_ _
          have HW := Lib.hid (HB2.out.trans (hHeld.mono HB2.out.size))
          have HBw := Lib.hid (HBx.out _ hHeld)
          clear hHeld HH
          go_wp2_with (first
            | (at_builtin; refine wp_string_full (F := fun i => i = g) (A := (some ⟨g, o, none⟩)) (n := m) (l := tailB pre) (s := X) rfl _ _ rfl (by rfl) (by rfl) (Hcut1.out _ HW.out) (Or.inl Hnil.out) Hsum.out ?_
               intro bv w3 hba hbl
               have hW3 := HW.out.trans (hbl.mono HW.out.size)
               have hb3 := HBw.out.below hbl HBw.out.inHeap
               have c0 := hb3.at 0
               have c1 := hb3.at 1
               have c2 := hb3.at 2
               have f0 := hb3.free 0
               have f2 := hb3.free 2
               have hz3 := Nat.lt_of_lt_of_le HBw.out.inHeap hbl.size
               have hwr := HWR.out w3 bv hW3 hz3 (hba.mono (fun i hi => ⟨Nat.lt_of_lt_of_le HBw.out.inHeap hi.1, hi.2⟩))
               have Hwr := Lib.hid hwr
               have Hb3 := Lib.hid hb3
               have Hba := Lib.hid (hba.mono (G := fun i => w.heap.size < i ∧ i < w3.heap.size) (fun i hi => ⟨Nat.lt_of_lt_of_le HBw.out.inHeap hi.1, hi.2⟩))
               have HW3 := Lib.hid hW3
               have Hz3 := Lib.hid hz3
               clear hwr hb3 hba hW3 hbl hz3)
            | (go_at_call 82; refine Hwr.out.mono ?_
               rintro e wb ⟨rfl, kb⟩
               have hws := ws_below (x := .int .i64 ((j.seq : Int) + 1)) (y := .int .i64 (U + (X.size : Int))) HW3.out
               have hrb := (HCell.out _ hws).kept kb.2 Hbn.out
               have c5 : wb.cell? ⟨b, 5, none⟩ = some (.bool false) := hrb.at 5
               have f5 := hrb.free 5
               have HRow := Lib.hid hrb
               have Hkb := Lib.hid kb
               have Hws := Lib.hid hws
               have HBb := Lib.hid (keep_box Hb3.out kb H1lt.out)
               have HbB := Lib.hid (keep_tail Hba.out Hz3.out kb H1lt.out)
               clear hrb kb hws))
          refine wp_region_held_drew (S := (fun w' => Row w' w.heap.size 96 #[.int .i64 ((j.seq : Int) + 1), .int .i64 (half : Int), .int .i64 (U + (X.size : Int))])) (by kernel_rfl) (HBb.out _ (Below.drew (Below.refl _ _))) (fun hHeld => ?_)
          refine wpAnyH_take (i := 0) (v := ?_) rfl (by kernel_rfl) (by kernel_rfl) (by kernel_rfl) (fun _ _ _ h => h) (Or.inl ⟨by rfl, (by intro w hSw; go_simp; try with_reducible rfl)⟩) (by assumption) ?_
          simp only [Act.put, List.getElem_toArray, List.getElem_cons_zero, List.getElem_cons_succ, List.setIfInBounds_toArray, List.set_cons_zero, List.set_cons_succ]
          refine wpAnyH_take (i := 1) (v := ?_) rfl (by kernel_rfl) (by kernel_rfl) (by kernel_rfl) (fun _ _ _ h => h) (Or.inl ⟨by rfl, (by intro w hSw; go_simp; try with_reducible rfl)⟩) (by assumption) ?_
          simp only [Act.put, List.getElem_toArray, List.getElem_cons_zero, List.getElem_cons_succ, List.setIfInBounds_toArray, List.set_cons_zero, List.set_cons_succ]
          refine wpAnyH_take (i := 2) (v := ?_) rfl (by kernel_rfl) (by kernel_rfl) (by kernel_rfl) (fun _ _ _ h => h) (Or.inl ⟨by rfl, (by intro w hSw; have c0 := Row.at hSw 0; have c1 := Row.at hSw 1; have c2 := Row.at hSw 2; go_simp; try with_reducible rfl)⟩) (by assumption) ?_
          simp only [Act.put, List.getElem_toArray, List.getElem_cons_zero, List.getElem_cons_succ, List.setIfInBounds_toArray, List.set_cons_zero, List.set_cons_succ]
          refine wpAnyH_take (i := 3) (v := ?_) rfl (by kernel_rfl) (by kernel_rfl) (by kernel_rfl) (fun _ _ _ h => h) (Or.inl ⟨by rfl, (by intro w hSw; go_simp; try with_reducible rfl)⟩) (by assumption) ?_
          simp only [Act.put, List.getElem_toArray, List.getElem_cons_zero, List.getElem_cons_succ, List.setIfInBounds_toArray, List.set_cons_zero, List.set_cons_succ]
          refine wpAnyH_ready (rs := [4]) (by kernel_rfl) (by simp) ?_
          refine AllReadyH.cons rfl (fun K hK => ?_) AllReadyH.nil
          go_simp
          go_at_call 53
          refine (tail_of (HbB.out.below (Below.drew (Below.refl _ _))) Hsm.out).mono ?_
          rintro e wc ⟨tv2, rfl, ht2, hb2⟩
          obtain ⟨A2, ct2, rfl⟩ := ht2.form
          have hbc : Below wb.heap.size wb wc := (Below.drew (Below.refl _ _)).trans hb2
          have hrc := HRow.out.below hbc HRow.out.inHeap
          have d1 : wc.cell? ⟨b, 1, none⟩ = some (.int .i64 (j.seq : Int)) := hrc.at 1
          have d2 : wc.cell? ⟨b, 2, none⟩ = some (.int .i64 (j.half : Int)) := hrc.at 2
          have d3 : wc.cell? ⟨b, 3, none⟩ = some (.int .i64 (j.bytes.length : Int)) := hrc.at 3
          have d4 : wc.cell? ⟨b, 4, none⟩ = some tv0 := hrc.at 4
          have f1 := hrc.free 1
          have f2 := hrc.free 2
          have f3 := hrc.free 3
          have f4 := hrc.free 4
          have Hbc := Lib.hid hbc
          have Hrc := Lib.hid hrc
          have Ht2 := Lib.hid (ht2.mono (G := fun i => wb.heap.size ≤ i ∧ i < wc.heap.size) (fun i hi => hi))
          have hS4 := hHeld.below hb2 hHeld.inHeap
          clear hbc hrc ht2 hb2
          refine hK.out _ _ hS4 (fun hHeld => ?_)
          clear hS4
          clear hK K
          refine wpAnyH_take (i := 5) (v := ?_) rfl (by kernel_rfl) (by kernel_rfl) (by kernel_rfl) (fun _ _ _ h => h) (Or.inl ⟨by rfl, (by intro w hSw; go_simp; try with_reducible rfl)⟩) (by assumption) ?_
          simp only [Act.put, List.getElem_toArray, List.getElem_cons_zero, List.getElem_cons_succ, List.setIfInBounds_toArray, List.set_cons_zero, List.set_cons_succ]
          refine wpAnyH_take (i := 6) (v := ?_) rfl (by kernel_rfl) (by kernel_rfl) (by kernel_rfl) (fun _ _ _ h => h) (Or.inl ⟨by rfl, (by intro w hSw; go_simp; try with_reducible rfl)⟩) (by assumption) ?_
          simp only [Act.put, List.getElem_toArray, List.getElem_cons_zero, List.getElem_cons_succ, List.setIfInBounds_toArray, List.set_cons_zero, List.set_cons_succ]
          refine wpAnyH_ready (rs := [7]) (by kernel_rfl) (by simp) ?_
          refine AllReadyH.cons rfl (fun K hK => ?_) AllReadyH.nil
          go_simp
          refine hK.out _ _ (hHeld.kept j_three_kept (fun e => by have := Hbw.out; omega)) (fun hHeld => ?_)
          clear hK K
          refine wpAnyH_take (i := 8) (v := ?_) rfl (by kernel_rfl) (by kernel_rfl) (by kernel_rfl) (fun _ _ _ h => h) (Or.inl ⟨by rfl, (by intro w hSw; go_simp; try with_reducible rfl)⟩) (by assumption) ?_
          simp only [Act.put, List.getElem_toArray, List.getElem_cons_zero, List.getElem_cons_succ, List.setIfInBounds_toArray, List.set_cons_zero, List.set_cons_succ]
          refine wpAnyH_take (i := 9) (v := ?_) rfl (by kernel_rfl) (by kernel_rfl) (by kernel_rfl) (fun _ _ _ h => h) (Or.inl ⟨by rfl, (by intro w hSw; go_simp; try with_reducible rfl)⟩) (by assumption) ?_
          simp only [Act.put, List.getElem_toArray, List.getElem_cons_zero, List.getElem_cons_succ, List.setIfInBounds_toArray, List.set_cons_zero, List.set_cons_succ]
          refine wpAnyH_ready (rs := [10]) (by kernel_rfl) (by simp) ?_
          refine AllReadyH.cons rfl (fun K hK => ?_) AllReadyH.nil
          go_simp
          refine hK.out _ _ (hHeld.kept ((Kept.refl (fun i => i = b) _).stored (p := ⟨b, 4, none⟩) (Or.inl rfl) _) (fun e => by have := Hbw.out; omega)) (fun hHeld => ?_)
          clear hK K
          refine wpAnyH_done (by kernel_rfl) ?_ _
          have hend := Hfin.out _ wb wc _ dn _ _ ⟨j.seq + 1, half, pre ++ Frm.all a, false⟩ Hws.out Hkb.out Hbc.out (j_stored_kept (b := b) (x := .int .i64 ((j.seq : Int) + 1)) (y := .int .i64 (half : Int)) (z := .int .i64 (U + (X.size : Int))) (t := .slice A2 (tailB (tailB pre ++ X.data.toList)).length ct2)) (j_stored Hrc.out (by push_cast; rfl) hUeq.out) (by
            have hb4 := (Ht2.out.kept (j_stored_kept (b := b) (w := wc) (x := .int .i64 ((j.seq : Int) + 1)) (y := .int .i64 (half : Int)) (z := .int .i64 (U + (X.size : Int))) (t := .slice A2 (tailB (tailB pre ++ X.data.toList)).length ct2)) (fun i hi e => by have := Hbw.out; have := Hws.out.size; have := Hkb.out.2.size; have := hi.1; omega))
            exact hb4.eq htt.out) (fun i hi => Or.inr hi) Hjj.out.2.2.2 Hfits.out (by have := Hjj.out.2.2.1; show j.seq + 1 < _; omega)
          have Hend := Lib.hid hend
          clear hend hHeld d1 d2 d3 d4 f1 f2 f3 f4 c5 f5
          go_wp2_with fail
          go_ret
          exact ⟨rfl, Hend.out⟩
        · simp only [if_neg hx]
          have hxb : (x != 0) = true := by simpa using hx
          clear hx
          go_enter Tryz.func55, Tryz.ntmps55
          go_wp2_with (go_at_call 81; refine (HLay.out _ ((Below.refl _ _).alloc (Nat.le_refl _) _)).mono ?_; rintro e w2 ⟨rfl, hb2⟩
                       have HB2 := Lib.hid (((Below.refl _ _).alloc (Nat.le_refl _) _).trans (hb2.mono (by simp)))
                       have hbx := Hbox.out.below hb2 (by simp)
                       have HBx : Hid (∀ w', Below w2.heap.size w2 w' → Row w' w.heap.size 96 #[.int .i64 (j.seq : Int), .int .i64 (half : Int), .int .i64 U]) := Lib.hid (fun w' hb => hbx.below hb hbx.inHeap)
                       clear hb2 hbx)
          refine wp_region_held_drew (S := (Below w2.heap.size w2)) (by kernel_rfl) (Below.drew (Below.refl _ _)) (fun hHeld => ?_)
          refine wpAnyH_take (i := 0) (v := ?_) rfl (by kernel_rfl) (by kernel_rfl) (by kernel_rfl) (fun _ _ _ h => h) (Or.inl ⟨by rfl, (by intro w hSw; go_simp; try with_reducible rfl)⟩) (by assumption) ?_
          simp only [Act.put, List.getElem_toArray, List.getElem_cons_zero, List.getElem_cons_succ, List.setIfInBounds_toArray, List.set_cons_zero, List.set_cons_succ]
          refine wpAnyH_take (i := 1) (v := ?_) rfl (by kernel_rfl) (by kernel_rfl) (by kernel_rfl) (fun _ _ _ h => h) (Or.inl ⟨by rfl, (by intro w hSw; go_simp; try with_reducible rfl)⟩) (by assumption) ?_
          simp only [Act.put, List.getElem_toArray, List.getElem_cons_zero, List.getElem_cons_succ, List.setIfInBounds_toArray, List.set_cons_zero, List.set_cons_succ]
          refine wpAnyH_take (i := 2) (v := ?_) rfl (by kernel_rfl) (by kernel_rfl) (by kernel_rfl) (fun _ _ _ h => h) (Or.inl ⟨by rfl, (by intro w hSw; go_simp; try with_reducible rfl)⟩) (by assumption) ?_
          simp only [Act.put, List.getElem_toArray, List.getElem_cons_zero, List.getElem_cons_succ, List.setIfInBounds_toArray, List.set_cons_zero, List.set_cons_succ]
          refine wpAnyH_take (i := 3) (v := ?_) rfl (by kernel_rfl) (by kernel_rfl) (by kernel_rfl) (fun _ _ _ h => h) (Or.inl ⟨by rfl, (by intro w hSw; go_simp; try with_reducible rfl)⟩) (by assumption) ?_
          simp only [Act.put, List.getElem_toArray, List.getElem_cons_zero, List.getElem_cons_succ, List.setIfInBounds_toArray, List.set_cons_zero, List.set_cons_succ]
          refine wpAnyH_take (i := 4) (v := ?_) rfl (by kernel_rfl) (by kernel_rfl) (by kernel_rfl) (fun _ _ _ h => h) (Or.inl ⟨by rfl, (by intro w hSw; go_simp; try with_reducible rfl)⟩) (by assumption) ?_
          simp only [Act.put, List.getElem_toArray, List.getElem_cons_zero, List.getElem_cons_succ, List.setIfInBounds_toArray, List.set_cons_zero, List.set_cons_succ]
          refine wpAnyH_take (i := 5) (v := ?_) rfl (by kernel_rfl) (by kernel_rfl) (by kernel_rfl) (fun _ _ _ h => h) (Or.inl ⟨by rfl, (by intro w hSw; have c0 : w.cell? ⟨b, 0, none⟩ = some dv := (HCell.out w (HB2.out.trans (hSw.mono HB2.out.size))).at 0; go_simp; try with_reducible rfl)⟩) (by assumption) ?_
          simp only [Act.put, List.getElem_toArray, List.getElem_cons_zero, List.getElem_cons_succ, List.setIfInBounds_toArray, List.set_cons_zero, List.set_cons_succ]
          refine wpAnyH_take (i := 7) (v := ?_) rfl (by kernel_rfl) (by kernel_rfl) (by kernel_rfl) (fun _ _ _ h => h) (Or.inl ⟨by rfl, (by intro w hSw; go_simp; try with_reducible rfl)⟩) (by assumption) ?_
          simp only [Act.put, List.getElem_toArray, List.getElem_cons_zero, List.getElem_cons_succ, List.setIfInBounds_toArray, List.set_cons_zero, List.set_cons_succ]
          refine wpAnyH_take (i := 8) (v := ?_) rfl (by kernel_rfl) (by kernel_rfl) (by kernel_rfl) (fun _ _ _ h => h) (Or.inl ⟨by rfl, (by intro w hSw; have c2 := (HBx.out w hSw).at 2; go_simp; try with_reducible rfl)⟩) (by assumption) ?_
          simp only [Act.put, List.getElem_toArray, List.getElem_cons_zero, List.getElem_cons_succ, List.setIfInBounds_toArray, List.set_cons_zero, List.set_cons_succ]
          refine wpAnyH_ready (rs := [6]) (by kernel_rfl) (by simp) ?_
          refine AllReadyH.cons rfl (fun K hK => ?_) AllReadyH.nil
          go_simp
          go_at_call 66
          refine (HB.out _ (HB2.out.trans (hHeld.mono HB2.out.size))).mono ?_
          rintro e w3 ⟨rfl, rfl⟩
          refine hK.out _ _ hHeld (fun hHeld => ?_)
          clear hK K
          refine wpAnyH_take (i := 9) (v := ?_) rfl (by kernel_rfl) (by kernel_rfl) (by kernel_rfl) (fun _ _ _ h => h) (Or.inl ⟨by rfl, (by intro w hSw; go_simp; try with_reducible rfl)⟩) (by assumption) ?_
          simp only [Act.put, List.getElem_toArray, List.getElem_cons_zero, List.getElem_cons_succ, List.setIfInBounds_toArray, List.set_cons_zero, List.set_cons_succ]
          refine wpAnyH_take (i := 10) (v := ?_) rfl (by kernel_rfl) (by kernel_rfl) (by kernel_rfl) (fun _ _ _ h => h) (Or.inl ⟨by rfl, (by intro w hSw; go_simp; try with_reducible rfl)⟩) (by assumption) ?_
          simp only [Act.put, List.getElem_toArray, List.getElem_cons_zero, List.getElem_cons_succ, List.setIfInBounds_toArray, List.set_cons_zero, List.set_cons_succ]
          refine wpAnyH_done (by kernel_rfl) ?_ _
          have HH := Lib.hid hHeld
          clear hHeld
          go_wp2_with fail
          refine wp_region_held_drew (S := (Below w2.heap.size w2)) (by kernel_rfl) (Below.drew HH.out) (fun hHeld => ?_)
          refine wpAnyH_take (i := 0) (v := ?_) rfl (by kernel_rfl) (by kernel_rfl) (by kernel_rfl) (fun _ _ _ h => h) (Or.inl ⟨by rfl, (by intro w hSw; go_simp; try with_reducible rfl)⟩) (by assumption) ?_
          simp only [Act.put, List.getElem_toArray, List.getElem_cons_zero, List.getElem_cons_succ, List.setIfInBounds_toArray, List.set_cons_zero, List.set_cons_succ]
          refine wpAnyH_take (i := 1) (v := ?_) rfl (by kernel_rfl) (by kernel_rfl) (by kernel_rfl) (fun _ _ _ h => h) (Or.inl ⟨by rfl, (by intro w hSw; go_simp; try with_reducible rfl)⟩) (by assumption) ?_
          simp only [Act.put, List.getElem_toArray, List.getElem_cons_zero, List.getElem_cons_succ, List.setIfInBounds_toArray, List.set_cons_zero, List.set_cons_succ]
          refine wpAnyH_take (i := 2) (v := ?_) rfl (by kernel_rfl) (by kernel_rfl) (by kernel_rfl) (fun _ _ _ h => h) (Or.inl ⟨by rfl, (by intro w hSw; go_simp; try with_reducible rfl)⟩) (by assumption) ?_
          simp only [Act.put, List.getElem_toArray, List.getElem_cons_zero, List.getElem_cons_succ, List.setIfInBounds_toArray, List.set_cons_zero, List.set_cons_succ]
          refine wpAnyH_take (i := 3) (v := ?_) rfl (by kernel_rfl) (by kernel_rfl) (by kernel_rfl) (fun _ _ _ h => h) (Or.inl ⟨by rfl, (by intro w hSw; have c0 : w.cell? ⟨b, 0, none⟩ = some dv := (HCell.out w (HB2.out.trans (hSw.mono HB2.out.size))).at 0; go_simp; try with_reducible rfl)⟩) (by assumption) ?_
          simp only [Act.put, List.getElem_toArray, List.getElem_cons_zero, List.getElem_cons_succ, List.setIfInBounds_toArray, List.set_cons_zero, List.set_cons_succ]
          refine wpAnyH_take (i := 4) (v := ?_) rfl (by kernel_rfl) (by kernel_rfl) (by kernel_rfl) (fun _ _ _ h => h) (Or.inl ⟨by rfl, (by intro w hSw; go_simp; try with_reducible rfl)⟩) (by assumption) ?_
          simp only [Act.put, List.getElem_toArray, List.getElem_cons_zero, List.getElem_cons_succ, List.setIfInBounds_toArray, List.set_cons_zero, List.set_cons_succ]
          refine wpAnyH_take (i := 5) (v := ?_) rfl (by kernel_rfl) (by kernel_rfl) (by kernel_rfl) (fun _ _ _ h => h) (Or.inl ⟨by rfl, (by intro w hSw; have c1 := (HBx.out w hSw).at 1; go_simp; try with_reducible rfl)⟩) (by assumption) ?_
          simp only [Act.put, List.getElem_toArray, List.getElem_cons_zero, List.getElem_cons_succ, List.setIfInBounds_toArray, List.set_cons_zero, List.set_cons_succ]
          refine wpAnyH_take (i := 6) (v := ?_) rfl (by kernel_rfl) (by kernel_rfl) (by kernel_rfl) (fun _ _ _ h => h) (Or.inl ⟨by rfl, (by intro w hSw; go_simp; try with_reducible rfl)⟩) (by assumption) ?_
          simp only [Act.put, List.getElem_toArray, List.getElem_cons_zero, List.getElem_cons_succ, List.setIfInBounds_toArray, List.set_cons_zero, List.set_cons_succ]
          refine wpAnyH_take (i := 7) (v := ?_) rfl (by kernel_rfl) (by kernel_rfl) (by kernel_rfl) (fun _ _ _ h => h) (Or.inl ⟨by rfl, (by intro w hSw; have c2 := (HBx.out w hSw).at 2; go_simp; try with_reducible rfl)⟩) (by assumption) ?_
          simp only [Act.put, List.getElem_toArray, List.getElem_cons_zero, List.getElem_cons_succ, List.setIfInBounds_toArray, List.set_cons_zero, List.set_cons_succ]
          refine wpAnyH_ready (rs := [8]) (by kernel_rfl) (by simp) ?_
          refine AllReadyH.cons rfl (fun K hK => ?_) AllReadyH.nil
          go_simp
          go_at_call 78
          refine (HSec.out _ (HB2.out.trans (hHeld.mono HB2.out.size))).mono ?_
          rintro e w3 ⟨rfl, rfl⟩
          refine hK.out _ _ hHeld (fun hHeld => ?_)
          clear hK K
          refine wpAnyH_take (i := 9) (v := ?_) rfl (by kernel_rfl) (by kernel_rfl) (by kernel_rfl) (fun _ _ _ h => h) (Or.inl ⟨by rfl, (by intro w hSw; go_simp; try with_reducible rfl)⟩) (by assumption) ?_
          simp only [Act.put, List.getElem_toArray, List.getElem_cons_zero, List.getElem_cons_succ, List.setIfInBounds_toArray, List.set_cons_zero, List.set_cons_succ]
          refine wpAnyH_done (by kernel_rfl) ?_ _
          have HW := Lib.hid (HB2.out.trans (hHeld.mono HB2.out.size))
          have HBw := Lib.hid (HBx.out _ hHeld)
          clear hHeld HH
          go_wp2_with (first
            | (at_builtin; refine wp_string_full (F := fun i => i = g) (A := (some ⟨g, o, none⟩)) (n := m) (l := tailB pre) (s := X) rfl _ _ rfl (by rfl) (by rfl) (Hcut1.out _ HW.out) (Or.inl Hnil.out) Hsum.out ?_
               intro bv w3 hba hbl
               have hW3 := HW.out.trans (hbl.mono HW.out.size)
               have hb3 := HBw.out.below hbl HBw.out.inHeap
               have c0 := hb3.at 0
               have c1 := hb3.at 1
               have c2 := hb3.at 2
               have f0 := hb3.free 0
               have f2 := hb3.free 2
               have hz3 := Nat.lt_of_lt_of_le HBw.out.inHeap hbl.size
               have hwr := HWR.out w3 bv hW3 hz3 (hba.mono (fun i hi => ⟨Nat.lt_of_lt_of_le HBw.out.inHeap hi.1, hi.2⟩))
               have Hwr := Lib.hid hwr
               have Hb3 := Lib.hid hb3
               have Hba := Lib.hid (hba.mono (G := fun i => w.heap.size < i ∧ i < w3.heap.size) (fun i hi => ⟨Nat.lt_of_lt_of_le HBw.out.inHeap hi.1, hi.2⟩))
               have HW3 := Lib.hid hW3
               have Hz3 := Lib.hid hz3
               clear hwr hb3 hba hW3 hbl hz3)
            | (go_at_call 82; refine Hwr.out.mono ?_
               rintro e wb ⟨rfl, kb⟩
               have hws := ws_below (x := .int .i64 ((j.seq : Int) + 1)) (y := .int .i64 (U + (X.size : Int))) HW3.out
               have hrb := (HCell.out _ hws).kept kb.2 Hbn.out
               have c5 : wb.cell? ⟨b, 5, none⟩ = some (.bool false) := hrb.at 5
               have f5 := hrb.free 5
               have HRow := Lib.hid hrb
               have Hkb := Lib.hid kb
               have Hws := Lib.hid hws
               have HBb := Lib.hid (keep_box Hb3.out kb H1lt.out)
               have HbB := Lib.hid (keep_tail Hba.out Hz3.out kb H1lt.out)
               clear hrb kb hws))
          go_ret
          exact ⟨rfl, Hfin.out _ wb wb _ dn _ _ { j with broken := true } Hws.out Hkb.out (Below.refl _ _) (j_broken_kept (b := b)) (j_broken HRow.out) ((Ht0.out _ wb dn Hws.out Hkb.out).kept (j_broken_kept (b := b) (w := wb)) (fun i hi e => hi.2 e)) (fun i hi => Or.inl hi) Hjj.out.1 Hjj.out.2.1 (by have := Hjj.out.2.2.1; show j.seq < _; omega)⟩
end
end Go.Proofs.YtbfjageaheijbaaGreat
