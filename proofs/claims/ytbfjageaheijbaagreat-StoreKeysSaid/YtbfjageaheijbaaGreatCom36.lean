/- The landed journal: Format and Open. -/
import Derived.Test.YtbfjageaheijbaaGreatCom32
import Derived.Test.YtbfjageaheijbaaGreatCom31
import Derived.Test.YtbfjageaheijbaaGreatCom35
import Derived.Test.YtbfjageaheijbaaGreatCom24
import Derived.Test.YtbfjageaheijbaaGreatCom30
import Derived.Test.YtbfjageaheijbaaGreatCom10
set_option linter.unusedSimpArgs false
set_option linter.unusedVariables false
namespace Go.Proofs.YtbfjageaheijbaaGreat
open Go.RowKit Dsk Jnl

set_option maxRecDepth 100000 in
theorem format_eq (d : D) : Jnl.format d = if (d.write 0 (text [])).1 = 0 then setHead 1 0 0 (d.write 0 (text [])).2 else d.write 0 (text []) := by
  unfold Jnl.format setHead andThen
  by_cases h : (d.write 0 (text [])).1 = 0
  · rw [if_pos h, if_pos h]; rfl
  · rw [if_neg h, if_neg h, if_neg h]

set_option maxRecDepth 100000 in
theorem jnl_format {w : World} {F : Nat → Prop} {dv : Value} {n : Nat} {d : D} {N : Nat} (h : AtL w F dv d) (hs : Sound n d N) (hN : N + 3 ≤ 100000) : Calls Tryz.prog 33 #[dv] w fun e w' => e = .returned (.int .i64 (Jnl.format d).1) ∧ Doing AtL w F dv (Jnl.format d).2 w' := by
  have hlt := h.2
  have HU := Lib.hid (usable_ok h (by rw [hs.shape.len]; exact hs.four))
  have HW : Hid (Calls Tryz.prog 56 #[dv, .int .i64 0, .string ⟨#[]⟩] w fun e w' => e = .returned (.int .i64 (d.write 0 (text [])).1) ∧ Doing AtL w F dv (d.write 0 (text [])).2 w') := Lib.hid (atl_write h hs.fine (by omega) 0 ⟨#[]⟩ (by decide) (by decide) (by decide))
  have HS : Hid (∀ w1, Doing AtL w F dv (d.write 0 (text [])).2 w1 → Calls Tryz.prog 57 #[.agg #[.int .i64 1, .int .i64 0, .int .i64 0], dv] w1 fun e w' => e = .returned (.int .i64 (setHead 1 0 0 (d.write 0 (text [])).2).1) ∧ Doing AtL w F dv (setHead 1 0 0 (d.write 0 (text [])).2).2 w') := Lib.hid (fun w1 k => by
    refine (head_set k.1 (hs.fine.write 0 (text [])) (by omega) 1 0 0 (by decide) (by decide) (by decide)).mono ?_
    rintro e w' ⟨rfl, k2⟩
    exact ⟨rfl, doing_trans k hlt k2⟩)
  obtain ⟨b, rfl⟩ := atl_addr h
  rw [format_eq]
  clear h hs hlt
  generalize setHead 1 0 0 (d.write 0 (text [])).2 = D2 at *
  generalize d.write 0 (text []) = D1 at *
  obtain ⟨x1, d1⟩ := D1
  obtain ⟨x2, d2⟩ := D2
  simp only at *
  by_cases hx : x1 = 0
  · subst hx
    rw [if_pos rfl]
    go_enter Tryz.func33, Tryz.ntmps33
    go_wp2_with (first
      | (go_at_call 49; with_reducible refine HU.out.mono ?_; rintro e w' ⟨rfl, rfl⟩)
      | (go_at_call 56; with_reducible refine HW.out.mono ?_; rintro e w1 ⟨rfl, k1⟩; have k1 := Lib.hid k1)
      | (go_at_call 57; with_reducible refine (HS.out _ k1.out).mono ?_; rintro e w2 ⟨rfl, k2⟩; have k2 := Lib.hid k2))
    go_ret
    exact ⟨rfl, k2.out⟩
  · rw [if_neg hx]
    have hb : (x1 != 0) = true := by simpa using hx
    clear hx
    go_enter Tryz.func33, Tryz.ntmps33
    go_wp2_with (first
      | (go_at_call 49; with_reducible refine HU.out.mono ?_; rintro e w' ⟨rfl, rfl⟩)
      | (go_at_call 56; with_reducible refine HW.out.mono ?_; rintro e w1 ⟨rfl, k1⟩; have k1 := Lib.hid k1))
    go_ret
    exact ⟨rfl, k1.out⟩

set_option maxRecDepth 100000 in
theorem jnl_format_few {w : World} {F : Nat → Prop} {dv : Value} {d : D} (h : AtL w F dv d) (hn : d.S.length < 4) : Calls Tryz.prog 33 #[dv] w fun e w' => e = .returned (.int .i64 2) ∧ Doing AtL w F dv d w' := by
  have HU := Lib.hid (usable_few h hn)
  have fin := Lib.hid (doing_refl h)
  obtain ⟨b, rfl⟩ := atl_addr h
  clear h hn
  go_enter Tryz.func33, Tryz.ntmps33
  go_wp2_with (go_at_call 49; with_reducible refine HU.out.mono ?_; rintro e w' ⟨rfl, rfl⟩)
  go_ret
  exact ⟨rfl, fin.out⟩

set_option maxRecDepth 100000 in
theorem jnl_format_none (w : World) : Calls Tryz.prog 33 #[.pointer none] w fun e w' => e = .returned (.int .i64 1) ∧ Below w.heap.size w w' := by
  go_enter Tryz.func33, Tryz.ntmps33
  go_wp2_with (go_at_call 49; with_reducible refine (usable_none _).mono ?_; rintro e w' ⟨rfl, rfl⟩)
  go_ret
  exact ⟨rfl, Below.refl _ _⟩

set_option maxRecDepth 100000 in
theorem jnl_open_few {w : World} {F : Nat → Prop} {dv : Value} {d : D} (h : AtL w F dv d) (hn : d.S.length < 4) : Calls Tryz.prog 26 #[dv] w fun e w' => ∃ A c, e = .returned (.tuple #[.pointer none, .slice A 0 c, .int .i64 2]) ∧ Doing AtL w F dv d w' := by
  have HU := Lib.hid (usable_few h hn)
  have fin := Lib.hid (doing_refl h)
  obtain ⟨b, rfl⟩ := atl_addr h
  clear h hn
  go_enter Tryz.func26, Tryz.ntmps26
  go_wp2_with (go_at_call 49; with_reducible refine HU.out.mono ?_; rintro e w' ⟨rfl, rfl⟩)
  go_ret3
  exact ⟨none, 0, rfl, fin.out⟩

set_option maxRecDepth 100000 in
theorem jnl_open_none (w : World) : Calls Tryz.prog 26 #[.pointer none] w fun e w' => ∃ A c, e = .returned (.tuple #[.pointer none, .slice A 0 c, .int .i64 1]) ∧ Below w.heap.size w w' := by
  go_enter Tryz.func26, Tryz.ntmps26
  go_wp2_with (go_at_call 49; with_reducible refine (usable_none _).mono ?_; rintro e w' ⟨rfl, rfl⟩)
  go_ret3
  exact ⟨none, 0, rfl, Below.refl _ _⟩

set_option maxRecDepth 100000 in
/-- Behind newest: the disk's blocks are below the head's. -/
theorem has_from {w w1 w2 wr : World} {F Z : Nat → Prop} {dv : Value} {d : D} (h : Doing AtL w F dv d w1) (hF : ∀ i, F i → i < w.heap.size) (hb : Below w1.heap.size w1 w2) (k : Has w2 (Grow F w w1) Z dv d wr) : Has w F Z dv d wr ∧ Kept (fun i => Grow F w w1 i) w2 wr := by
  obtain ⟨⟨G, h1, h2, h3⟩, h4, h5⟩ := k
  refine ⟨⟨⟨G, h1, fun i hi => ?_, h3⟩, (h.2.trans (Kept.ofBelow hb (fun _ => False)) (fun _ _ h => h.elim)).trans h4 (fun i hi hg => ?_), h5⟩, h4⟩
  · rcases h2 i hi with (hi | hi) | hi
    · exact Or.inl hi
    · exact Or.inr ⟨hi.1, Nat.lt_of_lt_of_le hi.2 (Nat.le_trans hb.size h4.size)⟩
    · exact Or.inr ⟨Nat.le_trans (Nat.le_trans h.2.size hb.size) hi.1, hi.2⟩
  · rcases hg with hg | hg
    · exact hg
    · omega

set_option maxRecDepth 100000 in
set_option maxHeartbeats 1600000 in
/-- No head is valid. -/
theorem open_headless {w : World} {F : Nat → Prop} {dv : Value} {n : Nat} {d : D} {N : Nat} (h : AtL w F dv d) (hs : Sound n d N) (hN : N ≤ 100000) (hd : d.down = false) (hm : n ≤ 4096) (hc : cur (hof n) (Jnl.now d 0).data.toList (Jnl.now d 1).data.toList = none) :
    Calls Tryz.prog 26 #[dv] w fun e w' => ∃ A c, e = .returned (.tuple #[.pointer none, .slice A 0 c, .int .i64 8]) ∧ Doing AtL w F dv d w' := by
  have HU := Lib.hid (usable_ok h (by rw [hs.shape.len]; exact hs.four))
  have HNW := newest_any h hs.fine hN hs.shape.len hs.four hm hd hs.full
  rw [hc] at HNW
  have HNW := Lib.hid HNW
  simp only [hcells, herr] at HNW
  have hlt := Lib.hid h.2
  obtain ⟨b, rfl⟩ := atl_addr h
  clear h hs hc
  go_enter Tryz.func26, Tryz.ntmps26
  go_wp2_with (first
    | (go_at_call 49; with_reducible refine HU.out.mono ?_; rintro e w' ⟨rfl, rfl⟩)
    | (go_at_call 50; with_reducible refine HNW.out.mono ?_; rintro e w1 ⟨rfl, k1⟩; have k1 := Lib.hid k1))
  go_ret3
  exact ⟨none, 0, rfl, doing_below k1.out hlt.out ((Below.refl _ _).alloc (Nat.le_refl _) _)⟩

set_option maxRecDepth 100000 in
theorem cur_some {h : Nat} {x y : List UInt8} {a : Nat × Nat × Nat} (hc : cur h x y = some a) : headAt h x = some a ∨ headAt h y = some a := by
  unfold cur at hc
  cases hx : headAt h x with
  | none => rw [hx] at hc; exact Or.inr hc
  | some p =>
    rw [hx] at hc
    cases hy : headAt h y with
    | none => rw [hy] at hc; exact Or.inl hc
    | some r =>
      rw [hy] at hc
      simp only at hc
      split at hc
      · exact Or.inl hc
      · exact Or.inr hc

set_option maxRecDepth 100000 in
/-- What is made: a journal beside its disk, and the records. -/
theorem open_made {w w3 w4 w5 : World} {F : Nat → Prop} {dv bv tv lv : Value} {d : D} {n q half used : Nat} {B : List UInt8} {l : List (List UInt8)} (h3 : Has w F (fun i => bv.ownBlock = some i) dv d w3) (hF : ∀ i, F i → i < w.heap.size)
    (hl : Cells w4 (NewIn w3 w4) lv (texts l)) (h4 : Below w3.heap.size w3 w4) (ht : BytesAt w5 (fun i => w4.heap.size ≤ i ∧ i < w5.heap.size) tv (tailB B)) (h5 : Below w4.heap.size w4 w5) (hu : used = B.length) (hh : half ≤ 1) (hfit : B.length ≤ 64 * hof n) (hq : q < 9223372036854775808) :
    ∃ G H, JAt AtL JOwn (w5.alloc (.cells (jcells dv q half used tv false) 106)) G dv (.pointer (some ⟨w5.heap.size, 0, none⟩)) n d ⟨q, half, B, false⟩ ∧ Cells (w5.alloc (.cells (jcells dv q half used tv false) 106)) H lv (texts l) ∧ (∀ k, G k → ¬ H k) ∧ (∀ k, G k → Grow F w (w5.alloc (.cells (jcells dv q half used tv false) 106)) k) ∧ (∀ k, H k → Newly w (w5.alloc (.cells (jcells dv q half used tv false) 106)) k) ∧ Kept F w (w5.alloc (.cells (jcells dv q half used tv false) 106)) := by
  subst hu
  have h6 : Below w5.heap.size w5 (w5.alloc (.cells (jcells dv q half B.length tv false) 106)) := (Below.refl _ _).alloc (Nat.le_refl _) _
  have hr : Row (w5.alloc (.cells (jcells dv q half B.length tv false) 106)) w5.heap.size 106 (jcells dv q half B.length tv false) := Row.made _ _ _
  have hz : w5.heap.size < (w5.alloc (.cells (jcells dv q half B.length tv false) 106)).heap.size := hr.inHeap
  generalize w5.alloc (.cells (jcells dv q half B.length tv false) 106) = w6 at *
  have h36 : Below w3.heap.size w3 w6 := (h4.trans (h5.mono h4.size)).trans (h6.mono (Nat.le_trans h4.size h5.size))
  have h46 : Below w4.heap.size w4 w6 := h5.trans (h6.mono h5.size)
  obtain ⟨⟨G, g1, g2, g3⟩, hk, -⟩ := h3
  have z3 := hk.size
  have z4 := h4.size
  have z5 := h5.size
  refine ⟨fun i => G i ∨ (w4.heap.size ≤ i ∧ i < w6.heap.size), NewIn w3 w4, ⟨G, fun i => w4.heap.size ≤ i ∧ i < w6.heap.size, atl_below g1 h36, ⟨w5.heap.size, tv, rfl, hr, ⟨z5, hz⟩, (ht.below h6).mono (fun i hi => ⟨⟨hi.1, by omega⟩, by omega⟩), fun i hi => hi.2, hh, hfit, hq⟩, fun i hi hi2 => ?_, fun i hi => Or.inl hi, fun i hi => Or.inr hi⟩, hl.below h46, fun i hi hi2 => ?_, fun i hi => ?_, fun i hi => ?_, hk.trans (Kept.ofBelow h36 (fun _ => False)) (fun _ _ h => h.elim)⟩
  · have := g1.2 i hi; omega
  · rcases hi with hi | hi
    · have := g1.2 i hi; have := hi2.1; omega
    · have := hi2.2; omega
  · rcases hi with hi | hi
    · exact Grow.within (g2 i hi) h36.size
    · exact Or.inr ⟨by omega, hi.2⟩
  · exact ⟨by have := hi.1; omega, by have := hi.2; omega⟩

set_option maxRecDepth 100000 in
set_option maxHeartbeats 1600000 in
/-- A head is valid. -/
theorem open_headed {w : World} {F : Nat → Prop} {dv : Value} {n : Nat} {d : D} {N q half used : Nat} (h : AtL w F dv d) (hs : Sound n d N) (hN : N ≤ 100000) (hd : d.down = false) (hm : n ≤ 4096) (hc : cur (hof n) (Jnl.now d 0).data.toList (Jnl.now d 1).data.toList = some (q, half, used)) {B : List UInt8} (hB : B = (halfB (Jnl.now d) (2 + half * hof n) (hof n)).take used) :
    Calls Tryz.prog 26 #[dv] w fun e w' =>
      if (Frm.read B).2 = 0 then ∃ jv lv G H, e = .returned (.tuple #[jv, lv, .int .i64 0]) ∧ JAt AtL JOwn w' G dv jv n d ⟨q, half, B, false⟩ ∧ Cells w' H lv (texts (Frm.read B).1) ∧ (∀ k, G k → ¬ H k) ∧ (∀ k, G k → Grow F w w' k) ∧ (∀ k, H k → Newly w w' k) ∧ Kept F w w'
      else ∃ A c, e = .returned (.tuple #[.pointer none, .slice A 0 c, .int .i64 (Frm.read B).2]) ∧ Doing AtL w F dv d w' := by
  have hho : hof n ≤ 4096 := by unfold hof; omega
  have hfit := hof_fits hs.four
  obtain ⟨hq, hh, hu⟩ : q < 9223372036854775808 ∧ half ≤ 1 ∧ used ≤ 64 * hof n := by
    rcases cur_some hc with hc | hc
    · obtain ⟨a1, a2, a3, -⟩ := headAt_only hc; exact ⟨a1, a2, a3⟩
    · obtain ⟨a1, a2, a3, -⟩ := headAt_only hc; exact ⟨a1, a2, a3⟩
  have hhb := half_base (h := hof n) hh
  have hlen : used = B.length := by
    rw [hB, List.length_take, (halfB_at (Jnl.now d) (2 + half * hof n) (hof n) (fun i hi => hs.full _ (by omega))).1]
    omega
  have HU := Lib.hid (usable_ok h (by rw [hs.shape.len]; exact hs.four))
  have HNW := newest_any h hs.fine hN hs.shape.len hs.four hm hd hs.full
  rw [hc] at HNW
  have HNW := Lib.hid HNW
  simp only [hcells, herr] at HNW
  have hlt := Lib.hid h.2
  have HUB := Lib.hid (fun (w1 w2 : World) (k : Doing AtL w F dv d w1) (hb : Below w1.heap.size w1 w2) => used_bytes (w := w2) (q := q) (atl_below k.1 hb) hs.fine hN hs.shape.len hs.four hm hd hs.full hh hu)
  rw [← hB] at HUB
  have HFR : Hid (∀ W, Calls Tryz.prog 52 #[.string ⟨B.toArray⟩] W fun e w' => ∃ v, e = .returned (.tuple #[v, .int .i64 (Frm.read B).2]) ∧ Cells w' (NewIn W w') v (texts (Frm.read B).1) ∧ Below W.heap.size W w') := Lib.hid (fun W => by
    have := frame_ok.read (mk B) W (by rw [mk_len]; omega)
    rw [mk_data] at this
    exact this)
  have Hlen := Lib.hid hlen
  have Hh := Lib.hid hh
  have Hfit : Hid (B.length ≤ 64 * hof n) := Lib.hid (by omega)
  have Hq := Lib.hid hq
  have Hsm : Hid (B.length ≤ 1000000) := Lib.hid (by omega)
  obtain ⟨b, rfl⟩ := atl_addr h
  clear h hs hc hB hho hfit hq hh hu hhb hlen hd hm
  generalize Frm.read B = rd at *
  obtain ⟨l, x⟩ := rd
  simp only at *
  by_cases hx : x = 0
  · simp only [if_pos hx]
    subst hx
    go_enter Tryz.func26, Tryz.ntmps26
    go_wp2_with (first
      | (go_at_call 49; with_reducible refine HU.out.mono ?_; rintro e w' ⟨rfl, rfl⟩)
      | (go_at_call 50; with_reducible refine HNW.out.mono ?_; rintro e w1 ⟨rfl, k1⟩; have k1 := Lib.hid k1)
      | (go_at_call 51; refine (HUB.out w1 _ k1.out ((Below.refl _ _).alloc (Nat.le_refl _) _)).mono ?_; rintro e w3 ⟨bv, rfl, k3, hba, hfar⟩
         have conv := conv_bytes hba
         have k3 := Lib.hid (has_from k1.out hlt.out ((Below.refl _ _).alloc (Nat.le_refl _) _) k3)
         have hba := Lib.hid hba
         clear hfar)
      | (go_at_call 52; refine (HFR.out _).mono ?_; rintro e w4 ⟨lv, rfl, hl4, h4⟩
         have hr4 := Lib.hid (((Row.made w1 96 #[.int .i64 (q : Int), .int .i64 (half : Int), .int .i64 (used : Int)]).kept k3.out.2 (fun hg => by have := Grow.lt hg hlt.out k1.out.2.size; omega)).below h4 (Nat.lt_of_lt_of_le (by simp) k3.out.2.size))
         have h4 := Lib.hid h4
         have hl4 := Lib.hid hl4
         have hc4 : Hid (∀ w', Below w4.heap.size w4 w' → w'.cell? ⟨w1.heap.size, 0, none⟩ = some (.int .i64 (q : Int)) ∧ w'.cell? ⟨w1.heap.size, 1, none⟩ = some (.int .i64 (half : Int)) ∧ w'.cell? ⟨w1.heap.size, 2, none⟩ = some (.int .i64 (used : Int))) := Lib.hid (fun w' hb => by
           have hr := hr4.out.below hb hr4.out.inHeap
           exact ⟨hr.at 0, hr.at 1, hr.at 2⟩)
         have ht4 := Lib.hid (hba.out.below h4.out)
         clear conv))
    refine wp_region_held_drew (S := (Below w4.heap.size w4)) (by kernel_rfl) (Below.drew (Below.refl _ _)) (fun hHeld => ?_)
    refine wpAnyH_take (i := 0) (v := ?_) rfl (by kernel_rfl) (by kernel_rfl) (by kernel_rfl) (fun _ _ _ h => h) (Or.inl ⟨by rfl, (by intro w hSw; go_simp; try with_reducible rfl)⟩) (by assumption) ?_
    simp only [Act.put, List.getElem_toArray, List.getElem_cons_zero, List.getElem_cons_succ, List.setIfInBounds_toArray, List.set_cons_zero, List.set_cons_succ]
    refine wpAnyH_take (i := 1) (v := ?_) rfl (by kernel_rfl) (by kernel_rfl) (by kernel_rfl) (fun _ _ _ h => h) (Or.inl ⟨by rfl, (by intro w hSw; have c0 := (hc4.out w hSw).1; have c1 := (hc4.out w hSw).2.1; have c2 := (hc4.out w hSw).2.2; go_simp; try with_reducible rfl)⟩) (by assumption) ?_
    simp only [Act.put, List.getElem_toArray, List.getElem_cons_zero, List.getElem_cons_succ, List.setIfInBounds_toArray, List.set_cons_zero, List.set_cons_succ]
    refine wpAnyH_take (i := 2) (v := ?_) rfl (by kernel_rfl) (by kernel_rfl) (by kernel_rfl) (fun _ _ _ h => h) (Or.inl ⟨by rfl, (by intro w hSw; go_simp; try with_reducible rfl)⟩) (by assumption) ?_
    simp only [Act.put, List.getElem_toArray, List.getElem_cons_zero, List.getElem_cons_succ, List.setIfInBounds_toArray, List.set_cons_zero, List.set_cons_succ]
    refine wpAnyH_take (i := 6) (v := ?_) rfl (by kernel_rfl) (by kernel_rfl) (by kernel_rfl) (fun _ _ _ h => h) (Or.inl ⟨by rfl, (by intro w hSw; go_simp; try with_reducible rfl)⟩) (by assumption) ?_
    simp only [Act.put, List.getElem_toArray, List.getElem_cons_zero, List.getElem_cons_succ, List.setIfInBounds_toArray, List.set_cons_zero, List.set_cons_succ]
    refine wpAnyH_ready (rs := [3]) (by kernel_rfl) (by simp) ?_
    refine AllReadyH.cons rfl (fun K hK => ?_) AllReadyH.nil
    go_simp
    go_at_call 53
    refine (tail_of (ht4.out.below hHeld) Hsm.out).mono ?_
    rintro e w5 ⟨tv, rfl, ht5, hb5⟩
    have hba5 := ht5.mono (G := fun i => w4.heap.size ≤ i ∧ i < w5.heap.size) (fun i hi => ⟨Nat.le_trans hHeld.size hi.1, hi.2⟩)
    have hb5 := hHeld.trans (hb5.mono hHeld.size)
    clear ht5
    obtain ⟨A5, c5, rfl⟩ := hba5.form
    refine hK.out _ _ hb5 (fun hHeld => ?_)
    clear hK K
    refine wpAnyH_take (i := 4) (v := ?_) rfl (by kernel_rfl) (by kernel_rfl) (by kernel_rfl) (fun _ _ _ h => h) (Or.inl ⟨by rfl, (by intro w hSw; go_simp; try with_reducible rfl)⟩) (by assumption) ?_
    simp only [Act.put, List.getElem_toArray, List.getElem_cons_zero, List.getElem_cons_succ, List.setIfInBounds_toArray, List.set_cons_zero, List.set_cons_succ]
    refine wpAnyH_ready (rs := [5]) (by kernel_rfl) (by simp) ?_
    refine AllReadyH.cons rfl (fun K hK => ?_) AllReadyH.nil
    go_simp
    refine hK.out _ _ (hHeld.alloc hHeld.size _) (fun hHeld => ?_)
    clear hK K
    refine wpAnyH_take (i := 7) (v := ?_) rfl (by kernel_rfl) (by kernel_rfl) (by kernel_rfl) (fun _ _ _ h => h) (Or.inl ⟨by rfl, (by intro w hSw; go_simp; try with_reducible rfl)⟩) (by assumption) ?_
    simp only [Act.put, List.getElem_toArray, List.getElem_cons_zero, List.getElem_cons_succ, List.setIfInBounds_toArray, List.set_cons_zero, List.set_cons_succ]
    refine wpAnyH_take (i := 8) (v := ?_) rfl (by kernel_rfl) (by kernel_rfl) (by kernel_rfl) (fun _ _ _ h => h) (Or.inl ⟨by rfl, (by intro w hSw; go_simp; try with_reducible rfl)⟩) (by assumption) ?_
    simp only [Act.put, List.getElem_toArray, List.getElem_cons_zero, List.getElem_cons_succ, List.setIfInBounds_toArray, List.set_cons_zero, List.set_cons_succ]
    refine wpAnyH_take (i := 9) (v := ?_) rfl (by kernel_rfl) (by kernel_rfl) (by kernel_rfl) (fun _ _ _ h => h) (Or.inl ⟨by rfl, (by intro w hSw; go_simp; try with_reducible rfl)⟩) (by assumption) ?_
    simp only [Act.put, List.getElem_toArray, List.getElem_cons_zero, List.getElem_cons_succ, List.setIfInBounds_toArray, List.set_cons_zero, List.set_cons_succ]
    refine wpAnyH_done (by kernel_rfl) ?_ _
    have hmade := open_made (n := n) k3.out.1 hlt.out hl4.out h4.out hba5 hb5 Hlen.out Hh.out Hfit.out Hq.out
    have Hmade := Lib.hid hmade
    clear hmade hHeld hba5 hb5
    go_wp2_with fail
    go_ret3
    obtain ⟨G, H, hGH⟩ := Hmade.out
    exact ⟨_, lv, G, H, rfl, hGH⟩
  · simp only [if_neg hx]
    have hb : (x != 0) = true := by simpa using hx
    clear hx
    go_enter Tryz.func26, Tryz.ntmps26
    go_wp2_with (first
      | (go_at_call 49; with_reducible refine HU.out.mono ?_; rintro e w' ⟨rfl, rfl⟩)
      | (go_at_call 50; with_reducible refine HNW.out.mono ?_; rintro e w1 ⟨rfl, k1⟩; have k1 := Lib.hid k1)
      | (go_at_call 51; refine (HUB.out w1 _ k1.out ((Below.refl _ _).alloc (Nat.le_refl _) _)).mono ?_; rintro e w3 ⟨bv, rfl, k3, hba, hfar⟩
         have conv := conv_bytes hba
         have k3 := Lib.hid (has_from k1.out hlt.out ((Below.refl _ _).alloc (Nat.le_refl _) _) k3)
         clear hba hfar)
      | (go_at_call 52; refine (HFR.out _).mono ?_; rintro e w4 ⟨lv, rfl, hl4, h4⟩
         have h4 := Lib.hid h4
         clear conv hl4))
    go_ret3
    exact ⟨none, 0, rfl, (k3.out.1.below h4.out).doing hlt.out⟩
end Go.Proofs.YtbfjageaheijbaaGreat
/- The package journal as it landed (433cdf9) answers as its contracts say. -/
set_option linter.unusedSimpArgs false
set_option linter.unusedVariables false
namespace Go.Proofs.YtbfjageaheijbaaGreat
open Go.RowKit Dsk Jnl

set_option maxRecDepth 100000 in
/-- A disk's head that holds. -/
theorem jnl_opened {w : World} {F : Nat → Prop} {dv : Value} {n : Nat} {d : D} {N : Nat} {j : J} {l : List (List UInt8)} (h : AtL w F dv d) (hs : Sound n d N) (hN : N ≤ 100000) (hd : d.down = false) (ho : opens n (Jnl.now d) = (0, some j, l)) :
    Calls Tryz.prog 26 #[dv] w fun e w' => ∃ jv lv G H, e = .returned (.tuple #[jv, lv, .int .i64 0]) ∧ JAt AtL JOwn w' G dv jv n d j ∧ Cells w' H lv (texts l) ∧ (∀ k, G k → ¬ H k) ∧ (∀ k, G k → Grow F w w' k) ∧ (∀ k, H k → Newly w w' k) ∧ Kept F w w' := by
  have hm : n ≤ 4096 := by have := atl_few h; have := hs.shape.len; omega
  unfold opens at ho
  cases hc : cur ((n - 2) / 2) (Jnl.now d 0).data.toList (Jnl.now d 1).data.toList with
  | none => rw [hc] at ho; simp at ho
  | some a =>
    obtain ⟨q, half, used⟩ := a
    rw [hc] at ho
    have hh := open_headed h hs hN hd hm hc rfl
    unfold hof at hh
    by_cases hr : (Frm.read ((halfB (Jnl.now d) (2 + half * ((n - 2) / 2)) ((n - 2) / 2)).take used)).2 = 0
    · simp only [if_pos hr] at ho hh
      simp only [Prod.mk.injEq, Option.some.injEq, true_and] at ho
      obtain ⟨rfl, rfl⟩ := ho
      exact hh
    · simp only [if_neg hr] at ho
      simp at ho

set_option maxRecDepth 100000 in
theorem jnl_refused {w : World} {F : Nat → Prop} {dv : Value} {n : Nat} {d : D} {N : Nat} {x : Int} (h : AtL w F dv d) (hs : Sound n d N) (hN : N ≤ 100000) (hd : d.down = false) (ho : opens n (Jnl.now d) = (x, none, [])) :
    Calls Tryz.prog 26 #[dv] w fun e w' => ∃ A c, e = .returned (.tuple #[.pointer none, .slice A 0 c, .int .i64 x]) ∧ Doing AtL w F dv d w' := by
  have hm : n ≤ 4096 := by have := atl_few h; have := hs.shape.len; omega
  unfold opens at ho
  cases hc : cur ((n - 2) / 2) (Jnl.now d 0).data.toList (Jnl.now d 1).data.toList with
  | none =>
    rw [hc] at ho
    simp only [Prod.mk.injEq, and_true] at ho
    subst ho
    exact open_headless h hs hN hd hm hc
  | some a =>
    obtain ⟨q, half, used⟩ := a
    rw [hc] at ho
    have hh := open_headed h hs hN hd hm hc rfl
    unfold hof at hh
    by_cases hr : (Frm.read ((halfB (Jnl.now d) (2 + half * ((n - 2) / 2)) ((n - 2) / 2)).take used)).2 = 0
    · simp only [if_pos hr] at ho
      simp at ho
    · simp only [if_neg hr] at ho hh
      simp only [Prod.mk.injEq, and_true] at ho
      subst ho
      exact hh

set_option maxRecDepth 100000 in
theorem journal_ok : JournalOk AtL JOwn where
  kept := jown_kept
  lt := jown_lt
  ptr := jown_ptr
  format := fun h hs hN => jnl_format h hs hN
  format_few := fun h _ _ hn => jnl_format_few h hn
  format_none := jnl_format_none
  opened := fun h hs hN hd ho => jnl_opened h hs hN hd ho
  refused := fun h hs hN hd ho => jnl_refused h hs hN hd ho
  open_few := fun h _ _ hn => jnl_open_few h hn
  open_none := jnl_open_none
  append := fun h hs hN0 hN hl hG ha hat => jnl_append h hs hN0 hN hl hG ha hat
  rewrite := fun h hs hN0 hN hl hG ha hat => jnl_rewrite h hs hN0 hN hl hG ha hat
  used := jnl_used
  room := jnl_room
  none_append := none_append
  none_rewrite := none_rewrite
  none_used := none_used
  none_room := none_room
end Go.Proofs.YtbfjageaheijbaaGreat
/- The landed store in memory, and the calls that only look. -/
set_option linter.unusedSimpArgs false
set_option linter.unusedVariables false
namespace Go.Proofs.YtbfjageaheijbaaGreat
open Go.RowKit Dsk Jnl

def scells (jv : Value) (bm : Nat) (s : Sto.Sr) : Array Value := #[jv, .map (some bm), .int .i64 (Sto.bytes s.vals : Int), .int .i64 (Sto.whole s.vals : Int), .int .i64 s.quota, .bool s.broken]

/-- A store of a disk of n sectors, of blocks of F. -/
structure SLies (w : World) (F F2 : Nat → Prop) (dv jv : Value) (n : Nat) (s : Sto.Sr) (b bm : Nat) : Prop where
  row : Row w b 81 (scells jv bm s)
  jnl : JOwn w F2 dv jv n s.j
  map : MapAt w bm s.vals
  inB : F b
  inM : F bm
  inJ : ∀ k, F2 k → F k ∧ k ≠ b ∧ k ≠ bm
  lt : ∀ k, F k → k < w.heap.size

def SOwn (w : World) (F : Nat → Prop) (dv sv : Value) (n : Nat) (s : Sto.Sr) : Prop := ∃ b bm jv F2, sv = .pointer (some ⟨b, 0, none⟩) ∧ SLies w F F2 dv jv n s b bm

section
variable {w w' : World} {F G : Nat → Prop} {dv sv : Value} {n : Nat} {d : D} {s : Sto.Sr}

set_option maxRecDepth 100000 in
theorem sown_kept (h : SOwn w F dv sv n s) (k : Kept G w w') (hd : ∀ i, F i → ¬ G i) : SOwn w' F dv sv n s := by
  obtain ⟨b, bm, jv, F2, h1, h⟩ := h
  exact ⟨b, bm, jv, F2, h1, ⟨h.row.kept k (hd b h.inB), jown_kept h.jnl k (fun i hi => hd i (h.inJ i hi).1), h.map.kept k (hd bm h.inM), h.inB, h.inM, h.inJ, fun i hi => Nat.lt_of_lt_of_le (h.lt i hi) k.size⟩⟩

set_option maxRecDepth 100000 in
theorem sown_lt (h : SOwn w F dv sv n s) : ∀ k, F k → k < w.heap.size := by
  obtain ⟨b, bm, jv, F2, h1, h⟩ := h
  exact h.lt

set_option maxRecDepth 100000 in
theorem sown_ptr (h : SOwn w F dv sv n s) : ∃ p, sv = .pointer (some p) := by
  obtain ⟨b, bm, jv, F2, h1, h⟩ := h
  exact ⟨_, h1⟩

set_option maxRecDepth 100000 in
theorem sown_below (h : SOwn w F dv sv n s) (k : Below w.heap.size w w') : SOwn w' F dv sv n s := sown_kept h (Kept.ofBelow k (fun _ => False)) (fun _ _ h => h)

set_option maxRecDepth 100000 in
theorem sat_below (h : SAt AtL SOwn w F dv sv n d s) (k : Below w.heap.size w w') : SAt AtL SOwn w' (Grow F w w') dv sv n d s ∧ Kept F w w' := by
  obtain ⟨F1, F2, h1, h2, h3, h4, h5⟩ := h
  exact ⟨⟨F1, F2, atl_below h1 k, sown_below h2 k, h3, fun i hi => Or.inl (h4 i hi), fun i hi => Or.inl (h5 i hi)⟩, Kept.ofBelow k _⟩

set_option maxRecDepth 100000 in
theorem sto_bytes (h : SAt AtL SOwn w F dv sv n d s) : Calls Tryz.prog 31 #[sv] w fun e w' => e = .returned (.int .i64 (Sto.bytes s.vals : Int)) ∧ SAt AtL SOwn w' (Grow F w w') dv sv n d s ∧ Kept F w w' := by
  have fin := Lib.hid (sat_below h (Below.refl _ _))
  obtain ⟨F1, F2, h1, ⟨b, bm, jv, F3, rfl, h⟩, -⟩ := h
  have c2 : w.cell? ⟨b, 2, none⟩ = some (.int .i64 (Sto.bytes s.vals : Int)) := h.row.at 2
  clear h1 h
  go_enter Tryz.func31, Tryz.ntmps31
  go_wp2_with fail
  go_ret
  exact ⟨rfl, fin.out⟩

set_option maxRecDepth 100000 in
theorem sto_quota (h : SAt AtL SOwn w F dv sv n d s) : Calls Tryz.prog 20 #[sv] w fun e w' => e = .returned (.int .i64 s.quota) ∧ SAt AtL SOwn w' (Grow F w w') dv sv n d s ∧ Kept F w w' := by
  have fin := Lib.hid (sat_below h (Below.refl _ _))
  obtain ⟨F1, F2, h1, ⟨b, bm, jv, F3, rfl, h⟩, -⟩ := h
  have c4 : w.cell? ⟨b, 4, none⟩ = some (.int .i64 s.quota) := h.row.at 4
  clear h1 h
  go_enter Tryz.func20, Tryz.ntmps20
  go_wp2_with fail
  go_ret
  exact ⟨rfl, fin.out⟩

set_option maxRecDepth 100000 in
theorem sto_broken (h : SAt AtL SOwn w F dv sv n d s) : Calls Tryz.prog 18 #[sv] w fun e w' => e = .returned (.bool s.broken) ∧ SAt AtL SOwn w' (Grow F w w') dv sv n d s ∧ Kept F w w' := by
  have fin := Lib.hid (sat_below h (Below.refl _ _))
  obtain ⟨F1, F2, h1, ⟨b, bm, jv, F3, rfl, h⟩, -⟩ := h
  have c5 : w.cell? ⟨b, 5, none⟩ = some (.bool s.broken) := h.row.at 5
  clear h1 h
  generalize s.broken = B at *
  cases B
  all_goals
    go_enter Tryz.func18, Tryz.ntmps18
    go_wp2_with fail
    go_ret
    exact ⟨rfl, fin.out⟩

set_option maxRecDepth 100000 in
theorem sto_len (h : SAt AtL SOwn w F dv sv n d s) : Calls Tryz.prog 32 #[sv] w fun e w' => e = .returned (.int .i64 (s.vals.length : Int)) ∧ SAt AtL SOwn w' (Grow F w w') dv sv n d s ∧ Kept F w w' := by
  have fin := Lib.hid (sat_below h (Below.refl _ _))
  obtain ⟨F1, F2, h1, ⟨b, bm, jv, F3, rfl, h⟩, -⟩ := h
  have c1 : w.cell? ⟨b, 1, none⟩ = some (.map (some bm)) := h.row.at 1
  have hlen := fun ty => h.map.len ty
  clear h1 h
  go_enter Tryz.func32, Tryz.ntmps32
  go_wp2_with fail
  go_ret
  exact ⟨rfl, fin.out⟩

set_option maxRecDepth 100000 in
theorem sto_get (h : SAt AtL SOwn w F dv sv n d s) (k : ByteArray) (hk : k.size ≤ 9223372036854775807) :
    Calls Tryz.prog 30 #[sv, .string k] w fun e w' => e = .returned (.tuple #[.string (mk ((Sto.get s.vals k.data.toList).getD [])), .bool (Sto.get s.vals k.data.toList).isSome]) ∧ SAt AtL SOwn w' (Grow F w w') dv sv n d s ∧ Kept F w w' := by
  have fin := Lib.hid (fun w' => sat_below (w' := w') h)
  obtain ⟨F1, F2, h1, ⟨b, bm, jv, F3, rfl, h⟩, -⟩ := h
  have c1 : w.cell? ⟨b, 1, none⟩ = some (.map (some bm)) := h.row.at 1
  have hlook := h.map.look hk
  clear h1 h
  generalize Sto.get s.vals k.data.toList = g at *
  cases g with
  | none =>
    simp only [Option.isSome_none, Option.getD_none] at hlook ⊢
    go_enter Tryz.func30, Tryz.ntmps30
    go_wp2_with fail
    go_ret2
    exact ⟨rfl, fin.out _ ((Below.refl _ _).alloc (Nat.le_refl _) _)⟩
  | some v =>
    unfold elemV at hlook
    simp only [Option.isSome_some, Option.getD_some] at hlook ⊢
    go_enter Tryz.func30, Tryz.ntmps30
    go_wp2_with fail
    go_ret2
    exact ⟨rfl, fin.out _ ((Below.refl _ _).alloc (Nat.le_refl _) _)⟩

set_option maxRecDepth 100000 in
theorem sto_keys (h : SAt AtL SOwn w F dv sv n d s) (hg : Good s) (p : ByteArray) :
    Calls Tryz.prog 24 #[sv, .string p] w fun e w' => ∃ v, e = .returned v ∧ Cells w' (NewIn w w') v (texts (Sto.keys s.vals p.data.toList)) ∧ SAt AtL SOwn w' (Grow F w w') dv sv n d s ∧ Kept F w w' := by
  have fin := Lib.hid (fun w' => sat_below (w' := w') h)
  obtain ⟨F1, F2, h1, ⟨b, bm, jv, F3, rfl, h⟩, -⟩ := h
  have c1 : w.cell? ⟨b, 1, none⟩ = some (.map (some bm)) := h.row.at 1
  have c2 : w.cell? ⟨b, 2, none⟩ = some (.int .i64 (Sto.bytes s.vals : Int)) := h.row.at 2
  have c3 : w.cell? ⟨b, 3, none⟩ = some (.int .i64 (Sto.whole s.vals : Int)) := h.row.at 3
  have HK := Lib.hid (sto_vkeys h.map hg.sorted hg.fit (by have := hg.few; omega) p)
  unfold vA vcells at HK
  clear h1 h hg
  go_enter Tryz.func24, Tryz.ntmps24
  go_wp2_with (go_at_call 48; refine HK.out.mono ?_; rintro e w1 ⟨v, rfl, hc1, hb1⟩; have HC := Lib.hid hc1; clear hc1)
  go_ret
  exact ⟨_, rfl, HC.out, fin.out _ hb1⟩

set_option maxRecDepth 100000 in
theorem sto_none_get (w : World) (k : ByteArray) : Calls Tryz.prog 30 #[.pointer none, .string k] w fun e w' => e = .returned (.tuple #[.string ⟨#[]⟩, .bool false]) ∧ Below w.heap.size w w' := by
  go_enter Tryz.func30, Tryz.ntmps30
  go_wp2_with fail
  go_ret2
  exact ⟨rfl, Below.refl _ _⟩

set_option maxRecDepth 100000 in
theorem sto_none_bytes (w : World) : Calls Tryz.prog 31 #[.pointer none] w fun e w' => e = .returned (.int .i64 0) ∧ Below w.heap.size w w' := by
  go_enter Tryz.func31, Tryz.ntmps31
  go_wp2_with fail
  go_ret
  exact ⟨rfl, Below.refl _ _⟩

set_option maxRecDepth 100000 in
theorem sto_none_quota (w : World) : Calls Tryz.prog 20 #[.pointer none] w fun e w' => e = .returned (.int .i64 0) ∧ Below w.heap.size w w' := by
  go_enter Tryz.func20, Tryz.ntmps20
  go_wp2_with fail
  go_ret
  exact ⟨rfl, Below.refl _ _⟩

set_option maxRecDepth 100000 in
theorem sto_none_len (w : World) : Calls Tryz.prog 32 #[.pointer none] w fun e w' => e = .returned (.int .i64 0) ∧ Below w.heap.size w w' := by
  go_enter Tryz.func32, Tryz.ntmps32
  go_wp2_with fail
  go_ret
  exact ⟨rfl, Below.refl _ _⟩

set_option maxRecDepth 100000 in
theorem sto_none_keys (w : World) (p : ByteArray) : Calls Tryz.prog 24 #[.pointer none, .string p] w fun e w' => ∃ A c, e = .returned (.slice A 0 c) ∧ Below w.heap.size w w' := by
  go_enter Tryz.func24, Tryz.ntmps24
  go_wp2_with fail
  go_ret
  exact ⟨_, _, rfl, Below.refl _ _⟩

set_option maxRecDepth 100000 in
theorem sto_none_broken (w : World) : Calls Tryz.prog 18 #[.pointer none] w fun e w' => e = .returned (.bool true) ∧ Below w.heap.size w w' := by
  go_enter Tryz.func18, Tryz.ntmps18
  go_wp2_with fail
  go_ret
  exact ⟨rfl, Below.refl _ _⟩
end
end Go.Proofs.YtbfjageaheijbaaGreat
