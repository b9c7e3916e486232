import Derived.Test.YtpmolinmopgbdaaGreatCom20
import Derived.Test.YtpmolinmopgbdaaGreatCom15
import Derived.Test.YtpmolinmopgbdaaGreatCom5
import Derived.Test.YtpmolinmopgbdaaGreatCom9
import Derived.Test.YtpmolinmopgbdaaGreatCom11
import Derived.Test.YtpmolinmopgbdaaGreatCom12
import Derived.Test.YtpmolinmopgbdaaGreatCom17
set_option maxRecDepth 100000
set_option linter.unusedVariables false
set_option linter.unusedSimpArgs false
set_option maxHeartbeats 12800000
namespace Go.Proofs.YtpmolinmopgbdaaGreat
open List renaming getElem_toArray → z1, getElem_cons_zero → z2, getElem_cons_succ → z3, setIfInBounds_toArray → z4, set_cons_zero → z5, set_cons_succ → z6
open Go.RowKit Go.Sort
theorem know_union (V : VecOk) (I : IsetOk) (C : CoverOk) (Z : FilterOk) {w : World} {F G : Nat → Prop} {v u : Value} {a b : Know.K} (ha : Kns w F v a) (hb : Kns w G u b) (hk : Know.Ok (Know.union a b)) : Calls Tryz.prog 22 #[v, u] w fun e w' => ∃ v' c, e = .returned v' ∧ Know.Canon (Know.union a b) c ∧ KnNew w v' c w' ∧ Below w.heap.size w w' := by
 have hz := knZero
 obtain ⟨a1, a2, rfl, ⟨ra, hax, har, hai⟩, hai2⟩ := ha
 obtain ⟨b1, b2, rfl, ⟨rb, hbx, hbr, hbi⟩, hbi2⟩ := hb
 obtain ⟨A, ca, rfl, -⟩ := har.parts
 obtain ⟨B, cb, rfl, -⟩ := hai2.1.parts
 obtain ⟨D, cd, rfl, -⟩ := hbr.parts
 obtain ⟨E, ce, rfl, -⟩ := hbi2.1.parts
 obtain ⟨W0, hW0⟩ : ∃ W0, W0 = ((w.alloc (.cells #[.slice A ra.length ca, .slice B a.items.length cb] 25)).alloc (.cells #[.slice D rb.length cd, .slice E b.items.length ce] 25)).alloc (.cells #[.slice none 0 0, .slice none 0 0] 25) := ⟨_, rfl⟩
 have hb0 : Below w.heap.size w W0 := by rw [hW0]; exact (((Below.refl _ _).alloc (Nat.le_refl _) _).alloc (by simp) _).alloc (by simp; omega) _
 have r0 : Row W0 w.heap.size 25 #[.slice A ra.length ca, .slice B a.items.length cb] := by rw [hW0]; exact ((Row.made w _ _).behindNew _).behindNew _
 have r1 : Row W0 (w.heap.size + 1) 25 #[.slice D rb.length cd, .slice E b.items.length ce] := by
  rw [hW0]
  have := (Row.made (w.alloc (.cells #[.slice A ra.length ca, .slice B a.items.length cb] 25)) 25 #[.slice D rb.length cd, .slice E b.items.length ce]).behindNew (.cells #[.slice none 0 0, .slice none 0 0] 25)
  rwa [World.size_alloc] at this
 have r2 : Row W0 (w.heap.size + 1 + 1) 25 #[.slice none 0 0, .slice none 0 0] := by
  rw [hW0]
  have := Row.made ((w.alloc (.cells #[.slice A ra.length ca, .slice B a.items.length cb] 25)).alloc (.cells #[.slice D rb.length cd, .slice E b.items.length ce] 25)) 25 #[.slice none 0 0, .slice none 0 0]
  rwa [World.size_alloc, World.size_alloc] at this
 have XC := Lib.hid (fun (W : World) (h : InB W0 W) => (⟨(r0.below h.below r0.inHeap).at 0, (r0.below h.below r0.inHeap).at 1, (r1.below h.below r1.inHeap).at 0, (r1.below h.below r1.inHeap).at 1⟩ : W.cell? ⟨w.heap.size, 0, none⟩ = some (.slice A ra.length ca) ∧ W.cell? ⟨w.heap.size, 1, none⟩ = some (.slice B a.items.length cb) ∧ W.cell? ⟨w.heap.size + 1, 0, none⟩ = some (.slice D rb.length cd) ∧ W.cell? ⟨w.heap.size + 1, 1, none⟩ = some (.slice E b.items.length ce)))
 have R2 := Lib.hid (fun (W : World) (h : InB W0 W) => (r2.below h.below r2.inHeap : Row W (w.heap.size + 1 + 1) 25 #[.slice none 0 0, .slice none 0 0]))
 have HS2 := Lib.hid r2.inHeap
 have hlf : ra.length + rb.length ≤ 1000 := by
  have := hk.fr
  unfold Know.union at this
  simp only [List.length_append] at this
  rwa [← hax, ← hbx, List.length_map, List.length_map] at this
 have hli : a.items.length + b.items.length ≤ 1000 := by
  have := hk.it
  unfold Know.union at this
  simpa only [List.length_append] using this
 have CF := Lib.hid (fun (W : World) (h : InB W0 W) (bk : Nat) (r : Row W bk 22 #[.slice A ra.length ca, .slice D rb.length cd]) => fr_concat (Rws.below (Rws.below har hb0) h.below) (Rws.below (Rws.below hbr hb0) h.below) (fun x hx => rf_len (hai x hx).len) (fun x hx => rf_len (hbi x hx).len) (fun x hx => (hai x hx).one) (fun x hx => (hbi x hx).one) (by omega) (by omega) (r.at 0) (r.at 1) r.inHeap)
 have CI := Lib.hid (fun (W : World) (h : InB W0 W) (bk : Nat) (r : Row W bk 23 #[.slice B a.items.length cb, .slice E b.items.length ce]) => it_concat (Rws.below (Rws.below hai2.1 hb0) h.below) (Rws.below (Rws.below hbi2.1 hb0) h.below) (fun x hx => it_len (hai2.2 x hx)) (fun x hx => it_len (hbi2.2 x hx)) (fun x _ => it_one x) (fun x _ => it_one x) (by omega) (by omega) (r.at 0) (r.at 1) r.inHeap)
 have NF := Lib.hid (fun (X W : World) (v' : Value) (hX : InB W0 X) (h : RowsOwn 42 67 rfV X (ra ++ rb) v' W) => show Frs W AnyB v' (Know.union a b).frags from (⟨ra ++ rb, by rw [List.map_append, hax, hbx]; rfl, (h.rows (fun x hx => by rcases List.mem_append.1 hx with hx | hx; exact rf_len (hai x hx).len; exact rf_len (hbi x hx).len)).mono (fun _ _ => trivial), fun x hx => by
  rcases List.mem_append.1 hx with hx | hx
  ·exact ((((hai x hx).below hb0).below hX.below).below h.2).any
  ·exact ((((hbi x hx).below hb0).below hX.below).below h.2).any⟩))
 have NI := Lib.hid (fun (X W : World) (v' : Value) (h : RowsOwn 50 67 itV X (a.items ++ b.items) v' W) => show Its W AnyB v' (Know.union a b).items from (⟨(h.rows (fun x hx => by rcases List.mem_append.1 hx with hx | hx; exact it_len (hai2.2 x hx); exact it_len (hbi2.2 x hx))).mono (fun _ _ => trivial), fun x hx => by
  rcases List.mem_append.1 hx with hx | hx
  ·exact hai2.2 x hx
  ·exact hbi2.2 x hx⟩))
 have CA := Lib.hid (fun (W : World) (x y : Value) (hf : Frs W AnyB x (Know.union a b).frags) (hi : Its W AnyB y (Know.union a b).items) => know_canon V I C Z (⟨x, y, rfl, hf, hi⟩ : Kns W AnyB (.agg #[x, y]) (Know.union a b)) hk)
 have HB0 := Lib.hid hb0
 clear har hai hai2 hbr hbi hbi2 hk hb0 r0 r1 r2 hax hbx hlf hli
 go_enter Tryz.func22, Tryz.ntmps22
 go_wp2_with fail
 rw [← hW0]
 clear hW0
 refine wp_region_tail (n := 14) (S := (fun w' : World => InB W0 w')) (by kernel_rfl) (by kernel_rfl) (by rfl) ((InB.refl W0).drew) (fun hHeld => ?_)
 generalize W0.drew = wd at *
 refine wpAnyH_td (i := 0) rfl ?_
 simp only [Act.put, z1, z2, z3, z4, z5, z6]
 refine wpAnyH_tk (i := 1) (v := ?_) rfl (Or.inl ⟨by rfl, (by intro w hSw; obtain ⟨c0, c1, c2, c3⟩ := XC.out _ hSw; go_simp; try with_reducible rfl)⟩) (by assumption) ?_
 simp only [Act.put, z1, z2, z3, z4, z5, z6]
 refine wpAnyH_td (i := 2) rfl ?_
 simp only [Act.put, z1, z2, z3, z4, z5, z6]
 refine wpAnyH_tk (i := 3) (v := ?_) rfl (Or.inl ⟨by rfl, (by intro w hSw; obtain ⟨c0, c1, c2, c3⟩ := XC.out _ hSw; go_simp; try with_reducible rfl)⟩) (by assumption) ?_
 simp only [Act.put, z1, z2, z3, z4, z5, z6]
 refine wpAnyH_td (i := 6) rfl ?_
 simp only [Act.put, z1, z2, z3, z4, z5, z6]
 refine wpAnyH_tk (i := 7) (v := ?_) rfl (Or.inl ⟨by rfl, (by intro w hSw; obtain ⟨c0, c1, c2, c3⟩ := XC.out _ hSw; go_simp; try with_reducible rfl)⟩) (by assumption) ?_
 simp only [Act.put, z1, z2, z3, z4, z5, z6]
 refine wpAnyH_td (i := 8) rfl ?_
 simp only [Act.put, z1, z2, z3, z4, z5, z6]
 refine wpAnyH_tk (i := 9) (v := ?_) rfl (Or.inl ⟨by rfl, (by intro w hSw; obtain ⟨c0, c1, c2, c3⟩ := XC.out _ hSw; go_simp; try with_reducible rfl)⟩) (by assumption) ?_
 simp only [Act.put, z1, z2, z3, z4, z5, z6]
 refine wpAnyH_ready (rs := [4, 10]) (by kernel_rfl) (by simp) ?_
 refine (AllReadyH.cons rfl (fun K hK => ?_) (AllReadyH.cons rfl (fun K hK => ?_) AllReadyH.nil))
 ·go_simp
  have hb : Below wd.heap.size wd (wd.alloc (.cells #[.slice A ra.length ca, .slice D rb.length cd] 22)) := (Below.refl _ _).alloc (Nat.le_refl _) _
  have hL := InB.trans hHeld hb
  have B4 := Lib.hid (Row.made wd 22 #[.slice A ra.length ca, .slice D rb.length cd])
  refine hK.out _ _ hL (fun hHeld => ?_)
  clear hL hb
  generalize wd.alloc (.cells #[.slice A ra.length ca, .slice D rb.length cd] 22) = w104 at *
  clear hK K
  refine wpAnyH_ready (rs := [5, 10]) (by kernel_rfl) (by simp) ?_
  refine (AllReadyH.cons rfl (fun K hK => ?_) (AllReadyH.cons rfl (fun K hK => ?_) AllReadyH.nil))
  ·go_simp
   go_at_call 57
   refine (CF.out _ hHeld _ B4.out).mono ?_
   rintro e w105 ⟨v5, rfl, h⟩
   have hL := InB.trans hHeld h.2
   have hb := h.2
   have B4 := Lib.hid (B4.out.below hb B4.out.inHeap)
   have N5 := Lib.hid (NF.out _ _ _ hHeld h)
   obtain ⟨A5, c5, e5, -⟩ := N5.out.parts
   generalize (Know.union a b).frags.length = m5 at e5
   subst e5
   refine hK.out _ _ hL (fun hHeld => ?_)
   clear h hL hb
   clear hK K
   refine wpAnyH_ready (rs := [10]) (by kernel_rfl) (by simp) ?_
   refine (AllReadyH.cons rfl (fun K hK => ?_) AllReadyH.nil)
   go_simp
   have hb : Below w105.heap.size w105 (w105.alloc (.cells #[.slice B a.items.length cb, .slice E b.items.length ce] 23)) := (Below.refl _ _).alloc (Nat.le_refl _) _
   have hL := InB.trans hHeld hb
   have B4 := Lib.hid (B4.out.below hb B4.out.inHeap)
   have N5 := Lib.hid (N5.out.below hb)
   have B10 := Lib.hid (Row.made w105 23 #[.slice B a.items.length cb, .slice E b.items.length ce])
   refine hK.out _ _ hL (fun hHeld => ?_)
   clear hL hb
   generalize w105.alloc (.cells #[.slice B a.items.length cb, .slice E b.items.length ce] 23) = w110 at *
   clear hK K
   refine wpAnyH_ready (rs := [11]) (by kernel_rfl) (by simp) ?_
   refine (AllReadyH.cons rfl (fun K hK => ?_) AllReadyH.nil)
   go_simp
   go_at_call 58
   refine (CI.out _ hHeld _ B10.out).mono ?_
   rintro e w111 ⟨v11, rfl, h⟩
   have hL := InB.trans hHeld h.2
   have hb := h.2
   have B4 := Lib.hid (B4.out.below hb B4.out.inHeap)
   have N5 := Lib.hid (N5.out.below hb)
   have B10 := Lib.hid (B10.out.below hb B10.out.inHeap)
   have N11 := Lib.hid (NI.out _ _ _ h)
   have n11 : Its w111 AnyB v11 (Know.union a b).items := N11.out
   obtain ⟨A11, c11, e5, -⟩ := Rws.parts n11.1
   clear n11
   generalize (Know.union a b).items.length = m11 at e5
   subst e5
   refine hK.out _ _ hL (fun hHeld => ?_)
   clear h hL hb
   clear hK K
   refine wpAnyH_td (i := 12) rfl ?_
   simp only [Act.put, z1, z2, z3, z4, z5, z6]
   refine wpAnyH_ready (rs := [13]) (by kernel_rfl) (by simp) ?_
   refine (AllReadyH.cons rfl (fun K hK => ?_) AllReadyH.nil)
   go_simp
   go_at_call 11
   refine (CA.out _ _ _ N5.out N11.out).mono ?_
   rintro e w113 ⟨v13, c, rfl, hc, hk5, b5⟩
   obtain ⟨A6, m6, e6, B6, n6, d6, rfl⟩ := hk5.parts
   have S5 := InB.trans hHeld b5
   have KE := kn_end (b := w.heap.size + 1 + 1) hk5 (R2.out w113 S5) (Nat.lt_of_lt_of_le HS2.out hHeld.below.size) (HB0.out.trans (S5.below.mono HB0.out.size)) (Nat.le_succ_of_le (Nat.le_succ _))
   have T9 := Lib.hid KE.1
   have R9 := Lib.hid KE.2.1
   have K9 := Lib.hid KE.2.2.1
   have B9 := Lib.hid KE.2.2.2
   have HC := Lib.hid hc
   refine hK.out _ _ S5 (fun hHeld => ?_)
   clear KE S5 b5 hk5 hc
   clear hK K
   refine wpAnyH_done (by kernel_rfl) ?_ _
   have hHeld1 := hHeld
   refine wpAny_of_held (S := fun _ => True) _ _ _ _ ?_
   have hHeld : True := trivial
   refine wpAnyH_ready (rs := [14]) (by kernel_rfl) (by simp) ?_
   refine AllReadyH.cons rfl (fun K hK => ?_) AllReadyH.nil
   refine step_mstore (.tmp 4) (.tmp 18) rfl (by rfl) (by rfl) (by rfl) T9.out (knSize _ _) (two_one rfl rfl) ?_
   refine hK.out _ _ trivial (fun hHeld => ?_)
   clear hK K
   refine wpAnyH_done (by kernel_rfl) ?_ _
   go_wp2_with fail
   exact bodyPost_ret (v := .agg #[.slice A6 m6 e6, .slice B6 n6 d6]) (results_cell_row (by rfl) _ _ (w.heap.size + 1 + 1) 25 _ (0, 0) _ (by rfl) R9.out Tryz.underlying25 rfl (knSizeA _ _)) rfl ⟨_, _, rfl, HC.out, K9.out, B9.out⟩
  ·go_simp
   have hb : Below w104.heap.size w104 (w104.alloc (.cells #[.slice B a.items.length cb, .slice E b.items.length ce] 23)) := (Below.refl _ _).alloc (Nat.le_refl _) _
   have hL := InB.trans hHeld hb
   have B4 := Lib.hid (B4.out.below hb B4.out.inHeap)
   have B10 := Lib.hid (Row.made w104 23 #[.slice B a.items.length cb, .slice E b.items.length ce])
   refine hK.out _ _ hL (fun hHeld => ?_)
   clear hL hb
   generalize w104.alloc (.cells #[.slice B a.items.length cb, .slice E b.items.length ce] 23) = w110 at *
   clear hK K
   refine wpAnyH_ready (rs := [5]) (by kernel_rfl) (by simp) ?_
   refine (AllReadyH.cons rfl (fun K hK => ?_) AllReadyH.nil)
   go_simp
   go_at_call 57
   refine (CF.out _ hHeld _ B4.out).mono ?_
   rintro e w105 ⟨v5, rfl, h⟩
   have hL := InB.trans hHeld h.2
   have hb := h.2
   have B4 := Lib.hid (B4.out.below hb B4.out.inHeap)
   have B10 := Lib.hid (B10.out.below hb B10.out.inHeap)
   have N5 := Lib.hid (NF.out _ _ _ hHeld h)
   obtain ⟨A5, c5, e5, -⟩ := N5.out.parts
   generalize (Know.union a b).frags.length = m5 at e5
   subst e5
   refine hK.out _ _ hL (fun hHeld => ?_)
   clear h hL hb
   clear hK K
   refine wpAnyH_ready (rs := [11]) (by kernel_rfl) (by simp) ?_
   refine (AllReadyH.cons rfl (fun K hK => ?_) AllReadyH.nil)
   go_simp
   go_at_call 58
   refine (CI.out _ hHeld _ B10.out).mono ?_
   rintro e w111 ⟨v11, rfl, h⟩
   have hL := InB.trans hHeld h.2
   have hb := h.2
   have B4 := Lib.hid (B4.out.below hb B4.out.inHeap)
   have B10 := Lib.hid (B10.out.below hb B10.out.inHeap)
   have N5 := Lib.hid (N5.out.below hb)
   have N11 := Lib.hid (NI.out _ _ _ h)
   have n11 : Its w111 AnyB v11 (Know.union a b).items := N11.out
   obtain ⟨A11, c11, e5, -⟩ := Rws.parts n11.1
   clear n11
   generalize (Know.union a b).items.length = m11 at e5
   subst e5
   refine hK.out _ _ hL (fun hHeld => ?_)
   clear h hL hb
   clear hK K
   refine wpAnyH_td (i := 12) rfl ?_
   simp only [Act.put, z1, z2, z3, z4, z5, z6]
   refine wpAnyH_ready (rs := [13]) (by kernel_rfl) (by simp) ?_
   refine (AllReadyH.cons rfl (fun K hK => ?_) AllReadyH.nil)
   go_simp
   go_at_call 11
   refine (CA.out _ _ _ N5.out N11.out).mono ?_
   rintro e w113 ⟨v13, c, rfl, hc, hk5, b5⟩
   obtain ⟨A6, m6, e6, B6, n6, d6, rfl⟩ := hk5.parts
   have S5 := InB.trans hHeld b5
   have KE := kn_end (b := w.heap.size + 1 + 1) hk5 (R2.out w113 S5) (Nat.lt_of_lt_of_le HS2.out hHeld.below.size) (HB0.out.trans (S5.below.mono HB0.out.size)) (Nat.le_succ_of_le (Nat.le_succ _))
   have T9 := Lib.hid KE.1
   have R9 := Lib.hid KE.2.1
   have K9 := Lib.hid KE.2.2.1
   have B9 := Lib.hid KE.2.2.2
   have HC := Lib.hid hc
   refine hK.out _ _ S5 (fun hHeld => ?_)
   clear KE S5 b5 hk5 hc
   clear hK K
   refine wpAnyH_done (by kernel_rfl) ?_ _
   have hHeld1 := hHeld
   refine wpAny_of_held (S := fun _ => True) _ _ _ _ ?_
   have hHeld : True := trivial
   refine wpAnyH_ready (rs := [14]) (by kernel_rfl) (by simp) ?_
   refine AllReadyH.cons rfl (fun K hK => ?_) AllReadyH.nil
   refine step_mstore (.tmp 4) (.tmp 18) rfl (by rfl) (by rfl) (by rfl) T9.out (knSize _ _) (two_one rfl rfl) ?_
   refine hK.out _ _ trivial (fun hHeld => ?_)
   clear hK K
   refine wpAnyH_done (by kernel_rfl) ?_ _
   go_wp2_with fail
   exact bodyPost_ret (v := .agg #[.slice A6 m6 e6, .slice B6 n6 d6]) (results_cell_row (by rfl) _ _ (w.heap.size + 1 + 1) 25 _ (0, 0) _ (by rfl) R9.out Tryz.underlying25 rfl (knSizeA _ _)) rfl ⟨_, _, rfl, HC.out, K9.out, B9.out⟩
 ·go_simp
  have hb : Below wd.heap.size wd (wd.alloc (.cells #[.slice B a.items.length cb, .slice E b.items.length ce] 23)) := (Below.refl _ _).alloc (Nat.le_refl _) _
  have hL := InB.trans hHeld hb
  have B10 := Lib.hid (Row.made wd 23 #[.slice B a.items.length cb, .slice E b.items.length ce])
  refine hK.out _ _ hL (fun hHeld => ?_)
  clear hL hb
  generalize wd.alloc (.cells #[.slice B a.items.length cb, .slice E b.items.length ce] 23) = w110 at *
  clear hK K
  refine wpAnyH_ready (rs := [4]) (by kernel_rfl) (by simp) ?_
  refine (AllReadyH.cons rfl (fun K hK => ?_) AllReadyH.nil)
  go_simp
  have hb : Below w110.heap.size w110 (w110.alloc (.cells #[.slice A ra.length ca, .slice D rb.length cd] 22)) := (Below.refl _ _).alloc (Nat.le_refl _) _
  have hL := InB.trans hHeld hb
  have B10 := Lib.hid (B10.out.below hb B10.out.inHeap)
  have B4 := Lib.hid (Row.made w110 22 #[.slice A ra.length ca, .slice D rb.length cd])
  refine hK.out _ _ hL (fun hHeld => ?_)
  clear hL hb
  generalize w110.alloc (.cells #[.slice A ra.length ca, .slice D rb.length cd] 22) = w104 at *
  clear hK K
  refine wpAnyH_ready (rs := [5]) (by kernel_rfl) (by simp) ?_
  refine (AllReadyH.cons rfl (fun K hK => ?_) AllReadyH.nil)
  go_simp
  go_at_call 57
  refine (CF.out _ hHeld _ B4.out).mono ?_
  rintro e w105 ⟨v5, rfl, h⟩
  have hL := InB.trans hHeld h.2
  have hb := h.2
  have B10 := Lib.hid (B10.out.below hb B10.out.inHeap)
  have B4 := Lib.hid (B4.out.below hb B4.out.inHeap)
  have N5 := Lib.hid (NF.out _ _ _ hHeld h)
  obtain ⟨A5, c5, e5, -⟩ := N5.out.parts
  generalize (Know.union a b).frags.length = m5 at e5
  subst e5
  refine hK.out _ _ hL (fun hHeld => ?_)
  clear h hL hb
  clear hK K
  refine wpAnyH_ready (rs := [11]) (by kernel_rfl) (by simp) ?_
  refine (AllReadyH.cons rfl (fun K hK => ?_) AllReadyH.nil)
  go_simp
  go_at_call 58
  refine (CI.out _ hHeld _ B10.out).mono ?_
  rintro e w111 ⟨v11, rfl, h⟩
  have hL := InB.trans hHeld h.2
  have hb := h.2
  have B10 := Lib.hid (B10.out.below hb B10.out.inHeap)
  have B4 := Lib.hid (B4.out.below hb B4.out.inHeap)
  have N5 := Lib.hid (N5.out.below hb)
  have N11 := Lib.hid (NI.out _ _ _ h)
  have n11 : Its w111 AnyB v11 (Know.union a b).items := N11.out
  obtain ⟨A11, c11, e5, -⟩ := Rws.parts n11.1
  clear n11
  generalize (Know.union a b).items.length = m11 at e5
  subst e5
  refine hK.out _ _ hL (fun hHeld => ?_)
  clear h hL hb
  clear hK K
  refine wpAnyH_td (i := 12) rfl ?_
  simp only [Act.put, z1, z2, z3, z4, z5, z6]
  refine wpAnyH_ready (rs := [13]) (by kernel_rfl) (by simp) ?_
  refine (AllReadyH.cons rfl (fun K hK => ?_) AllReadyH.nil)
  go_simp
  go_at_call 11
  refine (CA.out _ _ _ N5.out N11.out).mono ?_
  rintro e w113 ⟨v13, c, rfl, hc, hk5, b5⟩
  obtain ⟨A6, m6, e6, B6, n6, d6, rfl⟩ := hk5.parts
  have S5 := InB.trans hHeld b5
  have KE := kn_end (b := w.heap.size + 1 + 1) hk5 (R2.out w113 S5) (Nat.lt_of_lt_of_le HS2.out hHeld.below.size) (HB0.out.trans (S5.below.mono HB0.out.size)) (Nat.le_succ_of_le (Nat.le_succ _))
  have T9 := Lib.hid KE.1
  have R9 := Lib.hid KE.2.1
  have K9 := Lib.hid KE.2.2.1
  have B9 := Lib.hid KE.2.2.2
  have HC := Lib.hid hc
  refine hK.out _ _ S5 (fun hHeld => ?_)
  clear KE S5 b5 hk5 hc
  clear hK K
  refine wpAnyH_done (by kernel_rfl) ?_ _
  have hHeld1 := hHeld
  refine wpAny_of_held (S := fun _ => True) _ _ _ _ ?_
  have hHeld : True := trivial
  refine wpAnyH_ready (rs := [14]) (by kernel_rfl) (by simp) ?_
  refine AllReadyH.cons rfl (fun K hK => ?_) AllReadyH.nil
  refine step_mstore (.tmp 4) (.tmp 18) rfl (by rfl) (by rfl) (by rfl) T9.out (knSize _ _) (two_one rfl rfl) ?_
  refine hK.out _ _ trivial (fun hHeld => ?_)
  clear hK K
  refine wpAnyH_done (by kernel_rfl) ?_ _
  go_wp2_with fail
  exact bodyPost_ret (v := .agg #[.slice A6 m6 e6, .slice B6 n6 d6]) (results_cell_row (by rfl) _ _ (w.heap.size + 1 + 1) 25 _ (0, 0) _ (by rfl) R9.out Tryz.underlying25 rfl (knSizeA _ _)) rfl ⟨_, _, rfl, HC.out, K9.out, B9.out⟩
end Go.Proofs.YtpmolinmopgbdaaGreat
namespace Go.Proofs.YtpmolinmopgbdaaGreat
open List renaming getElem_toArray → z1, getElem_cons_zero → z2, getElem_cons_succ → z3, setIfInBounds_toArray → z4, set_cons_zero → z5, set_cons_succ → z6
open Go.RowKit Go.Sort
theorem step_build1 {ops : Array Oper} {o' : Oper} {a : Act} {w : World} {K : Act → World → Prop} {Q : Exit → Act → World → Prop} {E : Prop} (hgd : o'.guard = none) (t e : TypeId) (x : Operand) (ho : o'.op = .buildSlice t 1 #[(0, x)]) {cs : List Value} {i : TypeInfo} {z : Value} (hx : a.eval x = .agg cs.toArray)
  (hu : Tryz.prog.underlying t = some (.slice e)) (hi : Tryz.prog.info? e = some i) (hz : i.zero = some z) (h67 : i.size = 67) (hl : cs.length = 67)
  (k : K (a.put o'.dst (.slice (some ⟨w.heap.size, 0, none⟩) 1 1)) (w.alloc (.cells cs.toArray e))) : if Region.wanted o' (yielded ops a.tmps) = true then Oper.wp Tryz.prog o' a w K Q else E := by
 rw [if_pos (by simp [Region.wanted, hgd])]
 refine wp_buildSlice t e 1 #[(0, x)] ho cs.toArray i z hu hi hz (by rw [h67]; decide) (by rw [h67]; decide) ?_ k
 have := Great.fill_whole (s := 67) (by decide) [.agg cs.toArray] ((Array.range (1 * i.size)).map (z.cells[· % z.cells.size]!)) (fun v hv => by rw [List.mem_singleton.1 hv]; show cs.toArray.size = 67; rw [List.size_toArray, hl]) (by rw [h67]; simp)
 rw [h67] at this ⊢
 simpa [hx, Value.cells] using this
theorem ver_made1 (w : World) (t : TypeId) (r : Ver.V) : Vrs (w.alloc (.cells (verV r).toArray t)) AnyB (.slice (some ⟨w.heap.size, 0, none⟩) 1 1) [r] := by
 refine ⟨_, 1, rfl, Nat.le_refl _, fun _ => ⟨w.heap.size, 0, rfl, trivial, by simp, fun i x hx j u hu => ?_⟩⟩
 have hi : i = 0 := by obtain ⟨h, _⟩ := List.getElem?_eq_some_iff.1 hx; simpa using h
 subst hi
 have e : x = r := by simpa using hx.symm
 subst e
 have := range_row (Row.made w t (verV x).toArray) j u hu
 rw [Nat.zero_add] at this
 simpa using this
theorem know_add (V : VecOk) (I : IsetOk) (C : CoverOk) (Z : FilterOk) {w : World} {F : Nat → Prop} {v : Value} {k : Know.K} (item x : Ver.V) (h : Kns w F v k) (hk : Know.Ok (Know.union k ⟨[], [⟨item, Vec.ofl [x]⟩]⟩)) (hx : Ver.Bd x) :
  Calls Tryz.prog 18 #[v, verA item, verA x] w fun e w' => ∃ v' c, e = .returned v' ∧ Know.Canon (Know.union k ⟨[], [⟨item, Vec.ofl [x]⟩]⟩) c ∧ KnNew w v' c w' ∧ Below w.heap.size w w' := by
 have hz := knZero
 obtain ⟨i1, hi1, hy0, hy1, hy2⟩ := ver_parts itInfo
 obtain ⟨a1, a2, rfl, hf, hi⟩ := h
 obtain ⟨A, ca, rfl, -⟩ := hf.parts
 obtain ⟨B, cb, rfl, -⟩ := hi.1.parts
 obtain ⟨x1, x2⟩ := x
 obtain ⟨y1, y2⟩ := item
 obtain ⟨W0, hW0⟩ : ∃ W0, W0 = (((w.alloc (.cells #[.slice A k.frags.length ca, .slice B k.items.length cb] 25)).alloc (.cells #[.int .i64 y1, .int .i64 y2] 27)).alloc (.cells #[.int .i64 x1, .int .i64 x2] 27)).alloc (.cells #[.slice none 0 0, .slice none 0 0] 25) := ⟨_, rfl⟩
 have hb0 : Below w.heap.size w W0 := by rw [hW0]; exact ((((Below.refl _ _).alloc (Nat.le_refl _) _).alloc (by simp) _).alloc (by simp; omega) _).alloc (by simp; omega) _
 have r0 : Row W0 w.heap.size 25 #[.slice A k.frags.length ca, .slice B k.items.length cb] := by rw [hW0]; exact (((Row.made w _ _).behindNew _).behindNew _).behindNew _
 have r1 : Row W0 (w.heap.size + 1) 27 #[.int .i64 y1, .int .i64 y2] := by
  rw [hW0]
  have := ((Row.made (w.alloc (.cells #[.slice A k.frags.length ca, .slice B k.items.length cb] 25)) 27 #[.int .i64 y1, .int .i64 y2]).behindNew (.cells #[.int .i64 x1, .int .i64 x2] 27)).behindNew (.cells #[.slice none 0 0, .slice none 0 0] 25)
  rwa [World.size_alloc] at this
 have r3 : Row W0 (w.heap.size + 1 + 1) 27 #[.int .i64 x1, .int .i64 x2] := by
  rw [hW0]
  have := (Row.made ((w.alloc (.cells #[.slice A k.frags.length ca, .slice B k.items.length cb] 25)).alloc (.cells #[.int .i64 y1, .int .i64 y2] 27)) 27 #[.int .i64 x1, .int .i64 x2]).behindNew (.cells #[.slice none 0 0, .slice none 0 0] 25)
  rwa [World.size_alloc, World.size_alloc] at this
 have r2 : Row W0 (w.heap.size + 1 + 1 + 1) 25 #[.slice none 0 0, .slice none 0 0] := by
  rw [hW0]
  have := Row.made (((w.alloc (.cells #[.slice A k.frags.length ca, .slice B k.items.length cb] 25)).alloc (.cells #[.int .i64 y1, .int .i64 y2] 27)).alloc (.cells #[.int .i64 x1, .int .i64 x2] 27)) 25 #[.slice none 0 0, .slice none 0 0]
  rwa [World.size_alloc, World.size_alloc, World.size_alloc] at this
 have XC := Lib.hid (fun (W : World) (h : InB W0 W) => (⟨(r0.below h.below r0.inHeap).at 0, (r0.below h.below r0.inHeap).at 1, (r1.below h.below r1.inHeap).at 0, (r1.below h.below r1.inHeap).at 1, (r3.below h.below r3.inHeap).at 0, (r3.below h.below r3.inHeap).at 1⟩ : W.cell? ⟨w.heap.size, 0, none⟩ = some (.slice A k.frags.length ca) ∧ W.cell? ⟨w.heap.size, 1, none⟩ = some (.slice B k.items.length cb) ∧ W.cell? ⟨w.heap.size + 1, 0, none⟩ = some (.int .i64 y1) ∧ W.cell? ⟨w.heap.size + 1, 1, none⟩ = some (.int .i64 y2) ∧ W.cell? ⟨w.heap.size + 1 + 1, 0, none⟩ = some (.int .i64 x1) ∧ W.cell? ⟨w.heap.size + 1 + 1, 1, none⟩ = some (.int .i64 x2)))
 have R2 := Lib.hid (fun (W : World) (h : InB W0 W) => (r2.below h.below r2.inHeap : Row W (w.heap.size + 1 + 1 + 1) 25 #[.slice none 0 0, .slice none 0 0]))
 have HS2 := Lib.hid r2.inHeap
 have OF := Lib.hid (fun (W : World) (s : Value) (h : Vrs W AnyB s [⟨x1, x2⟩]) => V.ofl h (by show 1 ≤ 1000000; decide) (fun y hy => by rw [List.mem_singleton.1 hy]; exact hx))
 have H65 : Hid ((Vec.ofl [(⟨x1, x2⟩ : Ver.V)]).length = 65) := Lib.hid (Vec.ofl_plain _).1
 have UN := Lib.hid (fun (W : World) (s : Value) (h : InB W0 W) (hs : Its W AnyB s [⟨⟨y1, y2⟩, Vec.ofl [⟨x1, x2⟩]⟩]) => know_union V I C Z (a := k) (b := ⟨[], [⟨⟨y1, y2⟩, Vec.ofl [⟨x1, x2⟩]⟩]⟩) (w := W) (F := AnyB) (G := AnyB) (v := .agg #[.slice A k.frags.length ca, .slice B k.items.length cb]) (u := .agg #[.slice none 0 0, s])
  ⟨_, _, rfl, ((hf.below hb0).below h.below).any, ((hi.below hb0).below h.below).any⟩ ⟨_, _, rfl, Frs.empty _ _ _ _, hs⟩ hk)
 have HB0 := Lib.hid hb0
 clear hf hi hk hx hb0 r0 r1 r2 r3
 generalize hU : Vec.ofl [(⟨x1, x2⟩ : Ver.V)] = uv at *
 clear hU
 go_enter Tryz.func18, Tryz.ntmps18
 go_wp2_with fail
 rw [← hW0]
 clear hW0
 refine wp_region_tail (n := 9) (S := (fun w' : World => InB W0 w')) (by kernel_rfl) (by kernel_rfl) (by rfl) ((InB.refl W0).drew) (fun hHeld => ?_)
 refine wpAnyH_tk (i := 0) (v := ?_) rfl (Or.inl ⟨by rfl, (by intro w hSw; obtain ⟨c0, c1, c2, c3, c4, c5⟩ := XC.out _ hSw; go_simp; try with_reducible rfl)⟩) (by assumption) ?_
 simp only [Act.put, z1, z2, z3, z4, z5, z6]
 refine wpAnyH_tk (i := 1) (v := ?_) rfl (Or.inl ⟨by rfl, (by intro w hSw; obtain ⟨c0, c1, c2, c3, c4, c5⟩ := XC.out _ hSw; go_simp; try with_reducible rfl)⟩) (by assumption) ?_
 simp only [Act.put, z1, z2, z3, z4, z5, z6]
 refine wpAnyH_tk (i := 2) (v := ?_) rfl (Or.inl ⟨by rfl, (by intro w hSw; obtain ⟨c0, c1, c2, c3, c4, c5⟩ := XC.out _ hSw; go_simp; try with_reducible rfl)⟩) (by assumption) ?_
 simp only [Act.put, z1, z2, z3, z4, z5, z6]
 refine wpAnyH_ready (rs := [3]) (by kernel_rfl) (by simp) ?_
 refine AllReadyH.cons rfl (fun K hK => ?_) AllReadyH.nil
 go_simp
 have hb : Below W0.drew.heap.size W0.drew (W0.drew.alloc (.cells #[.int .i64 x1, .int .i64 x2] 27)) := (Below.refl _ _).alloc (Nat.le_refl _) _
 have hL := InB.trans hHeld hb
 have V3 := Lib.hid (ver_made1 W0.drew 27 ⟨x1, x2⟩)
 have OF3 := Lib.hid (OF.out _ _ V3.out)
 refine hK.out _ _ hL (fun hHeld => ?_)
 clear hL hb V3
 clear hK K
 refine wpAnyH_ready (rs := [4]) (by kernel_rfl) (by simp) ?_
 refine AllReadyH.cons rfl (fun K hK => ?_) AllReadyH.nil
 go_simp
 go_at_call 36
 refine (OF3.out).mono ?_
 rintro e w104 ⟨rfl, h4⟩
 have hL := InB.trans hHeld h4.below
 refine hK.out _ _ hL (fun hHeld => ?_)
 clear hL h4 OF3
 clear hK K
 refine wpAnyH_tk (i := 5) (v := .agg (itV ⟨⟨y1, y2⟩, uv⟩).toArray) rfl (Or.inl ⟨by rfl, (by intro w hSw; exact exec_itbuild rfl (by rfl) (by rfl) H65.out w)⟩) (by assumption) ?_
 simp only [Act.put, z1, z2, z3, z4, z5, z6]
 refine wpAnyH_ready (rs := [6]) (by kernel_rfl) (by simp) ?_
 refine AllReadyH.cons rfl (fun K hK => ?_) AllReadyH.nil
 refine step_build1 rfl 23 50 _ rfl (by rfl) Tryz.underlying23 hi1 hy0 hy1 (it_len (i := ⟨⟨y1, y2⟩, uv⟩) H65.out) ?_
 have hb : Below w104.heap.size w104 (w104.alloc (.cells (itV ⟨⟨y1, y2⟩, uv⟩).toArray 50)) := (Below.refl _ _).alloc (Nat.le_refl _) _
 have hL := InB.trans hHeld hb
 have UN6 := Lib.hid (UN.out _ _ hL ⟨(it_made1 w104 50 ⟨⟨y1, y2⟩, uv⟩).mono (fun _ _ => trivial), fun i hi => by rw [List.mem_singleton.1 hi]; exact H65.out⟩)
 refine hK.out _ _ hL (fun hHeld => ?_)
 clear hL hb
 clear hK K
 refine wpAnyH_td (i := 7) rfl ?_
 simp only [Act.put, z1, z2, z3, z4, z5, z6]
 refine wpAnyH_ready (rs := [8]) (by kernel_rfl) (by simp) ?_
 refine AllReadyH.cons rfl (fun K hK => ?_) AllReadyH.nil
 go_simp
 go_at_call 22
 refine (UN6.out).mono ?_
 rintro e w108 ⟨v8, c, rfl, hc, hk5, b5⟩
 obtain ⟨A6, m6, e6, B6, n6, d6, rfl⟩ := hk5.parts
 have S5 := InB.trans hHeld b5
 have KE := kn_end (b := w.heap.size + 1 + 1 + 1) hk5 (R2.out w108 S5) (Nat.lt_of_lt_of_le HS2.out hHeld.below.size) (HB0.out.trans (S5.below.mono HB0.out.size)) (Nat.le_succ_of_le (Nat.le_succ_of_le (Nat.le_succ _)))
 have T9 := Lib.hid KE.1
 have R9 := Lib.hid KE.2.1
 have K9 := Lib.hid KE.2.2.1
 have B9 := Lib.hid KE.2.2.2
 have HC := Lib.hid hc
 refine hK.out _ _ S5 (fun hHeld => ?_)
 clear KE S5 b5 hk5 hc
 clear hK K
 refine wpAnyH_done (by kernel_rfl) ?_ _
 refine wpAny_of_held (S := fun _ => True) _ _ _ _ ?_
 have hHeld : True := trivial
 refine wpAnyH_ready (rs := [9]) (by kernel_rfl) (by simp) ?_
 refine AllReadyH.cons rfl (fun K hK => ?_) AllReadyH.nil
 refine step_mstore (.tmp 6) (.tmp 15) rfl (by rfl) (by rfl) (by rfl) T9.out (knSize _ _) (two_one rfl rfl) ?_
 refine hK.out _ _ trivial (fun hHeld => ?_)
 clear hK K
 refine wpAnyH_done (by kernel_rfl) ?_ _
 go_wp2_with fail
 exact bodyPost_ret (v := .agg #[.slice A6 m6 e6, .slice B6 n6 d6]) (results_cell_row (by rfl) _ _ (w.heap.size + 1 + 1 + 1) 25 _ (0, 0) _ (by rfl) R9.out Tryz.underlying25 rfl (knSizeA _ _)) rfl ⟨_, _, rfl, HC.out, K9.out, B9.out⟩
end Go.Proofs.YtpmolinmopgbdaaGreat
namespace Go.Proofs.YtpmolinmopgbdaaGreat
open Go.RowKit
def Flt.light (f : List Flt.Cl) : Prop := (∀ c ∈ f, c.pre.length ≤ 100) ∧ f.length ≤ 24
instance (f : List Flt.Cl) : Decidable (Flt.light f) := inferInstanceAs (Decidable (_ ∧ _))
def Flt.sane (f : List Flt.Cl) : List Flt.Cl := f.filter fun c => decide (Flt.Right c)
theorem light_any {w : World} {F : Nat → Prop} {v : Value} {f : List Flt.Cl} (h : Cls w F v f) (hl : f.length ≤ 9223372036854775807) (hs : ∀ c ∈ f, c.pre.length ≤ 9223372036854775807) :
  Calls Tryz.prog 27 #[v] w fun e w' => e = .returned (.bool (decide (Flt.light f))) ∧ Below w.heap.size w w' := by
 obtain ⟨A, cap, rfl, hcap⟩ := h.parts
 have H := Lib.hid h
 have HS := Lib.hid hs
 have hl' : (f.length : Int) ≤ 9223372036854775807 := by omega
 clear h hs
 go_enter Tryz.func27, Tryz.ntmps27
 go_wp2_with fail
 go_loopw [3] (fun i wr => ∃ n : Nat, n ≤ f.length ∧ i = .int .i64 (n : Int) ∧ Hid (∀ c ∈ f.take n, c.pre.length ≤ 100) ∧ Below w.heap.size w wr) (fun i _ => f.length - (intOf i).toNat)
 case atStart => exact ⟨0, Nat.zero_le _, rfl, Lib.hid (by simp), Below.refl _ _⟩
 case round =>
  obtain ⟨n, hn, rfl, hall, hbel⟩ := hrel
  by_cases hlt : n < f.length
  ·obtain ⟨b, o, cap', e, -, -, hb⟩ := H.out.block (by omega)
   injection e with e1 e2 e3
   subst e1 e3
   clear e2
   obtain ⟨x, hx⟩ : ∃ x, f[n]? = some x := ⟨_, List.getElem?_eq_getElem hlt⟩
   have hpx := HS.out x (List.mem_of_getElem? hx)
   have hn0 : (0 : Int) ≤ (n : Int) := by omega
   have hn1 : (n : Int) < (f.length : Int) := by omega
   obtain ⟨c0, c1, c2⟩ := Cls.at (H.out.below hbel) hx
   have lx := mk_len x.pre
   have Hbel := Lib.hid hbel
   clear hbel c1 c2
   by_cases hx1 : x.pre.length ≤ 100
   ·have hnext : Hid (∀ c ∈ f.take (n + 1), c.pre.length ≤ 100) := Lib.hid (by
     intro c hc
     obtain ⟨h1, e1⟩ := List.getElem?_eq_some_iff.1 hx
     rw [List.take_succ_eq_append_getElem h1, e1] at hc
     rcases List.mem_append.1 hc with hc | hc
     ·exact hall.out c hc
     ·rw [List.mem_singleton.1 hc]; exact hx1)
    have g1 : ¬ (100 : Int) < ((mk x.pre).size : Int) := by omega
    have g2 : ((mk x.pre).size : Int) ≤ 9223372036854775807 := by omega
    clear hx hall lx hx1 hpx
    generalize mk x.pre = xs at *
    go_wp2_with fail
    exact ⟨⟨n + 1, by omega, by go_num, hnext, Hbel.out⟩, by show f.length - ((n : Int) + 1).toNat < f.length - (n : Int).toNat; omega⟩
   ·have hno : Hid (decide (Flt.light f) = false) := Lib.hid (decide_eq_false (fun h => hx1 (h.1 x (List.mem_of_getElem? hx))))
    have g1 : (100 : Int) < ((mk x.pre).size : Int) := by omega
    have g2 : ((mk x.pre).size : Int) ≤ 9223372036854775807 := by omega
    clear hx hall lx hx1 hpx
    generalize mk x.pre = xs at *
    go_wp2_with fail
    go_ret
    exact ⟨by rw [hno.out]; rfl, Hbel.out⟩
  ·obtain rfl : n = f.length := by omega
   have Hbel := Lib.hid hbel
   clear hbel
   by_cases h24 : f.length ≤ 24
   ·have hyes : Hid (decide (Flt.light f) = true) := Lib.hid (decide_eq_true ⟨by have := hall.out; rwa [List.take_length] at this, h24⟩)
    have g1 : decide ((f.length : Int) ≤ 24) = true := decide_eq_true (by omega)
    clear hall
    go_wp2_with fail
    go_ret
    exact ⟨by rw [hyes.out]; rfl, Hbel.out⟩
   ·have hno : Hid (decide (Flt.light f) = false) := Lib.hid (decide_eq_false (fun h => h24 h.2))
    have g1 : decide ((f.length : Int) ≤ 24) = false := decide_eq_false (by omega)
    clear hall
    go_wp2_with fail
    go_ret
    exact ⟨by rw [hno.out]; rfl, Hbel.out⟩
theorem Flt.sane_take {f : List Flt.Cl} {n : Nat} {c : Flt.Cl} (hc : f[n]? = some c) : Flt.sane (f.take (n + 1)) = Flt.sane (f.take n) ++ if decide (Flt.Right c) = true then [c] else [] := by
 obtain ⟨hl, he⟩ := List.getElem?_eq_some_iff.1 hc
 rw [List.take_succ_eq_append_getElem hl, he]
 unfold Flt.sane
 rw [List.filter_append]
 congr 1
 by_cases h : Flt.Right c <;> simp [h]
theorem Flt.sane_right (f : List Flt.Cl) : ∀ c ∈ Flt.sane f, Flt.Right c := fun c hc => of_decide_eq_true (List.mem_filter.1 hc).2
theorem Flt.sane_len (f : List Flt.Cl) : (Flt.sane f).length ≤ f.length := List.length_filter_le _ _
theorem sane_any {w : World} {F : Nat → Prop} {v : Value} {f : List Flt.Cl} (h : Cls w F v f) (hl : f.length ≤ 100000) (hs : ∀ c ∈ f, c.pre.length ≤ 100000) :
  Calls Tryz.prog 28 #[v] w fun e w' => ∃ v', e = .returned v' ∧ RowsOwn 93 3 clV w (Flt.sane f) v' w' := by
 obtain ⟨A, cap, rfl, hcap⟩ := h.parts
 obtain ⟨i0, hi0, hz0, hz1, hz2⟩ := info_parts clauseInfo
 have H := Lib.hid h
 have HS := Lib.hid hs
 have hl' : (f.length : Int) ≤ 100000 := by omega
 have HL : Hid (f.length ≤ 100000) := Lib.hid hl
 clear h hs
 go_enter Tryz.func28, Tryz.ntmps28
 go_wp2_with fail
 go_loopw [3, 4] (fun out i wr => ∃ n : Nat, n ≤ f.length ∧ i = .int .i64 (n : Int) ∧ RowsOwn 93 3 clV w (Flt.sane (f.take n)) out wr) (fun _ i _ => f.length - (intOf i).toNat)
 case atStart => exact ⟨0, Nat.zero_le _, rfl, RowsOwn.start _ _ _ w⟩
 case round =>
  obtain ⟨n, hn, rfl, hown⟩ := hrel
  by_cases hlt : n < f.length
  ·obtain ⟨b, o, cap', e, -, -, hb⟩ := H.out.block (by omega)
   injection e with e1 e2 e3
   subst e1 e3
   clear e2
   obtain ⟨x, hx⟩ : ∃ x, f[n]? = some x := ⟨_, List.getElem?_eq_getElem hlt⟩
   have hpx := HS.out x (List.mem_of_getElem? hx)
   have hn0 : (0 : Int) ≤ (n : Int) := by omega
   have hn1 : (n : Int) < (f.length : Int) := by omega
   have CA : Hid (∀ W, Below w.heap.size w W → W.cell? ⟨b, o + n * 3, none⟩ = some (.string (mk x.pre)) ∧ W.cell? ⟨b, o + n * 3 + 1, none⟩ = some (.int .i64 x.lo) ∧ W.cell? ⟨b, o + n * 3 + 2, none⟩ = some (.int .i64 x.hi)) := Lib.hid (fun W hW => Cls.at (H.out.below hW) hx)
   obtain ⟨c0, c1, c2⟩ := CA.out wr hown.2
   have hst := Lib.hid (Flt.sane_take hx)
   have hlen : Hid ((Flt.sane (f.take n)).length ≤ n) := Lib.hid (Nat.le_trans (Flt.sane_len _) (by rw [List.length_take]; omega))
   have RI := Lib.hid (ref_fright x wr hpx)
   obtain ⟨xp, x1, x2⟩ := x
   simp only at c0 c1 c2 CA
   have Hown := Lib.hid hown
   clear hown hx
   cases hr : decide (Flt.Right ⟨xp, x1, x2⟩)
   ·have RI : Hid (Calls Tryz.prog 64 #[.agg #[.string (mk xp), .int .i64 x1, .int .i64 x2]] wr fun e w' => e = .returned (.bool false) ∧ Below wr.heap.size wr w') := Lib.hid (by rw [← hr]; exact RI.out)
    have hst' : Hid (Flt.sane (f.take (n + 1)) = Flt.sane (f.take n)) := Lib.hid (by rw [hst.out, hr, if_neg (by simp), List.append_nil])
    clear hst hr
    go_wp2_with fail
    refine (RI.out).mono ?_
    rintro e w1 ⟨rfl, hb1⟩
    have hnew := Lib.hid (Hown.out.below hb1)
    clear hb1
    go_wp2_with fail
    exact ⟨⟨n + 1, by omega, by go_num, by rw [hst'.out]; exact hnew.out⟩, by show f.length - ((n : Int) + 1).toNat < f.length - (n : Int).toNat; omega⟩
   ·have RI : Hid (Calls Tryz.prog 64 #[.agg #[.string (mk xp), .int .i64 x1, .int .i64 x2]] wr fun e w' => e = .returned (.bool true) ∧ Below wr.heap.size wr w') := Lib.hid (by rw [← hr]; exact RI.out)
    have hst' : Hid (Flt.sane (f.take (n + 1)) = Flt.sane (f.take n) ++ [⟨xp, x1, x2⟩]) := Lib.hid (by rw [hst.out, hr, if_pos rfl])
    have hlen3 := hlen.out
    clear hst hr
    generalize Flt.sane (f.take n) = out at *
    go_wp2_with fail
    refine (RI.out).mono ?_
    rintro e w1 ⟨rfl, hb1⟩
    have Hown2 := Lib.hid (Hown.out.below hb1)
    obtain ⟨d0, d1, d2⟩ := CA.out w1 Hown2.out.2
    clear hb1 c0 c1 c2
    have hown3 := Hown2.out.1.alloc (.cells #[.string (mk xp), .int .i64 x1, .int .i64 x2] 93)
    have hmade := cl_made w1 93 xp x1 x2
    have hsz3 : w.heap.size ≤ (w1.alloc (.cells #[.string (mk xp), .int .i64 x1, .int .i64 x2] 93)).heap.size := by have := Hown2.out.2.size; simp; omega
    go_wp2_with (at_builtin; refine wp_joins (f := clV) (k := 3) rfl _ _ 28 rfl (w.heap.size) 93 i0 (.agg #[.string ⟨#[]⟩, .int .i64 0, .int .i64 0]) 32 Tryz.underlying28 hi0 hz0 hz1 hz2 rfl (by decide) rfl rfl hown3 hmade (fun _ _ => rfl) (fun x _ => cl_one x) ?c3 ?c4 hsz3 ?_)
    case c3 => have := HL.out; unfold maxLen; first | omega | (simp <;> omega)
    case c4 => have := HL.out; first | omega | (simp <;> omega)
    intro v3 w3 h1 h2 _
    have hnew := Lib.hid (Hown2.out.more (x := (⟨xp, x1, x2⟩ : Flt.Cl)) (v' := v3) (by simpa [clV] using h1) h2)
    clear h1 h2 hown3 hmade
    go_wp2_with fail
    exact ⟨⟨n + 1, by omega, by go_num, by rw [hst'.out]; exact hnew.out⟩, by show f.length - ((n : Int) + 1).toNat < f.length - (n : Int).toNat; omega⟩
  ·obtain rfl : n = f.length := by omega
   rw [List.take_length] at hown
   have Hown := Lib.hid hown
   clear hown
   go_wp2_with fail
   go_ret
   exact ⟨_, rfl, Hown.out⟩
end Go.Proofs.YtpmolinmopgbdaaGreat
