/- The landed cover: Subsumes, Meet, Join, Minus, Witness. -/
import Derived.Test.YtajhmgbicliihaaGreatDoorCom19
import Derived.Test.YtajhmgbicliihaaGreatDoorCom16
import Derived.Test.YtajhmgbicliihaaGreatDoorCom10
import Derived.Test.YtajhmgbicliihaaGreatDoorCom17
import Derived.Test.YtajhmgbicliihaaGreatDoorCom6
import Derived.Shelf.Spec.SlicesGrow
import Derived.Laws.StructEq
import Derived.Shelf.GgSortFunc.InsertionK
set_option linter.unusedSimpArgs false
set_option linter.unusedVariables false
namespace Go.Proofs.YtajhmgbicliihaaGreatDoor
open Go.RowKit Go.Shelf Go.Lib

set_option maxRecDepth 100000 in
/-- Room for so many. -/
theorem cov_grow (n : Nat) (hn : n ≤ 2000000) (w : World) :
    Calls Tryz.prog 36 #[.slice none 0 0, .int .i64 (n : Int)] w fun e w' => ∃ v, e = .returned v ∧ RowsOwn 39 3 clV w [] v w' := by
  obtain ⟨i0, hi0, hz0, hz1, hz2⟩ := info_parts clauseInfo
  by_cases h0 : n = 0
  · subst h0
    refine (Any8.slices_Grow_room Tryz.growCl none 0 0 0 w (Nat.le_refl _) (by omega) (by omega) (by omega)).mono ?_
    rintro e w' ⟨rfl, rfl⟩
    exact ⟨_, rfl, RowsOwn.start _ _ _ _⟩
  · refine (Any8.slices_Grow_grow Tryz.growCl i0 (.agg #[.string ⟨#[]⟩, .int .i64 0, .int .i64 0]) hi0 hz0 (by omega) none 0 0 n [] w (Nat.le_refl _) (by omega) (by rw [hz2]; omega) (by omega) (by simp) (fun _ => rfl) (fun a h => by cases h)).mono ?_
    rintro e w' ⟨rfl, rfl⟩
    refine ⟨_, rfl, ?_, ((Below.refl _ w).drew).alloc (Nat.le_refl _) _⟩
    have hG := grownCap_ge w (0 + n) 0 (Tryz.growCl_ren.t 25)
    have hM := grownCap_le_maxLen w (0 + n) 0 (Tryz.growCl_ren.t 25) (by unfold maxLen; omega)
    refine World.ownsRow_made w.drew _ _ (Nat.le_refl _) hM ?_
    have hzc : (Value.agg #[.string ⟨#[]⟩, .int .i64 0, .int .i64 0]).cells.size = 3 := rfl
    simp only [Array.size_append, size_zeroCells, hzc, List.size_toArray, List.length_nil]
    omega

set_option maxRecDepth 100000 in
set_option maxHeartbeats 3200000 in
theorem cov_concat {w : World} {F G : Nat → Prop} {u v : Value} {a b : List Flt.Cl} {bk : Nat} (ha : Cls w F u a) (hb : Cls w G v b) (la : a.length ≤ 500000) (lb : b.length ≤ 500000) (c0 : w.cell? ⟨bk, 0, none⟩ = some u) (c1 : w.cell? ⟨bk, 1, none⟩ = some v) (hk : bk < w.heap.size) :
    Calls Tryz.prog 20 #[.slice (some ⟨bk, 0, none⟩) 2 2] w fun e w' => ∃ v', e = .returned v' ∧ RowsOwn 39 3 clV w (a ++ b) v' w' := by
  obtain ⟨i0, hi0, hz0, hz1, hz2⟩ := info_parts clauseInfo
  obtain ⟨A, c, rfl, hc⟩ := ha.parts
  obtain ⟨B, d, rfl, hd⟩ := hb.parts
  have HA := Lib.hid ha
  have HB := Lib.hid hb
  have la0 : (a.length : Int) ≤ 500000 := by omega
  have lb0 : (b.length : Int) ≤ 500000 := by omega
  have la1 : (0 : Int) ≤ (a.length : Int) := by omega
  have lb1 : (0 : Int) ≤ (b.length : Int) := by omega
  have HG : Hid (∀ W, Calls Tryz.prog 36 #[.slice none 0 0, .int .i64 ((a.length : Int) + (b.length : Int))] W fun e w' => ∃ v, e = .returned v ∧ RowsOwn 39 3 clV W [] v w') := Lib.hid (fun W => by
    have := cov_grow (a.length + b.length) (by omega) W
    rwa [Int.natCast_add] at this)
  clear ha hb
  go_enter Tryz.func20, Tryz.ntmps20
  go_wp2_with fail
  refine wp_loop_rounds 3 ?_
  rw [rounds_succ]
  go_wp2_with fail
  rw [rounds_succ]
  go_wp2_with fail
  rw [rounds_succ]
  go_wp2_with fail
  refine (HG.out w).mono ?_
  rintro e w1 ⟨v1, rfl, h1⟩
  have hg1 := HA.out.below h1.2
  have hz1' : w.heap.size ≤ w1.heap.size := h1.2.size
  have e0 : w1.cell? ⟨bk, 0, none⟩ = some (.slice A a.length c) := (h1.2.cell (p := ⟨bk, 0, none⟩) hk).trans c0
  have e1 : w1.cell? ⟨bk, 1, none⟩ = some (.slice B b.length d) := (h1.2.cell (p := ⟨bk, 1, none⟩) hk).trans c1
  have H1 := Lib.hid h1
  have own1 := h1.1
  clear h1 c0 c1
  go_wp2_with fail
  refine wp_loop_rounds 3 ?_
  rw [rounds_succ]
  go_wp2_with (at_builtin; refine wp_joins (f := clV) (k := 3) rfl _ _ 22 rfl w.heap.size 39 i0 (.agg #[.string ⟨#[]⟩, .int .i64 0, .int .i64 0]) 32 Tryz.underlying22 hi0 hz0 hz1 hz2 rfl (by decide) rfl rfl own1 hg1 (fun _ _ => rfl) (fun x _ => cl_one x) ?c3 ?c4 hz1' ?_)
  case c3 => unfold maxLen; first | omega | (simp <;> omega)
  case c4 => first | omega | (simp <;> omega)
  intro v2 w2 j1 j2 j3
  have h2 : RowsOwn 39 3 clV w a v2 w2 := ⟨by simpa using j1, H1.out.2.grown j2 H1.out.2.size (fun k hk => (H1.out.1.lt k hk).1)⟩
  have hg2 := HB.out.below h2.2
  have hz2' : w.heap.size ≤ w2.heap.size := h2.2.size
  have f1 : w2.cell? ⟨bk, 1, none⟩ = some (.slice B b.length d) := (j2.cell e1 (fun e => by have := (H1.out.1.lt bk e.symm).1; omega))
  have H2 := Lib.hid h2
  have own2 := h2.1
  clear h2 j1 j2 j3 H1 own1 hg1 e0 e1
  go_wp2_with fail
  rw [rounds_succ]
  go_wp2_with (at_builtin; refine wp_joins (f := clV) (k := 3) rfl _ _ 22 rfl w.heap.size 39 i0 (.agg #[.string ⟨#[]⟩, .int .i64 0, .int .i64 0]) 32 Tryz.underlying22 hi0 hz0 hz1 hz2 rfl (by decide) rfl rfl own2 hg2 (fun _ _ => rfl) (fun x _ => cl_one x) ?c3 ?c4 hz2' ?_)
  case c3 => unfold maxLen; first | omega | (simp <;> omega)
  case c4 => first | omega | (simp <;> omega)
  intro v3 w3 j1 j2 j3
  have h3 : RowsOwn 39 3 clV w (a ++ b) v3 w3 := ⟨by rw [List.length_append, List.flatMap_append]; exact j1, H2.out.2.grown j2 H2.out.2.size (fun k hk => (H2.out.1.lt k hk).1)⟩
  have H3 := Lib.hid h3
  clear h3 j1 j2 j3 H2 own2 hg2 f1
  go_wp2_with fail
  rw [rounds_succ]
  go_wp2_with fail
  go_ret
  exact ⟨v3, rfl, H3.out⟩

set_option maxRecDepth 100000 in
theorem below_put {B : Nat} {w w' : World} (h : Below B w w') {p : Addr} (hp : B ≤ p.block) (u : Value) : Below B w (w'.setCell p u) :=
  ⟨h.os, h.tape, h.output, by simpa [World.setCell] using h.size, fun i hi => (Below.heap_setCell w' p u i (by omega)).trans (h.block i hi)⟩

section
variable {w : World} {F G : Nat → Prop} {u v : Value} {f g : List Flt.Cl}

set_option maxRecDepth 100000 in
theorem cov_subs (Z : FilterOk) (ZS : SizesOk) (hf : Cls w F u f) (hg : Cls w G v g) (okf : Cov.Ok f) (okg : Cov.Ok g) :
    Calls Tryz.prog 14 #[u, v] w fun e w' => e = .returned (.bool (decide (Cov.Subs f g))) ∧ Below w.heap.size w w' := by
  have PA := Lib.hid (cov_parts Z ZS hg hf okg okf (k := 2) (fn := 30) (Or.inl ⟨rfl, rfl⟩))
  have hd : decide (Cov.Subs f g) = decide ((Cov.parts 2 g f).length = 0) := by
    rw [decide_eq_decide, ← Cov.left_subs, ← Cov.parts_left]
    exact List.length_eq_zero_iff.symm
  rw [hd]
  clear hd hf hg okf okg
  generalize Cov.parts 2 g f = X at *
  go_enter Tryz.func14, Tryz.ntmps14
  go_wp2_with fail
  refine (PA.out).mono ?_
  rintro e w1 ⟨x, rfl, hx⟩
  obtain ⟨A, c, rfl, hc⟩ := (hx.rows (fun _ _ => rfl)).parts
  have HB := Lib.hid hx.2
  clear hx
  by_cases h0 : X.length = 0
  · have hd := Lib.hid (decide_eq_true h0)
    have g0 : ((X.length : Int) == 0) = true := by rw [beq_iff_eq]; omega
    clear h0
    go_wp2_with fail
    go_ret
    exact ⟨by rw [hd.out]; rfl, HB.out⟩
  · have hd := Lib.hid (decide_eq_false h0)
    have g0 : ((X.length : Int) == 0) = false := by rw [beq_eq_false_iff_ne]; omega
    clear h0
    go_wp2_with fail
    go_ret
    exact ⟨by rw [hd.out]; rfl, HB.out⟩

set_option maxRecDepth 100000 in
theorem cov_minus (Z : FilterOk) (ZS : SizesOk) (hf : Cls w F u f) (hg : Cls w G v g) (okf : Cov.Ok f) (okg : Cov.Ok g) (hp : (Flt.prefixes f).length ≤ 490) :
    Calls Tryz.prog 12 #[u, v] w fun e w' => ∃ v', e = .returned v' ∧ Cls w' (NewIn w w') v' (Cov.minus f g) ∧ Below w.heap.size w w' := by
  have PA := Lib.hid (cov_parts Z ZS hf hg okf okg (k := 2) (fn := 30) (Or.inl ⟨rfl, rfl⟩))
  have NO : Hid (∀ (P : Nat → Prop) (W : World) (x : Value), Cls W P x (Cov.parts 2 f g) → Calls Tryz.prog 19 #[x] W fun e w' => ∃ v', e = .returned v' ∧ Cls w' (NewIn W w') v' (Cov.minus f g) ∧ Below W.heap.size W w') := Lib.hid (fun P W x hx => by
    have hl := Cov.parts_len (k := 2) (Or.inr rfl) f g
    have hr := Cov.parts_right (k := 2) (g := g) okf.2.1
    have hL : (Cov.parts 2 f g).length ≤ 100000 := by omega
    exact Z.norm hx hL hr (fun c hc => Cov.right_bd (hr c hc)))
  clear hf hg okf okg hp
  go_enter Tryz.func12, Tryz.ntmps12
  go_wp2_with fail
  refine (PA.out).mono ?_
  rintro e w1 ⟨x, rfl, hx⟩
  have HX := Lib.hid hx
  clear hx
  go_wp2_with fail
  refine (NO.out _ _ _ (HX.out.rows (fun _ _ => rfl))).mono ?_
  rintro e w2 ⟨y, rfl, hy, hb⟩
  have HY := Lib.hid (hy.mono (G := NewIn w w2) (fun i hi => ⟨Nat.le_trans HX.out.2.size hi.1, hi.2⟩))
  have HB := Lib.hid (HX.out.2.trans (hb.mono HX.out.2.size))
  clear hy hb
  go_wp2_with fail
  go_ret
  exact ⟨_, rfl, HY.out, HB.out⟩

set_option maxRecDepth 100000 in
theorem cov_join (Z : FilterOk) (hf : Cls w F u f) (hg : Cls w G v g) (okf : Cov.Ok f) (okg : Cov.Ok g) (hl : f.length + g.length ≤ 100000) :
    Calls Tryz.prog 7 #[u, v] w fun e w' => ∃ v', e = .returned v' ∧ Cls w' (NewIn w w') v' (Cov.two 0 f g) ∧ Below w.heap.size w w' := by
  obtain ⟨A, c, rfl, hc⟩ := hf.parts
  obtain ⟨B, d, rfl, hd⟩ := hg.parts
  have hb0 : Below w.heap.size w (w.alloc (.cells #[.slice A f.length c, .slice B g.length d] 22)) := (Below.refl _ _).alloc (Nat.le_refl _) _
  have hrow := Row.made w 22 #[.slice A f.length c, .slice B g.length d]
  have HC := Lib.hid (cov_concat (hf.below hb0) (hg.below hb0) (by omega) (by omega) (hrow.at 0) (hrow.at 1) (by simp))
  have Hb0 := Lib.hid hb0
  have NO : Hid (∀ (P : Nat → Prop) (W : World) (x : Value), Cls W P x (f ++ g) → Calls Tryz.prog 19 #[x] W fun e w' => ∃ v', e = .returned v' ∧ Cls w' (NewIn W w') v' (Cov.two 0 f g) ∧ Below W.heap.size W w') := Lib.hid (fun P W x hx => by
    rw [← Cov.join_is]
    exact Z.norm hx (by rw [List.length_append]; omega) (fun c hc => by rcases List.mem_append.1 hc with h | h; exact okf.2.1 c h; exact okg.2.1 c h) (fun c hc => by rcases List.mem_append.1 hc with h | h; exact okf.2.2 c h; exact okg.2.2 c h))
  clear hf hg okf okg hb0 hrow hl
  go_enter Tryz.func7, Tryz.ntmps7
  go_wp2_with fail
  refine (HC.out).mono ?_
  rintro e w1 ⟨x, rfl, hx⟩
  have HX := Lib.hid hx
  have HB1 := Lib.hid (Hb0.out.trans (hx.2.mono Hb0.out.size))
  clear hx
  go_wp2_with fail
  refine (NO.out _ _ _ (HX.out.rows (fun _ _ => rfl))).mono ?_
  rintro e w2 ⟨y, rfl, hy, hb⟩
  have HY := Lib.hid (hy.mono (G := NewIn w w2) (fun i hi => ⟨Nat.le_trans HB1.out.size hi.1, hi.2⟩))
  have HB := Lib.hid (HB1.out.trans (hb.mono HB1.out.size))
  clear hy hb
  go_wp2_with fail
  go_ret
  exact ⟨_, rfl, HY.out, HB.out⟩

set_option maxRecDepth 100000 in
theorem cov_meet (Z : FilterOk) (ZS : SizesOk) (hf : Cls w F u f) (hg : Cls w G v g) (okf : Cov.Ok f) (okg : Cov.Ok g) (hp : (Flt.prefixes f).length + (Flt.prefixes g).length ≤ 490) :
    Calls Tryz.prog 6 #[u, v] w fun e w' => ∃ v', e = .returned v' ∧ Cls w' (NewIn w w') v' (Cov.two 1 f g) ∧ Below w.heap.size w w' := by
  have P1 := Lib.hid (cov_parts Z ZS hf hg okf okg (k := 1) (fn := 22) (Or.inr ⟨rfl, rfl⟩))
  have P2 := Lib.hid (fun (W : World) (hW : Below w.heap.size w W) => cov_parts Z ZS (hg.below hW) (hf.below hW) okg okf (k := 1) (fn := 22) (Or.inr ⟨rfl, rfl⟩))
  have hl1 := Cov.parts_len (k := 1) (Or.inl rfl) f g
  have hl2 := Cov.parts_len (k := 1) (Or.inl rfl) g f
  have CC : Hid (∀ (P Q : Nat → Prop) (W : World) (x y : Value) (bk : Nat), Cls W P x (Cov.parts 1 f g) → Cls W Q y (Cov.parts 1 g f) → W.cell? ⟨bk, 0, none⟩ = some x → W.cell? ⟨bk, 1, none⟩ = some y → bk < W.heap.size → Calls Tryz.prog 20 #[.slice (some ⟨bk, 0, none⟩) 2 2] W fun e w' => ∃ v', e = .returned v' ∧ RowsOwn 39 3 clV W (Cov.parts 1 f g ++ Cov.parts 1 g f) v' w') := Lib.hid (fun P Q W x y bk hx hy c0 c1 hk => cov_concat hx hy (by omega) (by omega) c0 c1 hk)
  have NO : Hid (∀ (P : Nat → Prop) (W : World) (x : Value), Cls W P x (Cov.parts 1 f g ++ Cov.parts 1 g f) → Calls Tryz.prog 19 #[x] W fun e w' => ∃ v', e = .returned v' ∧ Cls w' (NewIn W w') v' (Cov.two 1 f g) ∧ Below W.heap.size W w') := Lib.hid (fun P W x hx => by
    have hr : ∀ c ∈ Cov.parts 1 f g ++ Cov.parts 1 g f, Flt.Right c := fun c hc => by
      rcases List.mem_append.1 hc with h | h
      · exact Cov.parts_right okf.2.1 c h
      · exact Cov.parts_right okg.2.1 c h
    rw [← Cov.meet_is]
    exact Z.norm hx (by rw [List.length_append]; omega) hr (fun c hc => Cov.right_bd (hr c hc)))
  clear hf hg okf okg hp hl1 hl2
  generalize Cov.parts 1 f g = X at *
  generalize Cov.parts 1 g f = Y at *
  go_enter Tryz.func6, Tryz.ntmps6
  go_wp2_with fail
  refine (P1.out).mono ?_
  rintro e w1 ⟨x, rfl, hx⟩
  have HX := Lib.hid hx
  clear hx P1
  go_wp2_with fail
  refine (P2.out _ HX.out.2).mono ?_
  rintro e w2 ⟨y, rfl, hy⟩
  have HX2 := Lib.hid ((HX.out.rows (fun _ _ => rfl)).below hy.2)
  have HY2 := Lib.hid (hy.rows (fun _ _ => rfl))
  have HB2 := Lib.hid (HX.out.2.trans (hy.2.mono HX.out.2.size))
  clear hy HX P2
  obtain ⟨A, c, rfl, hc⟩ := HX2.out.parts
  obtain ⟨B, d, rfl, hd⟩ := HY2.out.parts
  have hb0 : Below w2.heap.size w2 (w2.alloc (.cells #[.slice A X.length c, .slice B Y.length d] 22)) := (Below.refl _ _).alloc (Nat.le_refl _) _
  have hrow := Row.made w2 22 #[.slice A X.length c, .slice B Y.length d]
  have HC := Lib.hid (CC.out _ _ _ _ _ _ (HX2.out.below hb0) (HY2.out.below hb0) (hrow.at 0) (hrow.at 1) (by simp))
  have Hb0 := Lib.hid (HB2.out.trans (hb0.mono HB2.out.size))
  clear hb0 hrow CC
  go_wp2_with fail
  refine (HC.out).mono ?_
  rintro e w3 ⟨z, rfl, hz⟩
  have HZ := Lib.hid hz
  have HB3 := Lib.hid (Hb0.out.trans (hz.2.mono Hb0.out.size))
  clear hz
  go_wp2_with fail
  refine (NO.out _ _ _ (HZ.out.rows (fun _ _ => rfl))).mono ?_
  rintro e w4 ⟨y, rfl, hy, hb⟩
  have HY := Lib.hid (hy.mono (G := NewIn w w4) (fun i hi => ⟨Nat.le_trans HB3.out.size hi.1, hi.2⟩))
  have HB := Lib.hid (HB3.out.trans (hb.mono HB3.out.size))
  clear hy hb
  go_wp2_with fail
  go_ret
  exact ⟨_, rfl, HY.out, HB.out⟩
end

set_option maxRecDepth 100000 in
set_option maxHeartbeats 3200000 in
theorem cov_wit (Z : FilterOk) (ZS : SizesOk) {w : World} {F G : Nat → Prop} {u v : Value} (hu : Cls w F u Cov.awG) (hv : Cls w G v Cov.awF) :
    Calls Tryz.prog 25 #[u, v] w fun e w' => e = .returned (.tuple #[fileV [97] 0 false, .bool true]) ∧ Below w.heap.size w w' := by
  have hb0 : Below w.heap.size w (w.alloc (.cells #[.string ⟨#[]⟩, .int .i64 0, .bool false] 24)) := (Below.refl _ _).alloc (Nat.le_refl _) _
  have PA := Lib.hid (cov_parts Z ZS (hv.below hb0) (hu.below hb0) Cov.awF_ok Cov.awG_ok (k := 2) (fn := 30) (Or.inl ⟨rfl, rfl⟩))
  have hp : Cov.parts 2 Cov.awF Cov.awG = Cov.awF := by decide +kernel
  rw [hp] at PA
  have HB0 := Lib.hid hb0
  have Hsz : Hid ((Tryz.prog.info? 24).map (·.size) = some 3) := Lib.hid (by kernel_rfl)
  clear hu hv hb0 hp
  go_enter Tryz.func25, Tryz.ntmps25
  go_wp2_with fail
  refine (PA.out).mono ?_
  rintro e w1 ⟨x, rfl, hx⟩
  have HX := Lib.hid (hx.rows (fun _ _ => rfl))
  have HB1 := Lib.hid hx.2
  clear hx
  obtain ⟨b, o, c, rfl, hc, -, hb⟩ := HX.out.block (by decide)
  have CX : Hid (∀ W, Below w1.heap.size w1 W → W.cell? ⟨b, o, none⟩ = some (.string ⟨#[97]⟩) ∧ W.cell? ⟨b, o + 1, none⟩ = some (.int .i64 0)) := Lib.hid (fun W hW => by
    have h := Cls.at (HX.out.below hW) (i := 0) (x := ⟨[97], 0, 9⟩) rfl
    simp only [Nat.zero_mul, Nat.add_zero] at h
    exact ⟨h.1, h.2.1⟩)
  have hl1 : Cov.awF.length = 1 := rfl
  rw [hl1]
  go_wp2_with fail
  refine wp_region_tail (n := 11) (S := (fun w' : World => Below w1.heap.size w1 w')) (by kernel_rfl) (by kernel_rfl) (by rfl) ((Below.refl _ _).drew) (fun hHeld => ?_)
  refine wpAnyH_take (i := 0) (v := ?_) rfl (by kernel_rfl) (by kernel_rfl) (by kernel_rfl) (fun _ _ _ h => h) (Or.inl ⟨by rfl, (by intro w hSw; go_simp; try with_reducible rfl)⟩) (by assumption) ?_
  simp only [Act.put, List.getElem_toArray, List.getElem_cons_zero, List.getElem_cons_succ, List.setIfInBounds_toArray, List.set_cons_zero, List.set_cons_succ]
  refine wpAnyH_take (i := 1) (v := ?_) rfl (by kernel_rfl) (by kernel_rfl) (by kernel_rfl) (fun _ _ _ h => h) (Or.inl ⟨by rfl, (by intro w hSw; go_simp; try with_reducible rfl)⟩) (by assumption) ?_
  simp only [Act.put, List.getElem_toArray, List.getElem_cons_zero, List.getElem_cons_succ, List.setIfInBounds_toArray, List.set_cons_zero, List.set_cons_succ]
  refine wpAnyH_take (i := 2) (v := ?_) rfl (by kernel_rfl) (by kernel_rfl) (by kernel_rfl) (fun _ _ _ h => h) (Or.inl ⟨by rfl, (by intro w hSw; go_simp; try with_reducible rfl)⟩) (by assumption) ?_
  simp only [Act.put, List.getElem_toArray, List.getElem_cons_zero, List.getElem_cons_succ, List.setIfInBounds_toArray, List.set_cons_zero, List.set_cons_succ]
  refine wpAnyH_take (i := 3) (v := ?_) rfl (by kernel_rfl) (by kernel_rfl) (by kernel_rfl) (fun _ _ _ h => h) (Or.inl ⟨by rfl, (by intro w hSw; have d0 := (CX.out _ hSw).1; have d1 := (CX.out _ hSw).2; go_simp; try with_reducible rfl)⟩) (by assumption) ?_
  simp only [Act.put, List.getElem_toArray, List.getElem_cons_zero, List.getElem_cons_succ, List.setIfInBounds_toArray, List.set_cons_zero, List.set_cons_succ]
  refine wpAnyH_take (i := 4) (v := ?_) rfl (by kernel_rfl) (by kernel_rfl) (by kernel_rfl) (fun _ _ _ h => h) (Or.inl ⟨by rfl, (by intro w hSw; go_simp; try with_reducible rfl)⟩) (by assumption) ?_
  simp only [Act.put, List.getElem_toArray, List.getElem_cons_zero, List.getElem_cons_succ, List.setIfInBounds_toArray, List.set_cons_zero, List.set_cons_succ]
  refine wpAnyH_take (i := 5) (v := ?_) rfl (by kernel_rfl) (by kernel_rfl) (by kernel_rfl) (fun _ _ _ h => h) (Or.inl ⟨by rfl, (by intro w hSw; go_simp; try with_reducible rfl)⟩) (by assumption) ?_
  simp only [Act.put, List.getElem_toArray, List.getElem_cons_zero, List.getElem_cons_succ, List.setIfInBounds_toArray, List.set_cons_zero, List.set_cons_succ]
  refine wpAnyH_take (i := 6) (v := ?_) rfl (by kernel_rfl) (by kernel_rfl) (by kernel_rfl) (fun _ _ _ h => h) (Or.inl ⟨by rfl, (by intro w hSw; go_simp; try with_reducible rfl)⟩) (by assumption) ?_
  simp only [Act.put, List.getElem_toArray, List.getElem_cons_zero, List.getElem_cons_succ, List.setIfInBounds_toArray, List.set_cons_zero, List.set_cons_succ]
  refine wpAnyH_take (i := 7) (v := ?_) rfl (by kernel_rfl) (by kernel_rfl) (by kernel_rfl) (fun _ _ _ h => h) (Or.inl ⟨by rfl, (by intro w hSw; go_simp; try with_reducible rfl)⟩) (by assumption) ?_
  simp only [Act.put, List.getElem_toArray, List.getElem_cons_zero, List.getElem_cons_succ, List.setIfInBounds_toArray, List.set_cons_zero, List.set_cons_succ]
  refine wpAnyH_take (i := 8) (v := ?_) rfl (by kernel_rfl) (by kernel_rfl) (by kernel_rfl) (fun _ _ _ h => h) (Or.inl ⟨by rfl, (by intro w hSw; have d0 := (CX.out _ hSw).1; have d1 := (CX.out _ hSw).2; go_simp; try with_reducible rfl)⟩) (by assumption) ?_
  simp only [Act.put, List.getElem_toArray, List.getElem_cons_zero, List.getElem_cons_succ, List.setIfInBounds_toArray, List.set_cons_zero, List.set_cons_succ]
  refine wpAnyH_take (i := 9) (v := ?_) rfl (by kernel_rfl) (by kernel_rfl) (by kernel_rfl) (fun _ _ _ h => h) (Or.inl ⟨by rfl, (by intro w hSw; go_simp; try with_reducible rfl)⟩) (by assumption) ?_
  simp only [Act.put, List.getElem_toArray, List.getElem_cons_zero, List.getElem_cons_succ, List.setIfInBounds_toArray, List.set_cons_zero, List.set_cons_succ]
  refine wpAnyH_ready (rs := [10]) (by kernel_rfl) (by simp) ?_
  refine AllReadyH.cons rfl (fun K hK => ?_) AllReadyH.nil
  go_simp
  refine hK.out _ _ ((hHeld.alloc hHeld.size _)) (fun hHeld => ?_)
  clear hK K
  refine wpAnyH_done (by kernel_rfl) ?_ _
  refine wpAny_of_held (S := fun _ => True) _ _ _ _ ?_
  have hHeld : True := trivial
  refine wpAnyH_ready (rs := [11]) (by kernel_rfl) (by simp) ?_
  refine AllReadyH.cons rfl (fun K hK => ?_) AllReadyH.nil
  go_simp
  refine hK.out _ _ trivial (fun hHeld => ?_)
  clear hK K
  refine wpAnyH_done (by kernel_rfl) ?_ _
  have hx1 : Below w1.heap.size w1 (w1.alloc (.cells #[.string ⟨#[97]⟩, .int .i64 0, .bool false] 24)) := (Below.refl _ _).alloc (Nat.le_refl _) _
  have hr0 := Row.below (Row.below (Row.made w 24 #[.string ⟨#[]⟩, .int .i64 0, .bool false]) HB1.out (by simp)) hx1 (by have := HB1.out.size; simp at this; omega)
  have hr := Row.behindDraw hr0
  have hr1 : Hid (Row ((((w1.alloc (.cells #[.string ⟨#[97]⟩, .int .i64 0, .bool false] 24)).drew.setCell ⟨w.heap.size, 0, none⟩ (.string ⟨#[97]⟩)).setCell ⟨w.heap.size, 1, none⟩ (.int .i64 0)).setCell ⟨w.heap.size, 2, none⟩ (.bool false)) w.heap.size 24 #[.string ⟨#[97]⟩, .int .i64 0, .bool false]) := Lib.hid (((hr.stored 0 (.string ⟨#[97]⟩)).stored 1 (.int .i64 0)).stored 2 (.bool false))
  have q0 := hr.at 0
  have q1 := hr.at 1
  have q2 := hr.at 2
  have f0 := hr.free 0
  have f1 := hr.free 1
  have f2 := hr.free 2
  have hx := Row.behindDraw (Row.made w1 24 #[.string ⟨#[97]⟩, .int .i64 0, .bool false])
  have x0 := hx.at 0
  have x1 := hx.at 1
  have x2 := hx.at 2
  have HBW : Hid (Below w.heap.size w (w1.alloc (.cells #[.string ⟨#[97]⟩, .int .i64 0, .bool false] 24)).drew) := Lib.hid (HB0.out.trans ((HB1.out.trans (hx1.mono HB1.out.size)).drew.mono HB0.out.size))
  clear hHeld hr hr0 hx1 hx
  generalize (w1.alloc (.cells #[.string ⟨#[97]⟩, .int .i64 0, .bool false] 24)).drew = W at *
  go_wp2_with fail
  refine bodyPost_ret (v := .tuple #[.agg #[.string ⟨#[97]⟩, .int .i64 0, .bool false], .bool true]) ?_ rfl ⟨rfl, below_put (below_put (below_put HBW.out (Nat.le_refl _) _) (Nat.le_refl _) _) (Nat.le_refl _) _⟩
  rw [results_cell_tmp (by rfl)]
  have hl := run_loadVar_row (P := Tryz.prog) _ w.heap.size 24 24 _ (0, 0) _ hr1.out Tryz.underlying24 rfl Hsz.out
  simp [asAddr, hl, Result.andThen]

set_option maxRecDepth 100000 in
theorem cover_of (Z : FilterOk) (ZS : SizesOk) : CoverOk where
  subs := cov_subs Z ZS
  meet := cov_meet Z ZS
  join := cov_join Z
  minus := cov_minus Z ZS
  wit := cov_wit Z ZS
end Go.Proofs.YtajhmgbicliihaaGreatDoor
/- The landed filter: Check, All, Sizes. -/
set_option linter.unusedSimpArgs false
set_option linter.unusedVariables false
namespace Go.Proofs.YtajhmgbicliihaaGreatDoor
open Go.RowKit

set_option maxRecDepth 100000 in
theorem Flt.first_at {f : List Flt.Cl} {n : Nat} {c : Flt.Cl} (hc : f[n]? = some c) : Flt.first (f.drop n) = if c.pre ≠ [] ∧ ¬ Pth.Right c.pre then 13 else if Flt.Right c then Flt.first (f.drop (n + 1)) else 2 := by
  obtain ⟨hl, he⟩ := List.getElem?_eq_some_iff.1 hc
  rw [List.drop_eq_getElem_cons hl, he]
  rfl

set_option maxRecDepth 100000 in
theorem flt_all (w : World) : Calls Tryz.prog 15 #[] w fun e w' => ∃ v', e = .returned v' ∧ Cls w' (NewIn w w') v' Flt.whole ∧ Below w.heap.size w w' := by
  go_enter Tryz.func15, Tryz.ntmps15
  go_wp2_with fail
  go_ret
  have hb : Below w.heap.size w (w.alloc (.cells #[.string ⟨#[]⟩, .int .i64 0, .int .i64 200] 39)) := (Below.refl _ _).alloc (Nat.le_refl _) _
  exact ⟨_, rfl, (cl_made w 39 [] 0 200).mono (fun i hi => ⟨by omega, by simp; omega⟩), hb⟩

end Go.Proofs.YtajhmgbicliihaaGreatDoor
/- The landed filter: Match, Equal. -/
set_option linter.unusedSimpArgs false
set_option linter.unusedVariables false
namespace Go.Proofs.YtajhmgbicliihaaGreatDoor
open Go.RowKit Go.Shelf Go.Lib

set_option maxRecDepth 100000 in
theorem hit_holds (p : List UInt8) (s : Int) (d : Bool) (c : Flt.Cl) : Flt.hit p s d c = (decide (Pth.Covers c.pre p) && (d || Sz.holds [(c.lo, c.hi)] s)) := by
  unfold Flt.hit
  congr 2
  rw [Sz.holds_cons, Sz.holds_nil, Bool.or_false, Bool.eq_iff_iff]
  simp only [Bool.and_eq_true, decide_eq_true_eq]
  constructor
  · rintro ⟨a, b, c, d⟩; exact ⟨⟨a, b⟩, c, d⟩
  · rintro ⟨⟨a, b⟩, c, d⟩; exact ⟨a, b, c, d⟩

instance : Inhabited Flt.Cl := ⟨⟨[], 0, 0⟩⟩

/-- Clauses that are in bounds, as elements of their own. -/
abbrev BCl := { c : Flt.Cl // Flt.Bd c }
def bclV (c : BCl) : List Value := clV c.1
instance : Inhabited BCl := ⟨⟨⟨[], 0, 0⟩, ⟨by simp, by unfold Go.Proofs.YtajhmgbicliihaaGreatDoor.Bd Flt.rg; simp⟩⟩⟩

/-! ### The very same lists -/
set_option maxRecDepth 100000 in
theorem rg_equalIn (w : World) (x1 x2 y1 y2 : Int) : (Op.equalIn 9999 37 (.agg #[.int .i64 x1, .int .i64 x2]) (.agg #[.int .i64 y1, .int .i64 y2])).run Tryz.prog w = .ok (decide (x1 = y1 ∧ x2 = y2)) w := by
  have hS : Tryz.prog.underlying 37 = some (.struct (Tryz.prog.fieldsOf 37)) := by kernel_rfl
  have hp : Tryz.prog.stoodInHeld 37 = false := by kernel_rfl
  have u3 := Tryz.underlying3
  have a3 := Tryz.isAgg3
  have z3 := Tryz.sizeOf3
  rw [show (9999 : Nat) = 9998 + 1 from rfl, run_equalIn_agg w 9998 37 _ _ hS hp]
  simp only [Program.fieldsOf, Tryz.underlying37]
  go_simp
  by_cases h1 : x1 = y1 <;> by_cases h2 : x2 = y2 <;> simp [h1, h2]
set_option maxRecDepth 100000 in
theorem cl_neq : NeqAt Tryz.prog 39 (fun x : Flt.Cl => .agg (clV x).toArray) (fun x y => decide (x = y)) := by
  refine ⟨fun x y w => ?_, GuardAt.agg _ (by kernel_rfl)⟩
  have hS : Tryz.prog.underlying 39 = some (.struct (Tryz.prog.fieldsOf 39)) := by kernel_rfl
  have hp : Tryz.prog.stoodInHeld 39 = false := by kernel_rfl
  have u9 := Tryz.underlying9
  have a9 := Tryz.isAgg9
  have z9 := Tryz.sizeOf9
  have a27 := Tryz.isAgg37
  have z27 := Tryz.sizeOf37
  obtain ⟨xp, x1, x2⟩ := x
  obtain ⟨yp, y1, y2⟩ := y
  have es := str_same xp yp
  have hR := fun w => rg_equalIn w x1 x2 y1 y2
  simp only [clV]
  rw [run_neq_struct, show (10000 : Nat) = 9999 + 1 from rfl, run_equalIn_agg w 9999 39 _ _ hS hp]
  simp only [Program.fieldsOf, Tryz.underlying39]
  have hT : ∀ (w : World) (a b : ByteArray), (Op.equalIn 9999 9 (.string a) (.string b)).run Tryz.prog w = .ok (a.toList == b.toList) w := fun w a b => run_equalIn_string w 9998 9 a b u9
  simp only [Op.eqFields]
  generalize Op.equalIn 9999 = EQ at hR hT ⊢
  generalize mk xp = xs at *
  generalize mk yp = ys at *
  go_simp
  by_cases h0 : xp = yp <;> by_cases h1 : x1 = y1 <;> by_cases h2 : x2 = y2 <;> simp [h0, h1, h2, es]
set_option maxRecDepth 100000 in
theorem call_eq : ∀ (a b : List Flt.Cl), Lib.allEq (fun x y : Flt.Cl => decide (x = y)) a b = decide (a = b)
  | [], [] => rfl
  | [], y :: b => by rw [Lib.allEq_len _ _ _ (by simp)]; simp
  | x :: a, [] => by rw [Lib.allEq_len _ _ _ (by simp)]; simp
  | x :: a, y :: b => by
    show (decide (x = y) && Lib.allEq (fun x y : Flt.Cl => decide (x = y)) a b) = _
    rw [call_eq a b]
    simp

set_option maxRecDepth 100000 in
theorem ceq_len {A B : Option Addr} {n m c d : Nat} (h : n ≠ m) (w : World) : Calls Tryz.prog 43 #[.slice A n c, .slice B m d] w fun e w' => e = .returned (.bool false) ∧ w' = w := by
  have hn : ¬ (n : Int) = (m : Int) := by omega
  go_enter Tryz.func43, Tryz.ntmps43
  go_wp2_with fail
  go_ret
  exact ⟨rfl, rfl⟩
set_option maxRecDepth 100000 in
theorem ceq_none {A B : Option Addr} {c d : Nat} (w : World) : Calls Tryz.prog 43 #[.slice A 0 c, .slice B 0 d] w fun e w' => e = .returned (.bool true) ∧ w' = w := by
  go_enter Tryz.func43, Tryz.ntmps43
  go_wp2_with fail
  refine wp_loop_rounds 1 ?_
  rw [rounds_succ]
  go_wp2_with fail
  go_ret
  exact ⟨rfl, rfl⟩

set_option maxRecDepth 100000 in
theorem ceq_any {w : World} {F G : Nat → Prop} {u v : Value} {a b : List Flt.Cl} (ha : Cls w F u a) (hb : Cls w G v b) (la : a.length ≤ 100000000) (lb : b.length ≤ 100000000) :
    Calls Tryz.prog 43 #[u, v] w fun e w' => e = .returned (.bool (decide (a = b))) ∧ Below w.heap.size w w' := by
  obtain ⟨A, c, rfl, hc, hat⟩ := ha
  obtain ⟨B, d, rfl, hd, hbt⟩ := hb
  by_cases hl : a.length = b.length
  · by_cases h0 : 0 < a.length
    · obtain ⟨b1, o1, rfl, -, -, hcl1⟩ := hat h0
      obtain ⟨b2, o2, rfl, -, -, hcl2⟩ := hbt (by omega)
      have hcon := AnyQ.slices_Equal Tryz.eqCl 3 Tryz.isAgg39 Tryz.sizeOf39 clV cl_len _ cl_neq b1 o1 a.length c b2 o2 b.length d a b w (Nat.le_refl _) (Nat.le_refl _) (by omega) (by omega)
        (fun j hj i u hi => hcl1 j _ (by rw [List.getElem?_eq_getElem hj, getElem!_pos a j hj]) i u hi) (fun j hj i u hi => hcl2 j _ (by rw [List.getElem?_eq_getElem hj, getElem!_pos b j hj]) i u hi)
      rw [List.take_length, List.take_length, call_eq] at hcon
      refine hcon.mono ?_
      rintro e w' ⟨rfl, q, rfl⟩
      exact ⟨rfl, below_drews' _ q⟩
    · have ea : a = [] := List.eq_nil_of_length_eq_zero (by omega)
      have eb : b = [] := List.eq_nil_of_length_eq_zero (by omega)
      subst ea eb
      refine (ceq_none w).mono ?_
      rintro e w' ⟨rfl, rfl⟩
      exact ⟨rfl, Below.refl _ _⟩
  · have hne : decide (a = b) = false := decide_eq_false (fun e => hl (by rw [e]))
    rw [hne]
    refine (ceq_len hl w).mono ?_
    rintro e w' ⟨rfl, rfl⟩
    exact ⟨rfl, Below.refl _ _⟩

set_option maxRecDepth 100000 in
theorem flt_equal {w : World} {F G : Nat → Prop} {u v : Value} {f g : List Flt.Cl} (hf : Cls w F u f) (hg : Cls w G v g) (lf : f.length ≤ 100000000) (lg : g.length ≤ 100000000) :
    Calls Tryz.prog 31 #[u, v] w fun e w' => e = .returned (.bool (decide (f = g))) ∧ Below w.heap.size w w' := by
  have C := Lib.hid (ceq_any hf hg lf lg)
  clear hf hg
  generalize decide (f = g) = d at *
  go_enter Tryz.func31, Tryz.ntmps31
  go_wp2_with (go_at_call 43; refine (C.out).mono ?_; rintro e w1 ⟨rfl, hb1⟩)
  go_ret
  exact ⟨rfl, hb1⟩
end Go.Proofs.YtajhmgbicliihaaGreatDoor
/- A call's own slice of elements of several cells, as the library's sort speaks of it. No program is spoken of. -/
namespace Go.Proofs.YtajhmgbicliihaaGreatDoor
open Go.RowKit Go.Sort

section
variable {α : Type} [Inhabited α] {enc : α → List Value} {k : Nat}

set_option maxRecDepth 100000 in
theorem flat_list (hk : ∀ x, (enc x).length = k) (h0 : 0 < k) (d : Array α) : (flatK enc k d).toList = d.toList.flatMap enc := by
  apply List.ext_getElem?
  intro j
  by_cases hj : j < d.size * k
  · have hq : j / k < d.size := Nat.div_lt_of_lt_mul (by rwa [Nat.mul_comm])
    have hr : j % k < k := Nat.mod_lt _ h0
    have e := get_flatK enc k d j hj
    have hs : j < (flatK enc k d).size := by rw [size_flatK]; exact hj
    rw [Array.getElem?_toList, Array.getElem?_eq_getElem hs, ← getElem!_pos (flatK enc k d) j hs, e]
    have hx : d.toList[j / k]? = some d[j / k]! := by rw [Array.getElem?_toList, Array.getElem?_eq_getElem hq, getElem!_pos d _ hq]
    have hl : j % k < (enc d[j / k]!).length := by rw [hk]; exact hr
    have hu : (enc d[j / k]!)[j % k]? = some (enc d[j / k]!)[j % k]! := by rw [List.getElem?_eq_getElem hl, getElem!_pos (enc d[j / k]!) _ hl]
    have h1 := rows_at d.toList (fun x _ => hk x) (j / k) _ hx (j % k) _ hu
    rw [← h1]
    congr 1
    exact Nat.div_add_mod' j k
  · have h2 := rows_len d.toList (fun x _ => hk x)
    rw [List.getElem?_eq_none (by simp; omega), List.getElem?_eq_none (by rw [h2]; simp; omega)]

set_option maxRecDepth 100000 in
/-- Down: the row holds the elements. -/
theorem own_holds (hk : ∀ x, (enc x).length = k) (h0 : 0 < k) {w : World} {base t n g cap : Nat} {l : List α} (h : w.ownsRow base t k (.slice (some ⟨g, 0, none⟩) n cap) n (l.flatMap enc)) : HoldsK enc k w g 0 l.toArray := by
  intro j hj
  rw [size_flatK] at hj
  have hl : l.length * k = n * k := by rw [← rows_len l (fun x _ => hk x)]; exact h.1
  have hj2 : j < n * k := by rw [← hl]; simpa using hj
  refine ⟨?_, ?_⟩
  · rw [Nat.zero_add, h.cellAt j hj2]
    have hs : j < (flatK enc k l.toArray).size := by rw [size_flatK]; exact hj
    have e : (flatK enc k l.toArray).toList[j]? = some (flatK enc k l.toArray)[j]! := by rw [Array.getElem?_toList, Array.getElem?_eq_getElem hs, getElem!_pos (flatK enc k l.toArray) j hs]
    rw [flat_list hk h0] at e
    exact e
  · rw [Nat.zero_add]
    exact h.frozenAt j

set_option maxRecDepth 100000 in
theorem heap_sortK {w : World} {g n : Nat} {os : Array Obj} {cur : Array Value} {e : TypeId} {fr : Nat × Nat} (d : Array α) (hb : w.heap[g]? = some (.cells cur e fr)) :
    (Go.Proofs.sortWorldK enc k w g 0 n d os).heap[g]? = some (.cells (putCells id 0 (flatK enc k d) cur) e fr) := by
  have hg : g < w.heap.size := (Array.getElem?_eq_some_iff.1 hb).1
  unfold Go.Proofs.sortWorldK putRowK
  rw [heap_grow_old _ _ (by simpa using hg)]
  simp [putRow, mapBlock, Sort.ahead, Array.getElem?_modify, hb, onCells]

set_option maxRecDepth 100000 in
theorem grown_sortK {w : World} {g n : Nat} {os : Array Obj} (d : Array α) : w.grownBy (Go.Proofs.sortWorldK enc k w g 0 n d os) (some g) := by
  unfold Go.Proofs.sortWorldK putRowK
  refine ⟨rfl, rfl, rfl, by simp, fun j hj hne => ?_⟩
  rw [heap_grow_old _ _ (by simpa using hj)]
  have : g ≠ j := fun e => hne (by rw [e])
  simp [putRow, mapBlock, Sort.ahead, Array.getElem?_modify, this]

set_option maxRecDepth 100000 in
theorem take_put (cur F : Array Value) (h : F.size ≤ cur.size) : (putCells id 0 F cur).toList.take F.size = F.toList := by
  apply List.ext_getElem?
  intro j
  by_cases hj : j < F.size
  · rw [List.getElem?_take_of_lt hj, Array.getElem?_toList]
    simp [putCells, hj, show j < cur.size by omega]
  · rw [List.getElem?_take_eq_none (by omega), List.getElem?_eq_none (by simpa using hj)]

set_option maxRecDepth 100000 in
/-- Up: behind the sort the same slice owns what stands in the row. -/
theorem own_sorted (hk : ∀ x, (enc x).length = k) (h0 : 0 < k) {w : World} {base t n m g cap : Nat} {l : List α} {d : Array α} {os : Array Obj} (h : w.ownsRow base t k (.slice (some ⟨g, 0, none⟩) n cap) n (l.flatMap enc)) (hd : d.size = n) :
    (Go.Proofs.sortWorldK enc k w g 0 m d os).ownsRow base t k (.slice (some ⟨g, 0, none⟩) n cap) n (d.toList.flatMap enc) := by
  refine ⟨by rw [rows_len d.toList (fun x _ => hk x)]; simp [hd], ?_⟩
  rcases h.2 with ⟨e, -⟩ | ⟨g2, cap2, cur, e, hb, hg, hc, hm, hs, ht⟩
  · cases e
  · injection e with e1 e2 e3
    injection e1 with e1
    injection e1 with e1
    subst e1 e3
    refine .inr ⟨g, cap, _, rfl, hb, heap_sortK d hg, hc, hm, by simp [putCells, hs], ?_⟩
    have hf : (flatK enc k d).size = n * k := by rw [size_flatK, hd]
    rw [← hf, take_put cur _ (by rw [hf, hs]; exact Nat.mul_le_mul_right _ hc), flat_list hk h0]

set_option maxRecDepth 100000 in
theorem RowsOwn.sorted (hk : ∀ x, (enc x).length = k) (h0 : 0 < k) {w wr : World} {t m g cap : Nat} {l : List α} {d : Array α} {os : Array Obj} (h : RowsOwn t k enc w l (.slice (some ⟨g, 0, none⟩) l.length cap) wr) (hd : d.size = l.length) :
    RowsOwn t k enc w d.toList (.slice (some ⟨g, 0, none⟩) l.length cap) (Go.Proofs.sortWorldK enc k wr g 0 m d os) := by
  have hg := h.1.lt g rfl
  refine ⟨?_, h.2.grown (grown_sortK d) h.2.size (fun j hj => by injection hj with hj; omega)⟩
  have h1 := own_sorted (m := m) (os := os) hk h0 h.1 hd
  have e : d.toList.length = l.length := by simpa using hd
  rw [e]
  exact h1

set_option maxRecDepth 100000 in
theorem perm_list {l : List α} {d : Array α} (h : PermIn 0 l.toArray.size l.toArray d) : d.toList.Perm l ∧ d.size = l.length := by
  obtain ⟨h1, -, h3⟩ := h
  have hs : d.size = l.length := by simpa using h1
  refine ⟨?_, hs⟩
  have e1 : d.extract 0 l.toArray.size = d := by rw [← h1]; exact Array.extract_size
  have e2 : l.toArray.extract 0 l.toArray.size = l.toArray := Array.extract_size
  rw [e1, e2] at h3
  exact h3
end
end Go.Proofs.YtajhmgbicliihaaGreatDoor
