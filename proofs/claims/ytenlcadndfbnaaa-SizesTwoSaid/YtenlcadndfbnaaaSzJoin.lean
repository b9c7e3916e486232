/- The landed sizes: Join. -/
import Derived.Test.YtenlcadndfbnaaaSzNrm
import Derived.Test.YtenlcadndfbnaaaShelf
import Derived.Shelf.Spec.SlicesGrow
set_option linter.unusedSimpArgs false
set_option linter.unusedVariables false
namespace Go.Proofs.Ytenlcadndfbnaaa
open Go.RowKit Go.Shelf Go.Lib

set_option maxRecDepth 100000 in
/-- Room for so many. -/
theorem sz_grow (n : Nat) (hn : n ≤ 2000000) (w : World) :
    Calls Try.prog 32 #[.slice none 0 0, .int .i64 (n : Int)] w fun e w' => ∃ v, e = .returned v ∧ RowsOwn 29 2 rgV w [] v w' := by
  obtain ⟨i0, hi0, hz0, hz1, hz2⟩ := info_parts rangeInfo
  by_cases h0 : n = 0
  · subst h0
    refine (Any8.slices_Grow_room Try.growRg none 0 0 0 w (Nat.le_refl _) (by omega) (by omega) (by omega)).mono ?_
    rintro e w' ⟨rfl, rfl⟩
    exact ⟨_, rfl, RowsOwn.start _ _ _ _⟩
  · refine (Any8.slices_Grow_grow Try.growRg i0 (.agg #[.int .i64 0, .int .i64 0]) hi0 hz0 (by omega) none 0 0 n [] w (Nat.le_refl _) (by omega) (by rw [hz2]; omega) (by omega) (by simp) (fun _ => rfl) (fun a h => by cases h)).mono ?_
    rintro e w' ⟨rfl, rfl⟩
    refine ⟨_, rfl, ?_, ((Below.refl _ w).drew).alloc (Nat.le_refl _) _⟩
    have hG := grownCap_ge w (0 + n) 0 (Try.growRg_ren.t 25)
    have hM := grownCap_le_maxLen w (0 + n) 0 (Try.growRg_ren.t 25) (by unfold maxLen; omega)
    refine World.ownsRow_made w.drew _ _ (Nat.le_refl _) hM ?_
    have hzc : (Value.agg #[.int .i64 0, .int .i64 0]).cells.size = 2 := rfl
    simp only [Array.size_append, size_zeroCells, hzc, List.size_toArray, List.length_nil]
    omega

set_option maxRecDepth 100000 in
set_option maxHeartbeats 3200000 in
theorem sz_concat {w : World} {F G : Nat → Prop} {u v : Value} {a b : List Sz.Rg} {bk : Nat} (ha : Rgs w F u a) (hb : Rgs w G v b) (la : a.length ≤ 500000) (lb : b.length ≤ 500000) (c0 : w.cell? ⟨bk, 0, none⟩ = some u) (c1 : w.cell? ⟨bk, 1, none⟩ = some v) (hk : bk < w.heap.size) :
    Calls Try.prog 24 #[.slice (some ⟨bk, 0, none⟩) 2 2] w fun e w' => ∃ v', e = .returned v' ∧ RowsOwn 29 2 rgV w (a ++ b) v' w' := by
  obtain ⟨i0, hi0, hz0, hz1, hz2⟩ := info_parts rangeInfo
  obtain ⟨A, c, rfl, hc⟩ := ha.parts
  obtain ⟨B, d, rfl, hd⟩ := hb.parts
  have HA := Lib.hid ha
  have HB := Lib.hid hb
  have la0 : (a.length : Int) ≤ 500000 := by omega
  have lb0 : (b.length : Int) ≤ 500000 := by omega
  have la1 : (0 : Int) ≤ (a.length : Int) := by omega
  have lb1 : (0 : Int) ≤ (b.length : Int) := by omega
  have HG : Hid (∀ W, Calls Try.prog 32 #[.slice none 0 0, .int .i64 ((a.length : Int) + (b.length : Int))] W fun e w' => ∃ v, e = .returned v ∧ RowsOwn 29 2 rgV W [] v w') := Lib.hid (fun W => by
    have := sz_grow (a.length + b.length) (by omega) W
    rwa [Int.natCast_add] at this)
  clear ha hb
  go_enter Try.func24, Try.ntmps24
  go_wp2_with fail
  refine wp_loop_rounds 3 ?_
  rw [rounds_succ]
  go_wp2_with fail
  rw [rounds_succ]
  go_wp2_with fail
  rw [rounds_succ]
  go_wp2_with fail
  refine (HG.out w).mono ?_
  rintro e w1 ⟨v1, rfl, h1⟩
  have hg1 := HA.out.below h1.2
  have hz1' : w.heap.size ≤ w1.heap.size := h1.2.size
  have e0 : w1.cell? ⟨bk, 0, none⟩ = some (.slice A a.length c) := (h1.2.cell (p := ⟨bk, 0, none⟩) hk).trans c0
  have e1 : w1.cell? ⟨bk, 1, none⟩ = some (.slice B b.length d) := (h1.2.cell (p := ⟨bk, 1, none⟩) hk).trans c1
  have H1 := Lib.hid h1
  have own1 := h1.1
  clear h1 c0 c1
  go_wp2_with fail
  refine wp_loop_rounds 3 ?_
  rw [rounds_succ]
  go_wp2_with (at_builtin; refine wp_joins (f := rgV) (k := 2) rfl _ _ 22 rfl w.heap.size 29 i0 (.agg #[.int .i64 0, .int .i64 0]) 16 Try.underlying22 hi0 hz0 hz1 hz2 rfl (by decide) rfl rfl own1 hg1 (fun _ _ => rfl) (fun x _ => rg_one x) ?c3 ?c4 hz1' ?_)
  case c3 => unfold maxLen; first | omega | (simp <;> omega)
  case c4 => first | omega | (simp <;> omega)
  intro v2 w2 j1 j2 j3
  have h2 : RowsOwn 29 2 rgV w a v2 w2 := ⟨by simpa using j1, H1.out.2.grown j2 H1.out.2.size (fun k hk => (H1.out.1.lt k hk).1)⟩
  have hg2 := HB.out.below h2.2
  have hz2' : w.heap.size ≤ w2.heap.size := h2.2.size
  have f1 : w2.cell? ⟨bk, 1, none⟩ = some (.slice B b.length d) := (j2.cell e1 (fun e => by have := (H1.out.1.lt bk e.symm).1; omega))
  have H2 := Lib.hid h2
  have own2 := h2.1
  clear h2 j1 j2 j3 H1 own1 hg1 e0 e1
  go_wp2_with fail
  rw [rounds_succ]
  go_wp2_with (at_builtin; refine wp_joins (f := rgV) (k := 2) rfl _ _ 22 rfl w.heap.size 29 i0 (.agg #[.int .i64 0, .int .i64 0]) 16 Try.underlying22 hi0 hz0 hz1 hz2 rfl (by decide) rfl rfl own2 hg2 (fun _ _ => rfl) (fun x _ => rg_one x) ?c3 ?c4 hz2' ?_)
  case c3 => unfold maxLen; first | omega | (simp <;> omega)
  case c4 => first | omega | (simp <;> omega)
  intro v3 w3 j1 j2 j3
  have h3 : RowsOwn 29 2 rgV w (a ++ b) v3 w3 := ⟨by rw [List.length_append, List.flatMap_append]; exact j1, H2.out.2.grown j2 H2.out.2.size (fun k hk => (H2.out.1.lt k hk).1)⟩
  have H3 := Lib.hid h3
  clear h3 j1 j2 j3 H2 own2 hg2 f1
  go_wp2_with fail
  rw [rounds_succ]
  go_wp2_with fail
  go_ret
  exact ⟨v3, rfl, H3.out⟩

set_option maxRecDepth 100000 in
theorem sz_join {w : World} {F G : Nat → Prop} {u v : Value} {a b : List Sz.Rg} (ha : Rgs w F u a) (hb : Rgs w G v b) (la : a.length ≤ 500000) (lb : b.length ≤ 500000) :
    Calls Try.prog 15 #[u, v] w fun e w' => ∃ v', e = .returned v' ∧ RowsOwn 29 2 rgV w (Sz.two 0 a b) v' w' := by
  obtain ⟨A, c, rfl, hc⟩ := ha.parts
  obtain ⟨B, d, rfl, hd⟩ := hb.parts
  have hb0 : Below w.heap.size w (w.alloc (.cells #[.slice A a.length c, .slice B b.length d] 22)) := (Below.refl _ _).alloc (Nat.le_refl _) _
  have hrow := Row.made w 22 #[.slice A a.length c, .slice B b.length d]
  have HC := Lib.hid (sz_concat (ha.below hb0) (hb.below hb0) la lb (hrow.at 0) (hrow.at 1) (by simp))
  have Hb0 := Lib.hid hb0
  have hfin : Hid (∀ w1 v1, RowsOwn 29 2 rgV (w.alloc (.cells #[.slice A a.length c, .slice B b.length d] 22)) (a ++ b) v1 w1 → Calls Try.prog 7 #[v1] w1 fun e w' => ∃ v', e = .returned v' ∧ RowsOwn 29 2 rgV w (Sz.two 0 a b) v' w') := Lib.hid (by
    intro w1 v1 h1
    refine (sz_norm (h1.rows (fun _ _ => rfl)) (by rw [List.length_append]; omega)).mono ?_
    rintro e w' ⟨v', rfl, h2⟩
    rw [Sz.join_is] at h2
    exact ⟨v', rfl, (h2.since h1.2).since Hb0.out⟩)
  clear ha hb hb0 hrow
  go_enter Try.func15, Try.ntmps15
  go_wp2_with fail
  refine (HC.out).mono ?_
  rintro e w1 ⟨v1, rfl, h1⟩
  have HN := Lib.hid (hfin.out w1 v1 h1)
  clear h1
  go_wp2_with fail
  refine (HN.out).mono ?_
  rintro e w2 ⟨v2, rfl, h2⟩
  have H2 := Lib.hid h2
  clear h2
  go_wp2_with fail
  go_ret
  exact ⟨v2, rfl, H2.out⟩
end Go.Proofs.Ytenlcadndfbnaaa
