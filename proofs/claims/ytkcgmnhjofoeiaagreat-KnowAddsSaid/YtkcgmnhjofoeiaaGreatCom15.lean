import Derived.Test.YtkcgmnhjofoeiaaGreatCom10
import Derived.Test.YtkcgmnhjofoeiaaGreatCom14
import Derived.Test.YtkcgmnhjofoeiaaGreatCom3
import Derived.Test.YtkcgmnhjofoeiaaGreatCom13
import Derived.Test.YtkcgmnhjofoeiaaGreatCom6
import Derived.Test.YtkcgmnhjofoeiaaGreatCom9
import Derived.Shelf.Spec.SlicesGrow
import Derived.Shelf.GgSortFunc.InsertionK
import Derived.Shelf.SlSortCmp.NoneTotal
import Derived.Great.Walk
set_option maxRecDepth 100000
set_option linter.all false
set_option maxHeartbeats 12800000
namespace Go.Proofs.YtkcgmnhjofoeiaaGreat
open Go.RowKit Go.Shelf Go.Lib
theorem fr_clone {w : World} {F : Nat → Prop} {v : Value} {l : List RFr} (h : Rws 67 rfV w F v l) (hk : ∀ x ∈ l, (rfV x).length = 67) (h1 : ∀ x ∈ l, ∀ u ∈ rfV x, u.oneCell' = true) (hl : l.length ≤ 100000) :
  Calls Tryz.prog 46 #[v] w fun e w' => ∃ v', e = .returned v' ∧ RowsOwn 31 67 rfV w l v' w' := by
 obtain ⟨i0, hi0, hz0, hz1, hz2⟩ := ver_parts frInfo
 have hb0 : Below w.heap.size w (w.alloc (.cells #[] 31)) := (Below.refl _ _).alloc (Nat.le_refl _) _
 have hr := h.below hb0
 have h0own : (w.alloc (.cells #[] 31)).ownsRow w.heap.size 31 67 (.slice (some ⟨w.heap.size, 0, none⟩) 0 0) 0 [] := World.ownsRow_made w #[] 0 (Nat.le_refl _) (by decide) rfl
 obtain ⟨A, cap, rfl, hcap, hat⟩ := h
 have q22 : ∀ (w : World) (a : Option Addr) (n c n' c' : Nat), (binOp .eql 22 (.slice a n c) (.slice none n' c')).run Tryz.prog w = .ok (.bool a.isNone) w := fun w a n c n' c' => Lib.run_eql_slice_nil w _ _ a n c n' c' Tryz.underlying22
 have HK := Lib.hid hk
 have H1 := Lib.hid h1
 clear hk h1
 cases A with
 | none =>
  have h0 : l.length = 0 := Nat.eq_zero_of_not_pos (fun hp => by obtain ⟨b, o, e, -⟩ := hat hp; cases e)
  have hf : l = [] := List.eq_nil_of_length_eq_zero h0
  subst hf
  clear hr hat
  go_enter Tryz.func46, Tryz.ntmps46
  go_wp2_with fail
  go_ret
  exact ⟨_, rfl, RowsOwn.start _ _ _ w⟩
 | some ad =>
  clear hat
  go_enter Tryz.func46, Tryz.ntmps46
  go_wp2_with (at_builtin; refine wp_joins (f := rfV) (k := 67) rfl _ _ 22 rfl w.heap.size 31 i0 (frA frZ) 568 Tryz.underlying22 hi0 hz0 hz1 hz2 frZ_size (by decide) rfl rfl h0own hr HK.out H1.out ?a1 ?a2 ?a3 ?_)
  case a1 => unfold maxLen; omega
  case a2 => omega
  case a3 => simp
  intro v2 w2 own2 hg2 _
  have F2 := Lib.hid (RowsOwn.front (l := l) (f := rfV) (k := 67) (t := 31) hg2 (by rw [Nat.zero_add, List.nil_append]; exact own2))
  clear own2 hg2 hr h0own
  go_wp2_with fail
  go_ret
  exact ⟨_, rfl, F2.out⟩
theorem fr_grow (n : Nat) (hn : n ≤ 200000) (w : World) :
  Calls Tryz.prog 71 #[.slice none 0 0, .int .i64 (n : Int)] w fun e w' => ∃ v, e = .returned v ∧ RowsOwn 31 67 rfV w [] v w' := by
 obtain ⟨i0, hi0, hz0, hz1, hz2⟩ := ver_parts frInfo
 by_cases h0 : n = 0
 ·subst h0
  refine (Any8.slices_Grow_room Tryz.growFr none 0 0 0 w (Nat.le_refl _) (by omega) (by omega) (by omega)).mono ?_
  rintro e w' ⟨rfl, rfl⟩
  exact ⟨_, rfl, RowsOwn.start _ _ _ _⟩
 ·refine (Any8.slices_Grow_grow Tryz.growFr i0 (frA frZ) hi0 hz0 (by omega) none 0 0 n [] w (Nat.le_refl _) (by omega) (by rw [hz2]; omega) (by omega) (by simp) (fun _ => rfl) (fun a h => by cases h)).mono ?_
  rintro e w' ⟨rfl, rfl⟩
  refine ⟨_, rfl, ?_, ((Below.refl _ w).drew).alloc (Nat.le_refl _) _⟩
  have hG := grownCap_ge w (0 + n) 0 (Tryz.growFr_ren.t 25)
  have hM := grownCap_le_maxLen w (0 + n) 0 (Tryz.growFr_ren.t 25) (by unfold maxLen; omega)
  refine World.ownsRow_made w.drew _ _ (Nat.le_refl _) hM ?_
  have hzc : (frA frZ).cells.size = 67 := frZ_size
  simp only [Array.size_append, size_zeroCells, hzc, List.size_toArray, List.length_nil]
  omega
theorem fr_concat {w : World} {F G : Nat → Prop} {u v : Value} {a b : List RFr} {bk : Nat} (ha : Rws 67 rfV w F u a) (hb : Rws 67 rfV w G v b) (ka : ∀ x ∈ a, (rfV x).length = 67) (kb : ∀ x ∈ b, (rfV x).length = 67) (oa : ∀ x ∈ a, ∀ u ∈ rfV x, u.oneCell' = true) (ob : ∀ x ∈ b, ∀ u ∈ rfV x, u.oneCell' = true) (la : a.length ≤ 100000) (lb : b.length ≤ 100000) (c0 : w.cell? ⟨bk, 0, none⟩ = some u) (c1 : w.cell? ⟨bk, 1, none⟩ = some v) (hk : bk < w.heap.size) :
  Calls Tryz.prog 39 #[.slice (some ⟨bk, 0, none⟩) 2 2] w fun e w' => ∃ v', e = .returned v' ∧ RowsOwn 31 67 rfV w (a ++ b) v' w' := by
 obtain ⟨i0, hi0, hz0, hz1, hz2⟩ := ver_parts frInfo
 obtain ⟨A, c, rfl, hc⟩ := ha.parts
 obtain ⟨B, d, rfl, hd⟩ := hb.parts
 have HA := Lib.hid ha
 have HB := Lib.hid hb
 have KA := Lib.hid ka
 have KB := Lib.hid kb
 have OA := Lib.hid oa
 have OB := Lib.hid ob
 have la0 : (a.length : Int) ≤ 100000 := by omega
 have lb0 : (b.length : Int) ≤ 100000 := by omega
 have la1 : (0 : Int) ≤ (a.length : Int) := by omega
 have lb1 : (0 : Int) ≤ (b.length : Int) := by omega
 have HG : Hid (∀ W, Calls Tryz.prog 71 #[.slice none 0 0, .int .i64 ((a.length : Int) + (b.length : Int))] W fun e w' => ∃ v, e = .returned v ∧ RowsOwn 31 67 rfV W [] v w') := Lib.hid (fun W => by
  have := fr_grow (a.length + b.length) (by omega) W
  rwa [Int.natCast_add] at this)
 clear ha hb ka kb oa ob
 go_enter Tryz.func39, Tryz.ntmps39
 go_wp2_with fail
 refine wp_loop_rounds 3 ?_
 rw [rounds_succ]
 go_wp2_with fail
 rw [rounds_succ]
 go_wp2_with fail
 rw [rounds_succ]
 go_wp2_with fail
 refine (HG.out w).mono ?_
 rintro e w1 ⟨v1, rfl, h1⟩
 have hg1 := HA.out.below h1.2
 have hz1' : w.heap.size ≤ w1.heap.size := h1.2.size
 have e0 : w1.cell? ⟨bk, 0, none⟩ = some (.slice A a.length c) := (h1.2.cell (p := ⟨bk, 0, none⟩) hk).trans c0
 have e1 : w1.cell? ⟨bk, 1, none⟩ = some (.slice B b.length d) := (h1.2.cell (p := ⟨bk, 1, none⟩) hk).trans c1
 have H1 := Lib.hid h1
 have own1 := h1.1
 clear h1 c0 c1
 go_wp2_with fail
 refine wp_loop_rounds 3 ?_
 rw [rounds_succ]
 go_wp2_with (at_builtin; refine wp_joins (f := rfV) (k := 67) rfl _ _ 22 rfl w.heap.size 31 i0 (frA frZ) 568 Tryz.underlying22 hi0 hz0 hz1 hz2 frZ_size (by decide) rfl rfl own1 hg1 KA.out OA.out ?c3 ?c4 hz1' ?_)
 case c3 => unfold maxLen; first | omega | (simp <;> omega)
 case c4 => first | omega | (simp <;> omega)
 intro v2 w2 j1 j2 j3
 have h2 : RowsOwn 31 67 rfV w a v2 w2 := ⟨by simpa using j1, H1.out.2.grown j2 H1.out.2.size (fun k hk => (H1.out.1.lt k hk).1)⟩
 have hg2 := HB.out.below h2.2
 have hz2' : w.heap.size ≤ w2.heap.size := h2.2.size
 have f1 : w2.cell? ⟨bk, 1, none⟩ = some (.slice B b.length d) := (j2.cell e1 (fun e => by have := (H1.out.1.lt bk e.symm).1; omega))
 have H2 := Lib.hid h2
 have own2 := h2.1
 clear h2 j1 j2 j3 H1 own1 hg1 e0 e1
 go_wp2_with fail
 rw [rounds_succ]
 go_wp2_with (at_builtin; refine wp_joins (f := rfV) (k := 67) rfl _ _ 22 rfl w.heap.size 31 i0 (frA frZ) 568 Tryz.underlying22 hi0 hz0 hz1 hz2 frZ_size (by decide) rfl rfl own2 hg2 KB.out OB.out ?c3 ?c4 hz2' ?_)
 case c3 => unfold maxLen; first | omega | (simp <;> omega)
 case c4 => first | omega | (simp <;> omega)
 intro v3 w3 j1 j2 j3
 have h3 : RowsOwn 31 67 rfV w (a ++ b) v3 w3 := ⟨by rw [List.length_append, List.flatMap_append]; exact j1, H2.out.2.grown j2 H2.out.2.size (fun k hk => (H2.out.1.lt k hk).1)⟩
 have H3 := Lib.hid h3
 clear h3 j1 j2 j3 H2 own2 hg2 f1
 go_wp2_with fail
 rw [rounds_succ]
 go_wp2_with fail
 go_ret
 exact ⟨v3, rfl, H3.out⟩
theorem it_clone {w : World} {F : Nat → Prop} {v : Value} {l : List Know.It} (h : Rws 67 itV w F v l) (hk : ∀ x ∈ l, (itV x).length = 67) (h1 : ∀ x ∈ l, ∀ u ∈ itV x, u.oneCell' = true) (hl : l.length ≤ 100000) :
  Calls Tryz.prog 53 #[v] w fun e w' => ∃ v', e = .returned v' ∧ RowsOwn 45 67 itV w l v' w' := by
 obtain ⟨i0, hi0, hz0, hz1, hz2⟩ := ver_parts itInfo
 have hb0 : Below w.heap.size w (w.alloc (.cells #[] 45)) := (Below.refl _ _).alloc (Nat.le_refl _) _
 have hr := h.below hb0
 have h0own : (w.alloc (.cells #[] 45)).ownsRow w.heap.size 45 67 (.slice (some ⟨w.heap.size, 0, none⟩) 0 0) 0 [] := World.ownsRow_made w #[] 0 (Nat.le_refl _) (by decide) rfl
 obtain ⟨A, cap, rfl, hcap, hat⟩ := h
 have q22 : ∀ (w : World) (a : Option Addr) (n c n' c' : Nat), (binOp .eql 23 (.slice a n c) (.slice none n' c')).run Tryz.prog w = .ok (.bool a.isNone) w := fun w a n c n' c' => Lib.run_eql_slice_nil w _ _ a n c n' c' Tryz.underlying23
 have HK := Lib.hid hk
 have H1 := Lib.hid h1
 clear hk h1
 cases A with
 | none =>
  have h0 : l.length = 0 := Nat.eq_zero_of_not_pos (fun hp => by obtain ⟨b, o, e, -⟩ := hat hp; cases e)
  have hf : l = [] := List.eq_nil_of_length_eq_zero h0
  subst hf
  clear hr hat
  go_enter Tryz.func53, Tryz.ntmps53
  go_wp2_with fail
  go_ret
  exact ⟨_, rfl, RowsOwn.start _ _ _ w⟩
 | some ad =>
  clear hat
  go_enter Tryz.func53, Tryz.ntmps53
  go_wp2_with (at_builtin; refine wp_joins (f := itV) (k := 67) rfl _ _ 23 rfl w.heap.size 45 i0 (itA itZ) 536 Tryz.underlying23 hi0 hz0 hz1 hz2 itZ_size (by decide) rfl rfl h0own hr HK.out H1.out ?a1 ?a2 ?a3 ?_)
  case a1 => unfold maxLen; omega
  case a2 => omega
  case a3 => simp
  intro v2 w2 own2 hg2 _
  have F2 := Lib.hid (RowsOwn.front (l := l) (f := itV) (k := 67) (t := 45) hg2 (by rw [Nat.zero_add, List.nil_append]; exact own2))
  clear own2 hg2 hr h0own
  go_wp2_with fail
  go_ret
  exact ⟨_, rfl, F2.out⟩
theorem it_grow (n : Nat) (hn : n ≤ 200000) (w : World) :
  Calls Tryz.prog 72 #[.slice none 0 0, .int .i64 (n : Int)] w fun e w' => ∃ v, e = .returned v ∧ RowsOwn 45 67 itV w [] v w' := by
 obtain ⟨i0, hi0, hz0, hz1, hz2⟩ := ver_parts itInfo
 by_cases h0 : n = 0
 ·subst h0
  refine (Any8.slices_Grow_room Tryz.growKn none 0 0 0 w (Nat.le_refl _) (by omega) (by omega) (by omega)).mono ?_
  rintro e w' ⟨rfl, rfl⟩
  exact ⟨_, rfl, RowsOwn.start _ _ _ _⟩
 ·refine (Any8.slices_Grow_grow Tryz.growKn i0 (itA itZ) hi0 hz0 (by omega) none 0 0 n [] w (Nat.le_refl _) (by omega) (by rw [hz2]; omega) (by omega) (by simp) (fun _ => rfl) (fun a h => by cases h)).mono ?_
  rintro e w' ⟨rfl, rfl⟩
  refine ⟨_, rfl, ?_, ((Below.refl _ w).drew).alloc (Nat.le_refl _) _⟩
  have hG := grownCap_ge w (0 + n) 0 (Tryz.growKn_ren.t 25)
  have hM := grownCap_le_maxLen w (0 + n) 0 (Tryz.growKn_ren.t 25) (by unfold maxLen; omega)
  refine World.ownsRow_made w.drew _ _ (Nat.le_refl _) hM ?_
  have hzc : (itA itZ).cells.size = 67 := itZ_size
  simp only [Array.size_append, size_zeroCells, hzc, List.size_toArray, List.length_nil]
  omega
theorem it_concat {w : World} {F G : Nat → Prop} {u v : Value} {a b : List Know.It} {bk : Nat} (ha : Rws 67 itV w F u a) (hb : Rws 67 itV w G v b) (ka : ∀ x ∈ a, (itV x).length = 67) (kb : ∀ x ∈ b, (itV x).length = 67) (oa : ∀ x ∈ a, ∀ u ∈ itV x, u.oneCell' = true) (ob : ∀ x ∈ b, ∀ u ∈ itV x, u.oneCell' = true) (la : a.length ≤ 100000) (lb : b.length ≤ 100000) (c0 : w.cell? ⟨bk, 0, none⟩ = some u) (c1 : w.cell? ⟨bk, 1, none⟩ = some v) (hk : bk < w.heap.size) :
  Calls Tryz.prog 40 #[.slice (some ⟨bk, 0, none⟩) 2 2] w fun e w' => ∃ v', e = .returned v' ∧ RowsOwn 45 67 itV w (a ++ b) v' w' := by
 obtain ⟨i0, hi0, hz0, hz1, hz2⟩ := ver_parts itInfo
 obtain ⟨A, c, rfl, hc⟩ := ha.parts
 obtain ⟨B, d, rfl, hd⟩ := hb.parts
 have HA := Lib.hid ha
 have HB := Lib.hid hb
 have KA := Lib.hid ka
 have KB := Lib.hid kb
 have OA := Lib.hid oa
 have OB := Lib.hid ob
 have la0 : (a.length : Int) ≤ 100000 := by omega
 have lb0 : (b.length : Int) ≤ 100000 := by omega
 have la1 : (0 : Int) ≤ (a.length : Int) := by omega
 have lb1 : (0 : Int) ≤ (b.length : Int) := by omega
 have HG : Hid (∀ W, Calls Tryz.prog 72 #[.slice none 0 0, .int .i64 ((a.length : Int) + (b.length : Int))] W fun e w' => ∃ v, e = .returned v ∧ RowsOwn 45 67 itV W [] v w') := Lib.hid (fun W => by
  have := it_grow (a.length + b.length) (by omega) W
  rwa [Int.natCast_add] at this)
 clear ha hb ka kb oa ob
 go_enter Tryz.func40, Tryz.ntmps40
 go_wp2_with fail
 refine wp_loop_rounds 3 ?_
 rw [rounds_succ]
 go_wp2_with fail
 rw [rounds_succ]
 go_wp2_with fail
 rw [rounds_succ]
 go_wp2_with fail
 refine (HG.out w).mono ?_
 rintro e w1 ⟨v1, rfl, h1⟩
 have hg1 := HA.out.below h1.2
 have hz1' : w.heap.size ≤ w1.heap.size := h1.2.size
 have e0 : w1.cell? ⟨bk, 0, none⟩ = some (.slice A a.length c) := (h1.2.cell (p := ⟨bk, 0, none⟩) hk).trans c0
 have e1 : w1.cell? ⟨bk, 1, none⟩ = some (.slice B b.length d) := (h1.2.cell (p := ⟨bk, 1, none⟩) hk).trans c1
 have H1 := Lib.hid h1
 have own1 := h1.1
 clear h1 c0 c1
 go_wp2_with fail
 refine wp_loop_rounds 3 ?_
 rw [rounds_succ]
 go_wp2_with (at_builtin; refine wp_joins (f := itV) (k := 67) rfl _ _ 23 rfl w.heap.size 45 i0 (itA itZ) 536 Tryz.underlying23 hi0 hz0 hz1 hz2 itZ_size (by decide) rfl rfl own1 hg1 KA.out OA.out ?c3 ?c4 hz1' ?_)
 case c3 => unfold maxLen; first | omega | (simp <;> omega)
 case c4 => first | omega | (simp <;> omega)
 intro v2 w2 j1 j2 j3
 have h2 : RowsOwn 45 67 itV w a v2 w2 := ⟨by simpa using j1, H1.out.2.grown j2 H1.out.2.size (fun k hk => (H1.out.1.lt k hk).1)⟩
 have hg2 := HB.out.below h2.2
 have hz2' : w.heap.size ≤ w2.heap.size := h2.2.size
 have f1 : w2.cell? ⟨bk, 1, none⟩ = some (.slice B b.length d) := (j2.cell e1 (fun e => by have := (H1.out.1.lt bk e.symm).1; omega))
 have H2 := Lib.hid h2
 have own2 := h2.1
 clear h2 j1 j2 j3 H1 own1 hg1 e0 e1
 go_wp2_with fail
 rw [rounds_succ]
 go_wp2_with (at_builtin; refine wp_joins (f := itV) (k := 67) rfl _ _ 23 rfl w.heap.size 45 i0 (itA itZ) 536 Tryz.underlying23 hi0 hz0 hz1 hz2 itZ_size (by decide) rfl rfl own2 hg2 KB.out OB.out ?c3 ?c4 hz2' ?_)
 case c3 => unfold maxLen; first | omega | (simp <;> omega)
 case c4 => first | omega | (simp <;> omega)
 intro v3 w3 j1 j2 j3
 have h3 : RowsOwn 45 67 itV w (a ++ b) v3 w3 := ⟨by rw [List.length_append, List.flatMap_append]; exact j1, H2.out.2.grown j2 H2.out.2.size (fun k hk => (H2.out.1.lt k hk).1)⟩
 have H3 := Lib.hid h3
 clear h3 j1 j2 j3 H2 own2 hg2 f1
 go_wp2_with fail
 rw [rounds_succ]
 go_wp2_with fail
 go_ret
 exact ⟨v3, rfl, H3.out⟩
open Go.RowKit Go.Sort
section
variable {α : Type} [Inhabited α] {enc : α → List Value} {k : Nat}
theorem flat_list (hk : ∀ x, (enc x).length = k) (h0 : 0 < k) (d : Array α) : (flatK enc k d).toList = d.toList.flatMap enc := by
 apply List.ext_getElem?
 intro j
 by_cases hj : j < d.size * k
 ·have hq : j / k < d.size := Nat.div_lt_of_lt_mul (by rwa [Nat.mul_comm])
  have hr : j % k < k := Nat.mod_lt _ h0
  have e := get_flatK enc k d j hj
  have hs : j < (flatK enc k d).size := by rw [size_flatK]; exact hj
  rw [Array.getElem?_toList, Array.getElem?_eq_getElem hs, ← getElem!_pos (flatK enc k d) j hs, e]
  have hx : d.toList[j / k]? = some d[j / k]! := by rw [Array.getElem?_toList, Array.getElem?_eq_getElem hq, getElem!_pos d _ hq]
  have hl : j % k < (enc d[j / k]!).length := by rw [hk]; exact hr
  have hu : (enc d[j / k]!)[j % k]? = some (enc d[j / k]!)[j % k]! := by rw [List.getElem?_eq_getElem hl, getElem!_pos (enc d[j / k]!) _ hl]
  have h1 := rows_at d.toList (fun x _ => hk x) (j / k) _ hx (j % k) _ hu
  rw [← h1]
  congr 1
  exact Nat.div_add_mod' j k
 ·have h2 := rows_len d.toList (fun x _ => hk x)
  rw [List.getElem?_eq_none (by simp; omega), List.getElem?_eq_none (by rw [h2]; simp; omega)]
theorem own_holds (hk : ∀ x, (enc x).length = k) (h0 : 0 < k) {w : World} {base t n g cap : Nat} {l : List α} (h : w.ownsRow base t k (.slice (some ⟨g, 0, none⟩) n cap) n (l.flatMap enc)) : HoldsK enc k w g 0 l.toArray := by
 intro j hj
 rw [size_flatK] at hj
 have hl : l.length * k = n * k := by rw [← rows_len l (fun x _ => hk x)]; exact h.1
 have hj2 : j < n * k := by rw [← hl]; simpa using hj
 refine ⟨?_, ?_⟩
 ·rw [Nat.zero_add, h.cellAt j hj2]
  have hs : j < (flatK enc k l.toArray).size := by rw [size_flatK]; exact hj
  have e : (flatK enc k l.toArray).toList[j]? = some (flatK enc k l.toArray)[j]! := by rw [Array.getElem?_toList, Array.getElem?_eq_getElem hs, getElem!_pos (flatK enc k l.toArray) j hs]
  rw [flat_list hk h0] at e
  exact e
 ·rw [Nat.zero_add]
  exact h.frozenAt j
theorem heap_sortK {w : World} {g n : Nat} {os : Array Obj} {cur : Array Value} {e : TypeId} {fr : Nat × Nat} (d : Array α) (hb : w.heap[g]? = some (.cells cur e fr)) :
  (Go.Proofs.sortWorldK enc k w g 0 n d os).heap[g]? = some (.cells (putCells id 0 (flatK enc k d) cur) e fr) := by
 have hg : g < w.heap.size := (Array.getElem?_eq_some_iff.1 hb).1
 unfold Go.Proofs.sortWorldK putRowK
 rw [heap_grow_old _ _ (by simpa using hg)]
 simp [putRow, mapBlock, Sort.ahead, Array.getElem?_modify, hb, onCells]
theorem grown_sortK {w : World} {g n : Nat} {os : Array Obj} (d : Array α) : w.grownBy (Go.Proofs.sortWorldK enc k w g 0 n d os) (some g) := by
 unfold Go.Proofs.sortWorldK putRowK
 refine ⟨rfl, rfl, rfl, by simp, fun j hj hne => ?_⟩
 rw [heap_grow_old _ _ (by simpa using hj)]
 have : g ≠ j := fun e => hne (by rw [e])
 simp [putRow, mapBlock, Sort.ahead, Array.getElem?_modify, this]
theorem take_put (cur F : Array Value) (h : F.size ≤ cur.size) : (putCells id 0 F cur).toList.take F.size = F.toList := by
 apply List.ext_getElem?
 intro j
 by_cases hj : j < F.size
 ·rw [List.getElem?_take_of_lt hj, Array.getElem?_toList]
  simp [putCells, hj, show j < cur.size by omega]
 ·rw [List.getElem?_take_eq_none (by omega), List.getElem?_eq_none (by simpa using hj)]
theorem own_sorted (hk : ∀ x, (enc x).length = k) (h0 : 0 < k) {w : World} {base t n m g cap : Nat} {l : List α} {d : Array α} {os : Array Obj} (h : w.ownsRow base t k (.slice (some ⟨g, 0, none⟩) n cap) n (l.flatMap enc)) (hd : d.size = n) :
  (Go.Proofs.sortWorldK enc k w g 0 m d os).ownsRow base t k (.slice (some ⟨g, 0, none⟩) n cap) n (d.toList.flatMap enc) := by
 refine ⟨by rw [rows_len d.toList (fun x _ => hk x)]; simp [hd], ?_⟩
 rcases h.2 with ⟨e, -⟩ | ⟨g2, cap2, cur, e, hb, hg, hc, hm, hs, ht⟩
 ·cases e
 ·injection e with e1 e2 e3
  injection e1 with e1
  injection e1 with e1
  subst e1 e3
  refine .inr ⟨g, cap, _, rfl, hb, heap_sortK d hg, hc, hm, by simp [putCells, hs], ?_⟩
  have hf : (flatK enc k d).size = n * k := by rw [size_flatK, hd]
  rw [← hf, take_put cur _ (by rw [hf, hs]; exact Nat.mul_le_mul_right _ hc), flat_list hk h0]
theorem RowsOwn.sorted (hk : ∀ x, (enc x).length = k) (h0 : 0 < k) {w wr : World} {t m g cap : Nat} {l : List α} {d : Array α} {os : Array Obj} (h : RowsOwn t k enc w l (.slice (some ⟨g, 0, none⟩) l.length cap) wr) (hd : d.size = l.length) :
  RowsOwn t k enc w d.toList (.slice (some ⟨g, 0, none⟩) l.length cap) (Go.Proofs.sortWorldK enc k wr g 0 m d os) := by
 have hg := h.1.lt g rfl
 refine ⟨?_, h.2.grown (grown_sortK d) h.2.size (fun j hj => by injection hj with hj; omega)⟩
 have h1 := own_sorted (m := m) (os := os) hk h0 h.1 hd
 have e : d.toList.length = l.length := by simpa using hd
 rw [e]
 exact h1
theorem perm_list {l : List α} {d : Array α} (h : PermIn 0 l.toArray.size l.toArray d) : d.toList.Perm l ∧ d.size = l.length := by
 obtain ⟨h1, -, h3⟩ := h
 have hs : d.size = l.length := by simpa using h1
 refine ⟨?_, hs⟩
 have e1 : d.extract 0 l.toArray.size = d := by rw [← h1]; exact Array.extract_size
 have e2 : l.toArray.extract 0 l.toArray.size = l.toArray := Array.extract_size
 rw [e1, e2] at h3
 exact h3
end
open Go.RowKit Go.Shelf Go.Lib Go.Sort
instance Know.decV : ∀ a b : List Int, Decidable (Know.vlt a b)
 | [], _ => isFalse (fun h => h)
 | _ :: _, [] => isFalse (fun h => h)
 | a :: l, b :: m => by
  have := Know.decV l m
  exact inferInstanceAs (Decidable (b < a ∨ (a = b ∧ Know.vlt l m)))
instance Know.decN : ∀ a b : List Ver.V, Decidable (Know.nlt a b)
 | [], [] => isFalse (fun h => h)
 | _ :: _, [] => isFalse (fun h => h)
 | [], _ :: _ => isTrue trivial
 | a :: l, b :: m => by
  have := Know.decN l m
  exact inferInstanceAs (Decidable (Ver.Before a b ∨ (a = b ∧ Know.nlt l m)))
instance Know.decF (x y : Know.Fr) : Decidable (Know.FLt x y) := inferInstanceAs (Decidable (_ ∨ (_ ∧ _)))
abbrev FrS (w : World) (v : Value) := {r : RFr // r.In w (Off v) ∧ r.x.no.length ≤ 100000}
def frC (w : World) (v : Value) (a b : FrS w v) : Int := Know.order a.1.x b.1.x
theorem frC_lt (w : World) (v : Value) (a b : FrS w v) : ltOf (frC w v) a b = decide (Know.FLt a.1.x b.1.x) := by
 have h := (Know.order_spec (x := a.1.x) (y := b.1.x) (by rw [a.2.1.len, b.2.1.len])).1
 unfold ltOf frC
 rw [Bool.eq_iff_iff, decide_eq_true_iff, decide_eq_true_iff]
 exact h
theorem swo_frC (w : World) (v : Value) : SWO (ltOf (frC w v)) where
 irrefl a := by rw [frC_lt]; exact decide_eq_false (Know.flt_irrefl _)
 trans a b c h k := by
  rw [frC_lt] at *
  exact decide_eq_true (Know.flt_trans (of_decide_eq_true h) (of_decide_eq_true k))
 ntrans a b c h k := by
  rw [frC_lt] at *
  have h := of_decide_eq_false h
  have k := of_decide_eq_false k
  refine decide_eq_false (fun hac => ?_)
  by_cases hab : Know.Keyd a.1.x b.1.x
  ·exact k ((Know.flt_key hab ⟨rfl, rfl⟩).1 hac)
  ·rcases Know.flt_or (by rw [a.2.1.len, b.2.1.len]) hab with q | q
   ·exact h q
   ·exact k (Know.flt_trans q hac)
theorem flat_sub {α : Type} (f : α → List Value) {p : α → Prop} : ∀ (l : List α) (h : ∀ x ∈ l, p x), (l.attachWith p h).flatMap (fun x => f x.1) = l.flatMap f
 | [], _ => rfl
 | x :: l, h => by
  rw [List.attachWith_cons, List.flatMap_cons, List.flatMap_cons, flat_sub f l (fun y hy => h y (List.mem_cons_of_mem _ hy))]
theorem map_sub {α : Type} {p : α → Prop} : ∀ (l : List α) (h : ∀ x ∈ l, p x), (l.attachWith p h).map (·.1) = l
 | [], _ => rfl
 | x :: l, h => by
  rw [List.attachWith_cons, List.map_cons, map_sub l (fun y hy => h y (List.mem_cons_of_mem _ hy))]
theorem know_sortfn {w wr : World} {v : Value} {rs : List RFr} (h : FOwn w rs v wr) (hl : rs.length ≤ 100000) (hn : ∀ r ∈ rs, r.x.no.length ≤ 100000) :
  Calls Tryz.prog 115 #[v, .func (.func 44) #[] #[]] wr fun e w' => e = .returned (.tuple #[]) ∧ ∃ ss : List RFr, FOwn w ss v w' ∧ ss.Perm rs ∧ Know.Sorted (ss.map (·.x)) := by
 rcases Nat.eq_zero_or_pos rs.length with h0 | h0
 ·have hl0 : rs = [] := List.eq_nil_of_length_eq_zero h0
  subst hl0
  obtain ⟨A, cap, rfl, -⟩ := h.rws.parts
  refine (AnyF.slices_SortFunc_none (P := Tryz.prog) (ρ := Tryz.sortFr_ren) { Tryz.sortFr with } A cap _ wr).mono ?_
  rintro e w' ⟨rfl, rfl⟩
  exact ⟨rfl, [], h, List.Perm.refl _, List.Pairwise.nil⟩
 ·obtain ⟨g, cap, rfl, hg0, hgl⟩ := h.own.1.form (by omega)
  have eg : ∀ args w, (callFunc 44 args).run Tryz.prog w = .ok (.enter 44 args) w := enters_of Tryz.func44 (by kernel_rfl) rfl
  have hp : ∀ r ∈ rs, r.In wr (Off (.slice (some ⟨g, 0, none⟩) rs.length cap)) ∧ r.x.no.length ≤ 100000 := fun r hr => ⟨h.ins r hr, hn r hr⟩
  have hal : (rs.attachWith _ hp).length = rs.length := List.length_attachWith
  obtain ⟨z, hz⟩ : ∃ z, z ∈ rs := ⟨rs[0], List.getElem_mem _⟩
  have hin : Inhabited (FrS wr (.slice (some ⟨g, 0, none⟩) rs.length cap)) := ⟨⟨z, hp z hz⟩⟩
  have hk : ∀ x : FrS wr (.slice (some ⟨g, 0, none⟩) rs.length cap), (rfV x.1).length = 67 := fun x => rf_len x.2.1.len
  have hrow : RowsOwn 31 67 (fun x : FrS wr (.slice (some ⟨g, 0, none⟩) rs.length cap) => rfV x.1) w (rs.attachWith _ hp) (.slice (some ⟨g, 0, none⟩) (rs.attachWith _ hp).length cap) wr := by
   rw [hal]
   refine ⟨?_, h.own.2⟩
   rw [hal, flat_sub rfV rs hp]
   exact h.own.1
  have hcon := AnyQ.slices_SortFunc Tryz.sortFr 67 Tryz.isAgg31 Tryz.sizeOf31 (fun x : FrS wr (.slice (some ⟨g, 0, none⟩) rs.length cap) => rfV x.1) hk (fun x => x.2.1.one) (frC wr _) (swo_frC wr _) 44 #[] g 0 cap (rs.attachWith _ hp).toArray wr eg
   (fun m os dk hs x y => by
    have hgr : wr.grownBy (sortWorldK (fun x : FrS wr (.slice (some ⟨g, 0, none⟩) rs.length cap) => rfV x.1) 67 wr g 0 m dk os) (some g) := grown_sortK dk
    exact (know_order (x.2.1.grown hgr (Near.refl _ _)) (y.2.1.grown hgr (Near.refl _ _)) x.2.2 y.2.2).mono (fun e w' ⟨he, hL⟩ => ⟨he, hL⟩))
   (own_holds hk (by decide) hrow.1) hgl (by simp; omega)
  rw [show (rs.attachWith _ hp).toArray.size = rs.length by rw [List.size_toArray, hal]] at hcon
  refine hcon.mono ?_
  rintro e w' ⟨rfl, d, n, os, hpm, hs, rfl⟩
  obtain ⟨hperm, hsz⟩ := perm_list (l := rs.attachWith _ hp) (d := d) (by rw [List.size_toArray, hal]; exact hpm)
  have hrow2 := hrow.sorted (m := n) (os := os) hk (by decide) hsz
  have hd : (d.toList.map (·.1)).flatMap rfV = d.toList.flatMap (fun x => rfV x.1) := by rw [List.flatMap_map]
  have hdl : (d.toList.map (·.1)).length = rs.length := by rw [List.length_map, hperm.length_eq, hal]
  refine ⟨rfl, d.toList.map (·.1), ⟨?_, ?_⟩, ?_, ?_⟩
  ·refine ⟨?_, hrow2.2⟩
   rw [hd, hdl]
   have h3 := hrow2.1
   rw [show d.toList.length = rs.length by rw [hperm.length_eq, hal], hal] at h3
   exact h3
  ·intro r hr
   obtain ⟨x, hx, rfl⟩ := List.mem_map.1 hr
   exact x.2.1.grown (grown_sortK d) (Near.refl _ _)
  ·have := hperm.map (·.1)
   rwa [map_sub] at this
  ·unfold Know.Sorted
   rw [List.map_map, List.pairwise_map, List.pairwise_iff_getElem]
   intro i j hi hj hij
   have hlt := hs i j (Nat.zero_le _) hij (by
    have := hperm.length_eq
    rw [hal] at this
    omega)
   rw [frC_lt] at hlt
   have := of_decide_eq_false hlt
   rw [getElem!_pos d i (by simpa using hi), getElem!_pos d j (by simpa using hj)] at this
   simpa using this
theorem know_ordered (V : VecOk) (I : IsetOk) {w : World} {F : Nat → Prop} {v : Value} {l : List Know.Fr} (h : Frs w F v l) (hl : l.length ≤ 100000) (hn : ∀ x ∈ l, x.no.length ≤ 100000) :
  Calls Tryz.prog 94 #[v] w fun e w' => ∃ v' ss, e = .returned v' ∧ FOwn w ss v' w' ∧ (ss.map (·.x)).Perm (l.map Know.tidy) ∧ Know.Sorted (ss.map (·.x)) := by
 obtain ⟨rs, rfl, hr, hi⟩ := h
 rw [List.length_map] at hl
 have hn' : ∀ r ∈ rs, r.x.no.length ≤ 100000 := fun r hr => hn _ (List.mem_map.2 ⟨r, hr, rfl⟩)
 have CL := Lib.hid (fr_clone hr (fun r hr => rf_len (hi r hr).len) (fun r hr => (hi r hr).one) hl)
 have HI := Lib.hid hi
 have HN := Lib.hid hn'
 have hz := frZero
 have SO := Lib.hid (fun (B : World) (x : Value) (ss : List RFr) (h1 : ss.length ≤ 100000) (h2 : ∀ r ∈ ss, r.x.no.length ≤ 100000) (hx : FOwn w ss x B) => know_sortfn hx h1 h2)
 obtain ⟨A, cap0, rfl, hcap0⟩ := hr.parts
 clear hr hi hn hn'
 go_enter Tryz.func94, Tryz.ntmps94
 go_wp2_with fail
 refine (CL.out).mono ?_
 rintro e w1 ⟨v1, rfl, h1⟩
 have F1 := Lib.hid (FOwn.of h1 HI.out)
 obtain ⟨B, cap, rfl, hcap⟩ := F1.out.rws.parts
 clear h1 CL
 go_wp2_with fail
 go_loopw [10] (fun i wr => ∃ k RS, k ≤ rs.length ∧ i = .int .i64 (k : Nat) ∧ Hid (RS.length = rs.length ∧ RS.map (·.x) = (rs.take k).map (fun r => Know.tidy r.x) ++ (rs.drop k).map (·.x)) ∧ Hid (FOwn w RS (.slice B rs.length cap) wr)) (fun i _ => rs.length - (intOf i).toNat)
 case atStart => exact ⟨0, rs, Nat.zero_le _, rfl, Lib.hid ⟨rfl, by simp⟩, F1⟩
 case round =>
  obtain ⟨k, RS, hk, rfl, hRS, hF⟩ := hrel
  by_cases hlt : k < rs.length
  ·obtain ⟨g, cap1, e, -, -⟩ := hF.out.own.1.form (by have := hRS.out.1; omega)
   injection e with e1 e2 e3
   subst e1 e3
   clear e2
   obtain ⟨r, hr⟩ : ∃ r, RS[k]? = some r := ⟨_, List.getElem?_eq_getElem (by have := hRS.out.1; omega)⟩
   obtain ⟨z, hzr⟩ : ∃ z, rs[k]? = some z := ⟨_, List.getElem?_eq_getElem hlt⟩
   have hrx : r.x = z.x := by
    have := congrArg (fun L => L[k]?) hRS.out.2
    simp only [List.getElem?_map, hr, Option.map_some] at this
    rw [List.getElem?_append_right (by rw [List.length_map, List.length_take]; omega), List.length_map, List.length_take, Nat.min_eq_left hk, Nat.sub_self, List.getElem?_map, List.getElem?_drop, Nat.add_zero, hzr] at this
    simpa using this
   have hIn := hF.out.ins r (List.mem_of_getElem? hr)
   have hno : r.x.no.length ≤ 100000 := by rw [hrx]; exact HN.out z (List.mem_of_getElem? hzr)
   have LE := Lib.hid (hF.out.at hr)
   have hone := Lib.hid hIn.one
   have hA : Laid wr (wr.alloc (.cells (rfV r).toArray 31)) := Laid.new wr _
   obtain ⟨W1, hW1⟩ : ∃ W1, W1 = wr.alloc (.cells (rfV r).toArray 31) := ⟨_, rfl⟩
   have FB : FrAt W1 wr.heap.size 0 r := by rw [hW1]; exact FrAt.made wr hIn.len _
   have hgs : g < wr.heap.size := (hF.out.own.1.lt g rfl).2
   have LB := Lib.hid (fun (W : World) (h : Kept (fun i => i = g) W1 W) => (⟨fun j u hj => (h.cell (p := ⟨wr.heap.size, 1 + j, none⟩) (by rw [hW1]; simp) (by show wr.heap.size ≠ g; omega)).trans (FB.v0.at_ j u hj), FB.v0.row, FB.v0.size⟩ : Lies 28 W wr.heap.size 1 (vecL r.x.v)))
   obtain ⟨A2, c2, eA, -⟩ := hIn.no.parts
   have NB := Lib.hid (fun (W : World) (h : Kept (fun i => i = g) W1 W) => (h.cell (p := ⟨wr.heap.size, 66, none⟩) (by rw [hW1]; simp) (by show wr.heap.size ≠ g; omega)).trans FB.no0)
   have CC := Lib.hid (fun W => V.clean (w := W) hIn.len)
   have OF := Lib.hid (fun (W : World) (h : Kept (fun i => i = g) W1 W) => I.ofl ((Rws.below hIn.no (hW1 ▸ hA).below).kept h (fun i hi e => hi (by rw [e]; rfl))) (by omega))
   rw [eA] at NB OF
   have HS : Hid ((Tryz.prog.info? 31).map (·.size) = some (rfV r).length ∧ (rfV frZ).toArray.size = (rfV r).length) := Lib.hid ⟨frSize hIn.len, by rw [rf_len hIn.len]; exact frZ_size⟩
   have FD := Lib.hid (hF.out.below ((hW1 ▸ hA).below.drew))
   have hx := Lib.hid hr
   have HRL := Lib.hid hRS.out.1
   have HCV : Hid ((Tryz.prog.info? 28).map (·.size) = some (vecL (Vec.clean r.x.v)).length) := Lib.hid (vecSizeL (Vec.clean_len _))
   have HC65 : Hid ((vecL (Vec.clean r.x.v)).length = 65) := Lib.hid (by rw [vecL_len, Vec.clean_len])
   have HR65 := Lib.hid hIn.len
   have hk0 : (0 : Int) ≤ (k : Int) := by omega
   have hk1 : (k : Int) < (rs.length : Int) := by omega
   have HNX : Hid ((RS.set k ⟨r.fv, .slice A2 r.x.no.length c2, ⟨r.x.f, Vec.clean r.x.v, r.x.no⟩⟩).length = rs.length) := Lib.hid (by rw [List.length_set]; exact HRL.out)
   have HW1 := Lib.hid hW1
   have HK1 : Hid (∀ fv nv, ((RS.set k ⟨fv, nv, Know.tidy r.x⟩).length = rs.length ∧ (RS.set k ⟨fv, nv, Know.tidy r.x⟩).map (·.x) = (rs.take (k + 1)).map (fun r => Know.tidy r.x) ++ (rs.drop (k + 1)).map (·.x))) := Lib.hid (fun fv nv => by
    refine ⟨by rw [List.length_set]; exact HRL.out, ?_⟩
    rw [List.map_set, hRS.out.2, List.set_append_right _ _ (by rw [List.length_map, List.length_take]; omega), List.length_map, List.length_take, Nat.min_eq_left hk, Nat.sub_self]
    obtain ⟨hh, e⟩ := List.getElem?_eq_some_iff.1 hzr
    rw [List.drop_eq_getElem_cons hh, List.map_cons, List.set_cons_zero, List.take_succ_eq_append_getElem hh, List.map_append, List.append_assoc, e, hrx]
    rfl)
   clear hr hzr hrx hIn hno hA FB hRS eA hF
   go_wp2_with (first | refine wpList_mload (by rfl) _ (by rfl) (by rfl) LE.out.all ?_ | refine wpList_nstore (by rfl) _ _ (by rfl) (by rfl) (by rfl) HS.out.1 HS.out.2 hone.out ?_)
   rw [← hW1]
   clear hW1
   refine wp_region_held_drew (S := (fun w' : World => Kept (fun i => i = g) W1 w')) (by kernel_rfl) ((Kept.refl _ W1).drew) (fun hHeld => ?_)
   refine wpAnyH_td (i := 0) rfl ?_
   simp only [zz]
   refine wpAnyH_td (i := 1) rfl ?_
   simp only [zz]
   refine wpAnyH_td (i := 2) rfl ?_
   simp only [zz]
   refine wpAnyH_td (i := 3) rfl ?_
   simp only [zz]
   refine wpAnyH_td (i := 4) rfl ?_
   simp only [zz]
   refine wpAnyH_tk (i := 5) (v := .agg (vecL r.x.v).toArray) rfl (Or.inl ⟨by rfl, (by intro w hSw; exact exec_mload (by rfl) (by rfl) (LB.out _ hSw))⟩) (by assumption) ?_
   simp only [zz]
   refine wpAnyH_td (i := 7) rfl ?_
   simp only [zz]
   refine wpAnyH_tk (i := 8) (v := ?_) rfl (Or.inl ⟨by rfl, (by intro w hSw; have n8 := NB.out _ hSw; go_simp; try with_reducible rfl)⟩) (by assumption) ?_
   simp only [zz]
   refine wpAnyH_ready (rs := [6]) (by kernel_rfl) (by simp) ?_
   refine AllReadyH.cons rfl (fun K hK => ?_) AllReadyH.nil
   go_simp
   go_at_call 114
   refine (CC.out _).mono ?_
   rintro e w6 ⟨rfl, h6⟩
   have S6 := Kept.trans hHeld (Kept.ofBelow h6.below (fun i => i = g)) (fun _ _ h => h)
   have F6 := Lib.hid (FD.out.below h6.below)
   refine hK.out _ _ S6 (fun hHeld => ?_)
   clear h6 S6 FD
   clear hK K
   refine wpAnyH_ready (rs := [9]) (by kernel_rfl) (by simp) ?_
   refine AllReadyH.cons rfl (fun K hK => ?_) AllReadyH.nil
   go_simp
   go_at_call 97
   refine (OF.out _ hHeld).mono ?_
   rintro e w9 ⟨v9, rfl, h9, b9⟩
   obtain ⟨A9, c9, rfl, -⟩ := h9.parts
   have S9 := Kept.trans hHeld (Kept.ofBelow b9 (fun i => i = g)) (fun _ _ h => h)
   have F9 := Lib.hid (F6.out.below b9)
   have hgl : g < w6.heap.size := (F6.out.own.1.lt g rfl).2
   have N9 : Hid (Vrs w9 (Off (.slice (some ⟨g, 0, none⟩) rs.length cap)) (.slice A9 (Ver.sort r.x.no).length c9) (Ver.sort r.x.no)) := Lib.hid (h9.mono (fun i hi e => by have e : some g = some i := e; injection e with e; have := hi.1; omega))
   have I9 := F9.out.ins r (List.mem_of_getElem? hx.out)
   have T9 : Hid (w9.there g (k * 67 + 1) (vecL (Vec.clean r.x.v)).length) := Lib.hid (F9.out.there HRL.out hx.out 1 _ (by rw [HC65.out]; decide))
   have F12 : Hid (FOwn w (RS.set k ⟨r.fv, r.nv, ⟨r.x.f, Vec.clean r.x.v, r.x.no⟩⟩) (.slice (some ⟨g, 0, none⟩) rs.length cap) (w9.setCells g (k * 67 + 1) (vecL (Vec.clean r.x.v)))) := Lib.hid (F9.out.put HRL.out hx.out (by rw [HC65.out]; decide) (rf_setV HR65.out (Vec.clean_len _)) ⟨I9.f, I9.no, Vec.clean_len _⟩)
   have K12 : Kept (fun i => i = g) w9 (w9.setCells g (k * 67 + 1) (vecL (Vec.clean r.x.v))) := Kept.ofGrown (F9.out.own.putCells HRL.out F9.out.lens hx.out 1 _ (by rw [HC65.out]; decide) (rf_setV HR65.out (Vec.clean_len _)) (y := ⟨r.fv, r.nv, ⟨r.x.f, Vec.clean r.x.v, r.x.no⟩⟩)).2 (fun i hi => by injection hi with hi; exact hi.symm)
   have S12 : Hid (Kept (fun i => i = g) W1 (w9.setCells g (k * 67 + 1) (vecL (Vec.clean r.x.v)))) := Lib.hid (Kept.trans S9 K12 (fun _ _ h => h))
   have hx12 : (RS.set k ⟨r.fv, r.nv, ⟨r.x.f, Vec.clean r.x.v, r.x.no⟩⟩)[k]? = some ⟨r.fv, r.nv, ⟨r.x.f, Vec.clean r.x.v, r.x.no⟩⟩ := List.getElem?_set_self (by rw [HRL.out]; omega)
   have N12 : Vrs (w9.setCells g (k * 67 + 1) (vecL (Vec.clean r.x.v))) (Off (.slice (some ⟨g, 0, none⟩) rs.length cap)) (.slice A9 (Ver.sort r.x.no).length c9) (Ver.sort r.x.no) := N9.out.kept K12 (fun i hi e => hi (by (rw [e]) <;> rfl))
   have I12 := F12.out.ins _ (List.mem_of_getElem? hx12)
   have T12 := F12.out.there (by rw [List.length_set]; exact HRL.out) hx12 66 1 (by decide) 0 (by decide)
   have c66 := (F12.out.at hx12).no
   have f66 := T12.2
   rw [Nat.add_zero] at f66
   have F15 : Hid (FOwn w (RS.set k ⟨r.fv, .slice A9 (Ver.sort r.x.no).length c9, Know.tidy r.x⟩) (.slice (some ⟨g, 0, none⟩) rs.length cap) ((w9.setCells g (k * 67 + 1) (vecL (Vec.clean r.x.v))).setCell ⟨g, k * 67 + 66, none⟩ (.slice A9 (Ver.sort r.x.no).length c9))) := Lib.hid (by have h := F12.out.put (us := [.slice A9 (Ver.sort r.x.no).length c9]) (by rw [List.length_set]; exact HRL.out) hx12 (by show 66 + 1 ≤ 67; decide) (rf_setNo (Vec.clean_len _) (.slice A9 (Ver.sort r.x.no).length c9) (Ver.sort r.x.no)) ⟨I12.f, N12, Vec.clean_len _⟩; rw [List.set_set] at h; exact h)
   have S15 : Hid (Kept (fun i => i = g) W1 ((w9.setCells g (k * 67 + 1) (vecL (Vec.clean r.x.v))).setCell ⟨g, k * 67 + 66, none⟩ (.slice A9 (Ver.sort r.x.no).length c9))) := Lib.hid (Kept.stored S12.out (Or.inl rfl) _)
   clear h9 b9 N9 I9 hx12 N12 I12 T12 hgl F12 K12
   refine hK.out _ _ S9 (fun hHeld => ?_)
   clear S9
   clear hK K
   refine wpAnyH_td (i := 10) rfl ?_
   simp only [zz]
   refine wpAnyH_td (i := 11) rfl ?_
   simp only [zz]
   refine wpAnyH_ready (rs := [12]) (by kernel_rfl) (by simp) ?_
   refine AllReadyH.cons rfl (fun K hK => ?_) AllReadyH.nil
   refine step_mstore (.tmp 26) (.tmp 21) rfl (by rfl) (by rfl) (by rfl) T9.out HCV.out (vec_one _) ?_
   refine hK.out _ _ S12.out (fun hHeld => ?_)
   clear hK K
   refine wpAnyH_td (i := 13) rfl ?_
   simp only [zz]
   refine wpAnyH_td (i := 14) rfl ?_
   simp only [zz]
   refine wpAnyH_ready (rs := [15]) (by kernel_rfl) (by simp) ?_
   refine AllReadyH.cons rfl (fun K hK => ?_) AllReadyH.nil
   go_simp
   refine hK.out _ _ S15.out (fun hHeld => ?_)
   clear hK K
   refine wpAnyH_done (by kernel_rfl) ?_ _
   go_wp2_with fail
   exact ⟨⟨k + 1, _, by omega, by go_num, Lib.hid (HK1.out _ _), F15⟩, by show rs.length - ((k : Int) + 1).toNat < rs.length - (k : Int).toNat; omega⟩
  ·obtain rfl : k = rs.length := by omega
   have HM : Hid (RS.map (·.x) = rs.map (fun r => Know.tidy r.x)) := Lib.hid (by have := hRS.out.2; rwa [List.take_length, List.drop_length, List.map_nil, List.append_nil] at this)
   have hnn : ∀ r ∈ RS, r.x.no.length ≤ 100000 := by
    intro r hr
    have : r.x ∈ RS.map (·.x) := List.mem_map.2 ⟨r, hr, rfl⟩
    rw [HM.out] at this
    obtain ⟨z, hz, e⟩ := List.mem_map.1 this
    rw [← e]
    exact Nat.le_trans (Ver.sort_len _) (HN.out z hz)
   have SO2 := Lib.hid (SO.out _ _ RS (by rw [hRS.out.1]; exact hl) hnn hF.out)
   clear hnn hRS hF
   go_wp2_with fail
   refine (SO2.out).mono ?_
   rintro e w3 ⟨rfl, ss, hss, hpm, hsr⟩
   have H3 := Lib.hid hss
   have HP : Hid ((ss.map (·.x)).Perm ((rs.map (·.x)).map Know.tidy)) := Lib.hid (by
    have := hpm.map (·.x)
    rw [HM.out] at this
    rwa [List.map_map])
   have HSr := Lib.hid hsr
   clear hss hpm hsr
   go_wp2_with fail
   go_ret
   exact ⟨_, ss, rfl, H3.out, HP.out, HSr.out⟩
end Go.Proofs.YtkcgmnhjofoeiaaGreat
