/- The landed iset: Concat of two, Join, Put, Drop, Within, Same; the package as a whole (iset_of_vers : VersOk -> IsetOk). -/
import Derived.Test.YtnpnjophlajfkaaIsetPrt
import Derived.Test.YtnpnjophlajfkaaVerCpt
import Derived.Test.YtnpnjophlajfkaaShelf
import Derived.Shelf.Spec.SlicesGrow
import Derived.Shelf.SlicesQ.IndexFunc
set_option linter.unusedSimpArgs false
set_option linter.unusedVariables false
namespace Go.Proofs.Ytnpnjophlajfkaa
open Go.RowKit Go.Shelf Go.Lib

set_option maxRecDepth 100000 in
/-- Room for so many. -/
theorem iset_grow (n : Nat) (hn : n ≤ 2000000) (w : World) :
    Calls Try.prog 36 #[.slice none 0 0, .int .i64 (n : Int)] w fun e w' => ∃ v, e = .returned v ∧ RowsOwn 24 2 verV w [] v w' := by
  obtain ⟨i0, hi0, hz0, hz1, hz2⟩ := ver_parts verInfo
  by_cases h0 : n = 0
  · subst h0
    refine (Any8.slices_Grow_room Try.growVr none 0 0 0 w (Nat.le_refl _) (by omega) (by omega) (by omega)).mono ?_
    rintro e w' ⟨rfl, rfl⟩
    exact ⟨_, rfl, RowsOwn.start _ _ _ _⟩
  · refine (Any8.slices_Grow_grow Try.growVr i0 (.agg #[.int .i64 0, .int .i64 0]) hi0 hz0 (by omega) none 0 0 n [] w (Nat.le_refl _) (by omega) (by rw [hz2]; omega) (by omega) (by simp) (fun _ => rfl) (fun a h => by cases h)).mono ?_
    rintro e w' ⟨rfl, rfl⟩
    refine ⟨_, rfl, ?_, ((Below.refl _ w).drew).alloc (Nat.le_refl _) _⟩
    have hG := grownCap_ge w (0 + n) 0 (Try.growVr_ren.t 25)
    have hM := grownCap_le_maxLen w (0 + n) 0 (Try.growVr_ren.t 25) (by unfold maxLen; omega)
    refine World.ownsRow_made w.drew _ _ (Nat.le_refl _) hM ?_
    have hzc : (Value.agg #[.int .i64 0, .int .i64 0]).cells.size = 2 := rfl
    simp only [Array.size_append, size_zeroCells, hzc, List.size_toArray, List.length_nil]
    omega

set_option maxRecDepth 100000 in
set_option maxHeartbeats 3200000 in
theorem iset_concat {w : World} {F G : Nat → Prop} {u v : Value} {a b : List Ver.V} {bk : Nat} (ha : Vrs w F u a) (hb : Vrs w G v b) (la : a.length ≤ 500000) (lb : b.length ≤ 500000) (c0 : w.cell? ⟨bk, 0, none⟩ = some u) (c1 : w.cell? ⟨bk, 1, none⟩ = some v) (hk : bk < w.heap.size) :
    Calls Try.prog 26 #[.slice (some ⟨bk, 0, none⟩) 2 2] w fun e w' => ∃ v', e = .returned v' ∧ RowsOwn 24 2 verV w (a ++ b) v' w' := by
  obtain ⟨i0, hi0, hz0, hz1, hz2⟩ := ver_parts verInfo
  obtain ⟨A, c, rfl, hc⟩ := ha.parts
  obtain ⟨B, d, rfl, hd⟩ := hb.parts
  have HA := Lib.hid ha
  have HB := Lib.hid hb
  have la0 : (a.length : Int) ≤ 500000 := by omega
  have lb0 : (b.length : Int) ≤ 500000 := by omega
  have la1 : (0 : Int) ≤ (a.length : Int) := by omega
  have lb1 : (0 : Int) ≤ (b.length : Int) := by omega
  have HG : Hid (∀ W, Calls Try.prog 36 #[.slice none 0 0, .int .i64 ((a.length : Int) + (b.length : Int))] W fun e w' => ∃ v, e = .returned v ∧ RowsOwn 24 2 verV W [] v w') := Lib.hid (fun W => by
    have := iset_grow (a.length + b.length) (by omega) W
    rwa [Int.natCast_add] at this)
  clear ha hb
  go_enter Try.func26, Try.ntmps26
  go_wp2_with fail
  refine wp_loop_rounds 3 ?_
  rw [rounds_succ]
  go_wp2_with fail
  rw [rounds_succ]
  go_wp2_with fail
  rw [rounds_succ]
  go_wp2_with fail
  refine (HG.out w).mono ?_
  rintro e w1 ⟨v1, rfl, h1⟩
  have hg1 := HA.out.below h1.2
  have hz1' : w.heap.size ≤ w1.heap.size := h1.2.size
  have e0 : w1.cell? ⟨bk, 0, none⟩ = some (.slice A a.length c) := (h1.2.cell (p := ⟨bk, 0, none⟩) hk).trans c0
  have e1 : w1.cell? ⟨bk, 1, none⟩ = some (.slice B b.length d) := (h1.2.cell (p := ⟨bk, 1, none⟩) hk).trans c1
  have H1 := Lib.hid h1
  have own1 := h1.1
  clear h1 c0 c1
  go_wp2_with fail
  refine wp_loop_rounds 3 ?_
  rw [rounds_succ]
  go_wp2_with (at_builtin; refine wp_joins (f := verV) (k := 2) rfl _ _ 22 rfl w.heap.size 24 i0 (.agg #[.int .i64 0, .int .i64 0]) 16 Try.underlying22 hi0 hz0 hz1 hz2 rfl (by decide) rfl rfl own1 hg1 (fun _ _ => rfl) (fun x _ => ver_one x) ?c3 ?c4 hz1' ?_)
  case c3 => unfold maxLen; first | omega | (simp <;> omega)
  case c4 => first | omega | (simp <;> omega)
  intro v2 w2 j1 j2 j3
  have h2 : RowsOwn 24 2 verV w a v2 w2 := ⟨by simpa using j1, H1.out.2.grown j2 H1.out.2.size (fun k hk => (H1.out.1.lt k hk).1)⟩
  have hg2 := HB.out.below h2.2
  have hz2' : w.heap.size ≤ w2.heap.size := h2.2.size
  have f1 : w2.cell? ⟨bk, 1, none⟩ = some (.slice B b.length d) := (j2.cell e1 (fun e => by have := (H1.out.1.lt bk e.symm).1; omega))
  have H2 := Lib.hid h2
  have own2 := h2.1
  clear h2 j1 j2 j3 H1 own1 hg1 e0 e1
  go_wp2_with fail
  rw [rounds_succ]
  go_wp2_with (at_builtin; refine wp_joins (f := verV) (k := 2) rfl _ _ 22 rfl w.heap.size 24 i0 (.agg #[.int .i64 0, .int .i64 0]) 16 Try.underlying22 hi0 hz0 hz1 hz2 rfl (by decide) rfl rfl own2 hg2 (fun _ _ => rfl) (fun x _ => ver_one x) ?c3 ?c4 hz2' ?_)
  case c3 => unfold maxLen; first | omega | (simp <;> omega)
  case c4 => first | omega | (simp <;> omega)
  intro v3 w3 j1 j2 j3
  have h3 : RowsOwn 24 2 verV w (a ++ b) v3 w3 := ⟨by rw [List.length_append, List.flatMap_append]; exact j1, H2.out.2.grown j2 H2.out.2.size (fun k hk => (H2.out.1.lt k hk).1)⟩
  have H3 := Lib.hid h3
  clear h3 j1 j2 j3 H2 own2 hg2 f1
  go_wp2_with fail
  rw [rounds_succ]
  go_wp2_with fail
  go_ret
  exact ⟨v3, rfl, H3.out⟩

set_option maxRecDepth 100000 in
theorem iset_join (Z : VersOk) {w : World} {F G : Nat → Prop} {u v : Value} {a b : List Ver.V} (ha : Vrs w F u a) (hb : Vrs w G v b) (la : a.length ≤ 500000) (lb : b.length ≤ 500000) :
    Calls Try.prog 17 #[u, v] w fun e w' => ∃ v', e = .returned v' ∧ Vrs w' (NewIn w w') v' (Iset.join a b) ∧ Below w.heap.size w w' := by
  obtain ⟨A, c, rfl, hc⟩ := ha.parts
  obtain ⟨B, d, rfl, hd⟩ := hb.parts
  have hb0 : Below w.heap.size w (w.alloc (.cells #[.slice A a.length c, .slice B b.length d] 22)) := (Below.refl _ _).alloc (Nat.le_refl _) _
  have hrow := Row.made w 22 #[.slice A a.length c, .slice B b.length d]
  have HC := Lib.hid (iset_concat (ha.below hb0) (hb.below hb0) la lb (hrow.at 0) (hrow.at 1) (by simp))
  have Hb0 := Lib.hid hb0
  have HO := Lib.hid (fun (W : World) (x : Value) (hx : RowsOwn 24 2 verV (w.alloc (.cells #[.slice A a.length c, .slice B b.length d] 22)) (a ++ b) x W) => iset_of Z (hx.rows (fun _ _ => rfl)) (by rw [List.length_append]; omega))
  clear ha hb hb0 hrow
  go_enter Try.func17, Try.ntmps17
  go_wp2_with fail
  refine (HC.out).mono ?_
  rintro e w1 ⟨v1, rfl, h1⟩
  have HB1 := Lib.hid (Hb0.out.trans (h1.2.mono Hb0.out.size))
  have HN := Lib.hid (HO.out w1 v1 h1)
  clear h1
  go_wp2_with fail
  refine (HN.out).mono ?_
  rintro e w2 ⟨v2, rfl, h2, h3⟩
  have H2 : Hid (Vrs w2 (NewIn w w2) v2 (Iset.join a b)) := Lib.hid (h2.mono (fun i hi => ⟨Nat.le_trans HB1.out.size hi.1, hi.2⟩))
  have H3 := Lib.hid (HB1.out.trans (h3.mono HB1.out.size))
  clear h2 h3
  go_wp2_with fail
  go_ret
  exact ⟨v2, rfl, H2.out, H3.out⟩

set_option maxRecDepth 100000 in
set_option maxHeartbeats 1600000 in
theorem iset_put (Z : VersOk) {w : World} {F : Nat → Prop} {v : Value} {l : List Ver.V} (x : Ver.V) (h : Vrs w F v l) (hl : l.length ≤ 500000) :
    Calls Try.prog 8 #[v, verA x] w fun e w' => ∃ v', e = .returned v' ∧ Vrs w' (NewIn w w') v' (Iset.put l x) ∧ Below w.heap.size w w' := by
  have L0 := (Laid.new w (.cells #[.int .i64 x.by_, .int .i64 x.n] 24)).below
  have L1 := ((Laid.new w (.cells #[.int .i64 x.by_, .int .i64 x.n] 24)).trans (Laid.new _ (.cells #[.int .i64 x.by_, .int .i64 x.n] 24))).below
  have JO := Lib.hid (iset_join Z (h.below L1) (ver_made (w.alloc (.cells #[.int .i64 x.by_, .int .i64 x.n] 24)) 24 x) hl (by simp))
  have HJ : Hid (Iset.join l [x] = Iset.put l x) := Lib.hid (Iset.put_is l x)
  have HL := Lib.hid L1
  obtain ⟨A, cap, rfl, hcap⟩ := h.parts
  obtain ⟨x1, x2⟩ := x
  simp only at JO HL
  rw [World.size_alloc] at JO
  clear h L0 L1
  go_enter Try.func8, Try.ntmps8
  go_wp2_with fail
  refine (JO.out).mono ?_
  rintro e w1 ⟨v1, rfl, h1, h2⟩
  have H1 : Hid (Vrs w1 (NewIn w w1) v1 (Iset.put l ⟨x1, x2⟩)) := Lib.hid (by rw [← HJ.out]; exact h1.mono (fun i hi => ⟨Nat.le_trans HL.out.size hi.1, hi.2⟩))
  have H2 := Lib.hid (HL.out.trans (h2.mono HL.out.size))
  clear h1 h2
  go_wp2_with fail
  go_ret
  exact ⟨_, rfl, H1.out, H2.out⟩

set_option maxRecDepth 100000 in
set_option maxHeartbeats 1600000 in
theorem iset_drop (Z : VersOk) {w : World} {F : Nat → Prop} {v : Value} {l : List Ver.V} (x : Ver.V) (h : Vrs w F v l) (hl : l.length ≤ 500000) :
    Calls Try.prog 9 #[v, verA x] w fun e w' => ∃ v', e = .returned v' ∧ Vrs w' (NewIn w w') v' (Iset.drop l x) ∧ Below w.heap.size w w' := by
  have L1 := ((Laid.new w (.cells #[.int .i64 x.by_, .int .i64 x.n] 24)).trans (Laid.new _ (.cells #[.int .i64 x.by_, .int .i64 x.n] 24))).below
  have MI := Lib.hid (iset_minus Z (h.below L1) (ver_made (w.alloc (.cells #[.int .i64 x.by_, .int .i64 x.n] 24)) 24 x) (by omega) (by simp))
  have HL := Lib.hid L1
  obtain ⟨A, cap, rfl, hcap⟩ := h.parts
  obtain ⟨x1, x2⟩ := x
  simp only at MI HL
  rw [World.size_alloc] at MI
  clear h L1
  go_enter Try.func9, Try.ntmps9
  go_wp2_with fail
  refine (MI.out).mono ?_
  rintro e w1 ⟨v1, rfl, h1⟩
  have H1 := Lib.hid (h1.since HL.out)
  clear h1
  go_wp2_with fail
  go_ret
  exact ⟨_, rfl, H1.out.rows (fun _ _ => rfl), H1.out.2⟩

set_option maxRecDepth 100000 in
set_option maxHeartbeats 1600000 in
theorem within_pred (Z : VersOk) {S : List Ver.V} {cb B : Nat} (w : World) (hf : Finds w S (.func (.func 37) #[] #[.pointer (some ⟨cb, 0, none⟩)])) (hB : B < w.heap.size) (hc : w.cell? ⟨B, 0, none⟩ = some (.func (.func 37) #[] #[.pointer (some ⟨cb, 0, none⟩)])) :
    PredBelow Try.prog 30 #[.pointer (some ⟨B, 0, none⟩)] (fun x : Ver.V => .agg (verV x).toArray) (fun x => !decide (x ∈ S)) w := fun W x hb => by
  have hc2 : W.cell? ⟨B, 0, none⟩ = some (.func (.func 37) #[] #[.pointer (some ⟨cb, 0, none⟩)]) := (hb.cell (p := ⟨B, 0, none⟩) hB).trans hc
  have LB := Lib.hid (Laid.new W (.cells #[.int .i64 x.by_, .int .i64 x.n] 24))
  have hc3 : (W.alloc (.cells #[.int .i64 x.by_, .int .i64 x.n] 24)).cell? ⟨B, 0, none⟩ = some (.func (.func 37) #[] #[.pointer (some ⟨cb, 0, none⟩)]) := (LB.out.below.cell (p := ⟨B, 0, none⟩) (Nat.lt_of_lt_of_le hB hb.size)).trans hc2
  have FC := Lib.hid (Finds.calls Z ((hf.below hb).below LB.out.below) x)
  have Hb := Lib.hid hb
  obtain ⟨x1, x2⟩ := x
  simp only at hc3 LB FC
  clear hb hc hB hf
  show Calls Try.prog 30 #[.agg #[.int .i64 x1, .int .i64 x2], .pointer (some ⟨B, 0, none⟩)] W _
  obtain ⟨r, hr⟩ : ∃ r, r = decide ((⟨x1, x2⟩ : Ver.V) ∈ S) := ⟨_, rfl⟩
  rw [← hr] at FC
  have HR := Lib.hid hr
  clear hr
  go_enter Try.func30, Try.ntmps30
  go_wp2_with fail
  refine (FC.out).mono ?_
  rintro e w1 ⟨rfl, h1⟩
  have H1 := Lib.hid (Hb.out.trans ((LB.out.trans h1).below.mono Hb.out.size))
  clear h1
  go_wp2_with fail
  go_ret
  exact ⟨by rw [HR.out]; rfl, H1.out⟩

set_option maxRecDepth 100000 in
theorem vidx_none (A : Option Addr) (c : Nat) (fv : Value) (w : World) :
    Calls Try.prog 39 #[.slice A 0 c, fv] w fun e w' => e = .returned (.int .i64 (-1)) ∧ w' = w := by
  go_enter Try.func39, Try.ntmps39
  go_wp2_with fail
  refine wp_loop_rounds 1 ?_
  rw [rounds_succ]
  go_wp2_with fail
  go_ret
  exact ⟨rfl, rfl⟩
set_option maxRecDepth 100000 in
theorem vhas_none (A : Option Addr) (c : Nat) (fv : Value) (w : World) :
    Calls Try.prog 29 #[.slice A 0 c, fv] w fun e w' => e = .returned (.bool false) ∧ w' = w := by
  go_enter Try.func29, Try.ntmps29
  go_wp2_with (go_at_call 39; refine (vidx_none _ _ _ _).mono ?_; rintro e w' ⟨rfl, rfl⟩)
  go_ret
  exact ⟨rfl, rfl⟩
set_option maxRecDepth 100000 in
theorem within_any (Z : VersOk) {w : World} {F : Nat → Prop} {v : Value} {l S : List Ver.V} (h : Vrs w F v l) (hl : l.length ≤ 1000000) {cb B : Nat} (hf : Finds w S (.func (.func 37) #[] #[.pointer (some ⟨cb, 0, none⟩)])) (hB : B < w.heap.size) (hc : w.cell? ⟨B, 0, none⟩ = some (.func (.func 37) #[] #[.pointer (some ⟨cb, 0, none⟩)])) :
    Calls Try.prog 29 #[v, .func (.func 30) #[] #[.pointer (some ⟨B, 0, none⟩)]] w fun e w' => e = .returned (.bool (l.any fun x => !decide (x ∈ S))) ∧ Below w.heap.size w w' := by
  by_cases h0 : 0 < l.length
  · obtain ⟨A, cap, rfl, hcap, hat⟩ := h
    obtain ⟨b, o, rfl, -, hb, hcl⟩ := hat h0
    have eg : ∀ args w, (callFunc 30 args).run Try.prog w = .ok (.enter 30 args) w := enters_of Try.func30 (by kernel_rfl) rfl
    have hcon := AnyQ.slices_ContainsFunc Try.hasVr 2 Try.isAgg24 Try.sizeOf24 verV ver_len (fun x : Ver.V => !decide (x ∈ S)) 30 #[.pointer (some ⟨B, 0, none⟩)] eg b o l.length cap l w (within_pred Z w hf hB hc) (Nat.le_refl _) (by omega) hb
      (fun j hj i u hi => hcl j _ (by rw [List.getElem?_eq_getElem hj, getElem!_pos l j hj]) i u hi)
    rw [List.take_length] at hcon
    exact hcon
  · have hl0 : l = [] := List.eq_nil_of_length_eq_zero (by omega)
    subst hl0
    obtain ⟨A, cap, rfl, -, -⟩ := h
    exact (vhas_none A cap _ w).mono (fun e w' h => ⟨h.1, by rw [h.2]; exact Below.refl _ _⟩)

set_option maxRecDepth 100000 in
set_option maxHeartbeats 1600000 in
theorem iset_within (Z : VersOk) {w : World} {F G : Nat → Prop} {u v : Value} {a b : List Ver.V} (h : Vrs w F u a) (k : Vrs w G v b) (hl : a.length ≤ 1000000) (hk : b.length ≤ 1000000) :
    Calls Try.prog 21 #[u, v] w fun e w' => e = .returned (.bool (decide (Iset.Within a b))) ∧ Below w.heap.size w w' := by
  have FI := Lib.hid (finder_made Z k hk)
  have hsf : ∀ (w : World) (a : Addr) (m : Mode) (fn : Fn) (fi ca : Array Value), (store a (.func fn fi ca) m).run Try.prog w = stored Try.prog w a (.func fn fi ca) m := fun w a m fn fi ca => run_store Try.prog w a _ m rfl
  have H := Lib.hid h
  have HLn := Lib.hid hl
  have HR : Hid ((!a.any fun x => !decide (x ∈ Ver.sort b)) = decide (Iset.Within a b)) := Lib.hid (by
    rw [Iset.within_is, decide_eq_decide]
    unfold Iset.Within
    simp only [Ver.sort_mem])
  clear h k hl hk
  generalize Ver.sort b = S at *
  go_enter Try.func21, Try.ntmps21
  go_wp2_with fail
  refine (FI.out).mono ?_
  rintro e w1 ⟨fv, rfl, hf, hb1⟩
  have HF := Lib.hid hf
  obtain ⟨cb, sv, Fs, rfl, -, -, -, -, -⟩ := hf
  have hb : Below w1.heap.size w1 (w1.alloc (.cells #[.func (.func 37) #[] #[.pointer (some ⟨cb, 0, none⟩)]] 36)) := (Below.refl _ _).alloc (Nat.le_refl _) _
  have HB := Lib.hid (hb1.trans (hb.mono hb1.size))
  have HC := Lib.hid (within_any Z (H.out.below HB.out) HLn.out (HF.out.below hb) (B := w1.heap.size) (by simp) ((Row.made w1 36 #[.func (.func 37) #[] #[.pointer (some ⟨cb, 0, none⟩)]]).at 0))
  clear hb1 hb
  go_wp2_with (go_at_call 29; refine (HC.out).mono ?_; rintro e w2 ⟨rfl, hb2⟩)
  have H2 := Lib.hid (HB.out.trans (hb2.mono HB.out.size))
  go_ret
  exact ⟨by rw [← HR.out]; rfl, H2.out⟩

set_option maxRecDepth 100000 in
theorem iset_same (Z : VersOk) {w : World} {F G : Nat → Prop} {u v : Value} {a b : List Ver.V} (h : Vrs w F u a) (k : Vrs w G v b) (hl : a.length ≤ 1000000) (hk : b.length ≤ 1000000) :
    Calls Try.prog 22 #[u, v] w fun e w' => e = .returned (.bool (decide (Iset.Within a b ∧ Iset.Within b a))) ∧ Below w.heap.size w w' := by
  have W1 := Lib.hid (iset_within Z h k hl hk)
  have W2 := Lib.hid (fun (W : World) (hW : Below w.heap.size w W) => iset_within Z (k.below hW) (h.below hW) hk hl)
  have HR : Hid (decide (Iset.Within a b ∧ Iset.Within b a) = (decide (Iset.Within a b) && decide (Iset.Within b a))) := Lib.hid (by simp)
  clear h k
  generalize decide (Iset.Within b a) = q at *
  cases hp : decide (Iset.Within a b)
  all_goals
    rw [hp] at W1 HR
    go_enter Try.func22, Try.ntmps22
    go_wp2_with fail
    refine (W1.out).mono ?_
    rintro e w1 ⟨rfl, h1⟩
    have H1 := Lib.hid h1
    have C2 := Lib.hid (W2.out _ h1)
    clear h1
    go_wp2_with fail
  · go_ret
    exact ⟨by rw [HR.out]; rfl, H1.out⟩
  · refine (C2.out).mono ?_
    rintro e w2 ⟨rfl, h2⟩
    have H2 := Lib.hid (H1.out.trans (h2.mono H1.out.size))
    clear h2
    go_wp2_with fail
    go_ret
    exact ⟨by rw [HR.out]; rfl, H2.out⟩

set_option maxRecDepth 100000 in
theorem iset_of_vers (Z : VersOk) : IsetOk where
  ofl := fun h hl => iset_of Z h hl
  has := fun x h hl => iset_has x h hl
  put := fun x h hl => iset_put Z x h hl
  drop := fun x h hl => iset_drop Z x h hl
  join := fun h k hl hk => iset_join Z h k hl hk
  meet := fun h k hl hk => (iset_meet Z h k hl hk).mono (fun e w' ⟨v', he, hr⟩ => ⟨v', he, hr.rows (fun _ _ => rfl), hr.2⟩)
  minus := fun h k hl hk => (iset_minus Z h k hl hk).mono (fun e w' ⟨v', he, hr⟩ => ⟨v', he, hr.rows (fun _ _ => rfl), hr.2⟩)
  within := fun h k hl hk => iset_within Z h k hl hk
  same := fun h k hl hk => iset_same Z h k hl hk
end Go.Proofs.Ytnpnjophlajfkaa
