import Derived.Test.YtkcgmnhjofoeiaaGreatCom21
import Derived.Test.YtkcgmnhjofoeiaaGreatCom11
import Derived.Test.YtkcgmnhjofoeiaaGreatCom12
import Derived.Test.YtkcgmnhjofoeiaaGreatCom17
import Derived.Test.YtkcgmnhjofoeiaaGreatCom20
import Derived.Test.YtkcgmnhjofoeiaaGreatCom9
set_option maxRecDepth 100000
set_option linter.all false
set_option maxHeartbeats 12800000
namespace Go.Proofs.YtkcgmnhjofoeiaaGreat
open Go.RowKit Go.Sort
theorem step_build1 {ops : Array Oper} {o' : Oper} {a : Act} {w : World} {K : Act → World → Prop} {Q : Exit → Act → World → Prop} {E : Prop} (hgd : o'.guard = none) (t e : TypeId) (x : Operand) (ho : o'.op = .buildSlice t 1 #[(0, x)]) {cs : List Value} {i : TypeInfo} {z : Value} (hx : a.eval x = .agg cs.toArray)
  (hu : Tryz.prog.underlying t = some (.slice e)) (hi : Tryz.prog.info? e = some i) (hz : i.zero = some z) (h67 : i.size = 67) (hl : cs.length = 67)
  (k : K (a.put o'.dst (.slice (some ⟨w.heap.size, 0, none⟩) 1 1)) (w.alloc (.cells cs.toArray e))) : if Region.wanted o' (yielded ops a.tmps) = true then Oper.wp Tryz.prog o' a w K Q else E := by
 rw [if_pos (by simp [Region.wanted, hgd])]
 refine wp_buildSlice t e 1 #[(0, x)] ho cs.toArray i z hu hi hz (by rw [h67]; decide) (by rw [h67]; decide) ?_ k
 have := Great.fill_whole (s := 67) (by decide) [.agg cs.toArray] ((Array.range (1 * i.size)).map (z.cells[· % z.cells.size]!)) (fun v hv => by rw [List.mem_singleton.1 hv]; show cs.toArray.size = 67; rw [List.size_toArray, hl]) (by rw [h67]; simp)
 rw [h67] at this ⊢
 simpa [hx, Value.cells] using this
theorem ver_made1 (w : World) (t : TypeId) (r : Ver.V) : Vrs (w.alloc (.cells (verV r).toArray t)) AnyB (.slice (some ⟨w.heap.size, 0, none⟩) 1 1) [r] := by
 refine ⟨_, 1, rfl, Nat.le_refl _, fun _ => ⟨w.heap.size, 0, rfl, trivial, by simp, fun i x hx j u hu => ?_⟩⟩
 have hi : i = 0 := by obtain ⟨h, _⟩ := List.getElem?_eq_some_iff.1 hx; simpa using h
 subst hi
 have e : x = r := by simpa using hx.symm
 subst e
 have := range_row (Row.made w t (verV x).toArray) j u hu
 rw [Nat.zero_add] at this
 simpa using this
theorem know_add (V : VecOk) (I : IsetOk) (C : CoverOk) (Z : FilterOk) {w : World} {F : Nat → Prop} {v : Value} {k : Know.K} (item x : Ver.V) (h : Kns w F v k) (hk : Know.Ok (Know.union k ⟨[], [⟨item, Vec.ofl [x]⟩]⟩)) (hx : Ver.Bd x) :
  Calls Tryz.prog 8 #[v, verA item, verA x] w fun e w' => ∃ v' c, e = .returned v' ∧ Know.Canon (Know.union k ⟨[], [⟨item, Vec.ofl [x]⟩]⟩) c ∧ KnNew w v' c w' ∧ Below w.heap.size w w' := by
 have hz := knZero
 obtain ⟨i1, hi1, hy0, hy1, hy2⟩ := ver_parts itInfo
 obtain ⟨a1, a2, rfl, hf, hi⟩ := h
 obtain ⟨A, ca, rfl, -⟩ := hf.parts
 obtain ⟨B, cb, rfl, -⟩ := hi.1.parts
 obtain ⟨x1, x2⟩ := x
 obtain ⟨y1, y2⟩ := item
 obtain ⟨W0, hW0⟩ : ∃ W0, W0 = (((w.alloc (.cells #[.slice A k.frags.length ca, .slice B k.items.length cb] 25)).alloc (.cells #[.int .i64 y1, .int .i64 y2] 33)).alloc (.cells #[.int .i64 x1, .int .i64 x2] 33)).alloc (.cells #[.slice none 0 0, .slice none 0 0] 25) := ⟨_, rfl⟩
 have hb0 : Below w.heap.size w W0 := by rw [hW0]; exact ((((Below.refl _ _).alloc (Nat.le_refl _) _).alloc (by simp) _).alloc (by simp; omega) _).alloc (by simp; omega) _
 have r0 : Row W0 w.heap.size 25 #[.slice A k.frags.length ca, .slice B k.items.length cb] := by rw [hW0]; exact (((Row.made w _ _).behindNew _).behindNew _).behindNew _
 have r1 : Row W0 (w.heap.size + 1) 33 #[.int .i64 y1, .int .i64 y2] := by
  rw [hW0]
  have := ((Row.made (w.alloc (.cells #[.slice A k.frags.length ca, .slice B k.items.length cb] 25)) 33 #[.int .i64 y1, .int .i64 y2]).behindNew (.cells #[.int .i64 x1, .int .i64 x2] 33)).behindNew (.cells #[.slice none 0 0, .slice none 0 0] 25)
  rwa [World.size_alloc] at this
 have r3 : Row W0 (w.heap.size + 1 + 1) 33 #[.int .i64 x1, .int .i64 x2] := by
  rw [hW0]
  have := (Row.made ((w.alloc (.cells #[.slice A k.frags.length ca, .slice B k.items.length cb] 25)).alloc (.cells #[.int .i64 y1, .int .i64 y2] 33)) 33 #[.int .i64 x1, .int .i64 x2]).behindNew (.cells #[.slice none 0 0, .slice none 0 0] 25)
  rwa [World.size_alloc, World.size_alloc] at this
 have r2 : Row W0 (w.heap.size + 1 + 1 + 1) 25 #[.slice none 0 0, .slice none 0 0] := by
  rw [hW0]
  have := Row.made (((w.alloc (.cells #[.slice A k.frags.length ca, .slice B k.items.length cb] 25)).alloc (.cells #[.int .i64 y1, .int .i64 y2] 33)).alloc (.cells #[.int .i64 x1, .int .i64 x2] 33)) 25 #[.slice none 0 0, .slice none 0 0]
  rwa [World.size_alloc, World.size_alloc, World.size_alloc] at this
 have XC := Lib.hid (fun (W : World) (h : InB W0 W) => (⟨(r0.below h.below r0.inHeap).at 0, (r0.below h.below r0.inHeap).at 1, (r1.below h.below r1.inHeap).at 0, (r1.below h.below r1.inHeap).at 1, (r3.below h.below r3.inHeap).at 0, (r3.below h.below r3.inHeap).at 1⟩ : W.cell? ⟨w.heap.size, 0, none⟩ = some (.slice A k.frags.length ca) ∧ W.cell? ⟨w.heap.size, 1, none⟩ = some (.slice B k.items.length cb) ∧ W.cell? ⟨w.heap.size + 1, 0, none⟩ = some (.int .i64 y1) ∧ W.cell? ⟨w.heap.size + 1, 1, none⟩ = some (.int .i64 y2) ∧ W.cell? ⟨w.heap.size + 1 + 1, 0, none⟩ = some (.int .i64 x1) ∧ W.cell? ⟨w.heap.size + 1 + 1, 1, none⟩ = some (.int .i64 x2)))
 have R2 := Lib.hid (fun (W : World) (h : InB W0 W) => (r2.below h.below r2.inHeap : Row W (w.heap.size + 1 + 1 + 1) 25 #[.slice none 0 0, .slice none 0 0]))
 have HS2 := Lib.hid r2.inHeap
 have OF := Lib.hid (fun (W : World) (s : Value) (h : Vrs W AnyB s [⟨x1, x2⟩]) => V.ofl h (by show 1 ≤ 1000000; decide) (fun y hy => by rw [List.mem_singleton.1 hy]; exact hx))
 have H65 : Hid ((Vec.ofl [(⟨x1, x2⟩ : Ver.V)]).length = 65) := Lib.hid (Vec.ofl_plain _).1
 have UN := Lib.hid (fun (W : World) (s : Value) (h : InB W0 W) (hs : Its W AnyB s [⟨⟨y1, y2⟩, Vec.ofl [⟨x1, x2⟩]⟩]) => know_union V I C Z (a := k) (b := ⟨[], [⟨⟨y1, y2⟩, Vec.ofl [⟨x1, x2⟩]⟩]⟩) (w := W) (F := AnyB) (G := AnyB) (v := .agg #[.slice A k.frags.length ca, .slice B k.items.length cb]) (u := .agg #[.slice none 0 0, s])
  ⟨_, _, rfl, ((hf.below hb0).below h.below).any, ((hi.below hb0).below h.below).any⟩ ⟨_, _, rfl, Frs.empty _ _ _ _, hs⟩ hk)
 have HB0 := Lib.hid hb0
 clear hf hi hk hx hb0 r0 r1 r2 r3
 generalize hU : Vec.ofl [(⟨x1, x2⟩ : Ver.V)] = uv at *
 clear hU
 go_enter Tryz.func8, Tryz.ntmps8
 go_wp2_with fail
 rw [← hW0]
 clear hW0
 refine wp_region_tail (n := 9) (S := (fun w' : World => InB W0 w')) (by kernel_rfl) (by kernel_rfl) (by rfl) ((InB.refl W0).drew) (fun hHeld => ?_)
 refine wpAnyH_tk (i := 0) (v := ?_) rfl (Or.inl ⟨by rfl, (by intro w hSw; obtain ⟨c0, c1, c2, c3, c4, c5⟩ := XC.out _ hSw; go_simp; try with_reducible rfl)⟩) (by assumption) ?_
 simp only [zz]
 refine wpAnyH_tk (i := 1) (v := ?_) rfl (Or.inl ⟨by rfl, (by intro w hSw; obtain ⟨c0, c1, c2, c3, c4, c5⟩ := XC.out _ hSw; go_simp; try with_reducible rfl)⟩) (by assumption) ?_
 simp only [zz]
 refine wpAnyH_tk (i := 2) (v := ?_) rfl (Or.inl ⟨by rfl, (by intro w hSw; obtain ⟨c0, c1, c2, c3, c4, c5⟩ := XC.out _ hSw; go_simp; try with_reducible rfl)⟩) (by assumption) ?_
 simp only [zz]
 refine wpAnyH_ready (rs := [3]) (by kernel_rfl) (by simp) ?_
 refine AllReadyH.cons rfl (fun K hK => ?_) AllReadyH.nil
 go_simp
 have hb : Below W0.drew.heap.size W0.drew (W0.drew.alloc (.cells #[.int .i64 x1, .int .i64 x2] 33)) := (Below.refl _ _).alloc (Nat.le_refl _) _
 have hL := InB.trans hHeld hb
 have V3 := Lib.hid (ver_made1 W0.drew 33 ⟨x1, x2⟩)
 have OF3 := Lib.hid (OF.out _ _ V3.out)
 refine hK.out _ _ hL (fun hHeld => ?_)
 clear hL hb V3
 clear hK K
 refine wpAnyH_ready (rs := [4]) (by kernel_rfl) (by simp) ?_
 refine AllReadyH.cons rfl (fun K hK => ?_) AllReadyH.nil
 go_simp
 go_at_call 21
 refine (OF3.out).mono ?_
 rintro e w104 ⟨rfl, h4⟩
 have hL := InB.trans hHeld h4.below
 refine hK.out _ _ hL (fun hHeld => ?_)
 clear hL h4 OF3
 clear hK K
 refine wpAnyH_tk (i := 5) (v := .agg (itV ⟨⟨y1, y2⟩, uv⟩).toArray) rfl (Or.inl ⟨by rfl, (by intro w hSw; exact exec_itbuild rfl (by rfl) (by rfl) H65.out w)⟩) (by assumption) ?_
 simp only [zz]
 refine wpAnyH_ready (rs := [6]) (by kernel_rfl) (by simp) ?_
 refine AllReadyH.cons rfl (fun K hK => ?_) AllReadyH.nil
 refine step_build1 rfl 23 45 _ rfl (by rfl) Tryz.underlying23 hi1 hy0 hy1 (it_len (i := ⟨⟨y1, y2⟩, uv⟩) H65.out) ?_
 have hb : Below w104.heap.size w104 (w104.alloc (.cells (itV ⟨⟨y1, y2⟩, uv⟩).toArray 45)) := (Below.refl _ _).alloc (Nat.le_refl _) _
 have hL := InB.trans hHeld hb
 have UN6 := Lib.hid (UN.out _ _ hL ⟨(it_made1 w104 45 ⟨⟨y1, y2⟩, uv⟩).mono (fun _ _ => trivial), fun i hi => by rw [List.mem_singleton.1 hi]; exact H65.out⟩)
 refine hK.out _ _ hL (fun hHeld => ?_)
 clear hL hb
 clear hK K
 refine wpAnyH_td (i := 7) rfl ?_
 simp only [zz]
 refine wpAnyH_ready (rs := [8]) (by kernel_rfl) (by simp) ?_
 refine AllReadyH.cons rfl (fun K hK => ?_) AllReadyH.nil
 go_simp
 go_at_call 15
 refine (UN6.out).mono ?_
 rintro e w108 ⟨v8, c, rfl, hc, hk5, b5⟩
 obtain ⟨A6, m6, e6, B6, n6, d6, rfl⟩ := hk5.parts
 have S5 := InB.trans hHeld b5
 have KE := kn_end (b := w.heap.size + 1 + 1 + 1) hk5 (R2.out w108 S5) (Nat.lt_of_lt_of_le HS2.out hHeld.below.size) (HB0.out.trans (S5.below.mono HB0.out.size)) (Nat.le_succ_of_le (Nat.le_succ_of_le (Nat.le_succ _)))
 have T9 := Lib.hid KE.1
 have R9 := Lib.hid KE.2.1
 have K9 := Lib.hid KE.2.2.1
 have B9 := Lib.hid KE.2.2.2
 have HC := Lib.hid hc
 refine hK.out _ _ S5 (fun hHeld => ?_)
 clear KE S5 b5 hk5 hc
 clear hK K
 refine wpAnyH_done (by kernel_rfl) ?_ _
 refine wpAny_of_held (S := fun _ => True) _ _ _ _ ?_
 have hHeld : True := trivial
 refine wpAnyH_ready (rs := [9]) (by kernel_rfl) (by simp) ?_
 refine AllReadyH.cons rfl (fun K hK => ?_) AllReadyH.nil
 refine step_mstore (.tmp 6) (.tmp 15) rfl (by rfl) (by rfl) (by rfl) T9.out (knSize _ _) (two_one rfl rfl) ?_
 refine hK.out _ _ trivial (fun hHeld => ?_)
 clear hK K
 refine wpAnyH_done (by kernel_rfl) ?_ _
 go_wp2_with fail
 exact bodyPost_ret (v := .agg #[.slice A6 m6 e6, .slice B6 n6 d6]) (results_cell_row (by rfl) _ _ (w.heap.size + 1 + 1 + 1) 25 _ (0, 0) _ (by rfl) R9.out Tryz.underlying25 rfl (knSizeA _ _)) rfl ⟨_, _, rfl, HC.out, K9.out, B9.out⟩
open Go.RowKit
def Flt.light (f : List Flt.Cl) : Prop := (∀ c ∈ f, c.pre.length ≤ 100) ∧ f.length ≤ 24
instance (f : List Flt.Cl) : Decidable (Flt.light f) := inferInstanceAs (Decidable (_ ∧ _))
def Flt.sane (f : List Flt.Cl) : List Flt.Cl := f.filter fun c => decide (Flt.Right c)
theorem light_any {w : World} {F : Nat → Prop} {v : Value} {f : List Flt.Cl} (h : Cls w F v f) (hl : f.length ≤ 9223372036854775807) (hs : ∀ c ∈ f, c.pre.length ≤ 9223372036854775807) :
  Calls Tryz.prog 19 #[v] w fun e w' => e = .returned (.bool (decide (Flt.light f))) ∧ Below w.heap.size w w' := by
 obtain ⟨A, cap, rfl, hcap⟩ := h.parts
 have H := Lib.hid h
 have HS := Lib.hid hs
 have hl' : (f.length : Int) ≤ 9223372036854775807 := by omega
 clear h hs
 go_enter Tryz.func19, Tryz.ntmps19
 go_wp2_with fail
 go_loopw [3] (fun i wr => ∃ n : Nat, n ≤ f.length ∧ i = .int .i64 (n : Int) ∧ Hid (∀ c ∈ f.take n, c.pre.length ≤ 100) ∧ Below w.heap.size w wr) (fun i _ => f.length - (intOf i).toNat)
 case atStart => exact ⟨0, Nat.zero_le _, rfl, Lib.hid (by simp), Below.refl _ _⟩
 case round =>
  obtain ⟨n, hn, rfl, hall, hbel⟩ := hrel
  by_cases hlt : n < f.length
  ·obtain ⟨b, o, cap', e, -, -, hb⟩ := H.out.block (by omega)
   injection e with e1 e2 e3
   subst e1 e3
   clear e2
   obtain ⟨x, hx⟩ : ∃ x, f[n]? = some x := ⟨_, List.getElem?_eq_getElem hlt⟩
   have hpx := HS.out x (List.mem_of_getElem? hx)
   have hn0 : (0 : Int) ≤ (n : Int) := by omega
   have hn1 : (n : Int) < (f.length : Int) := by omega
   obtain ⟨c0, c1, c2⟩ := Cls.at (H.out.below hbel) hx
   have lx := mk_len x.pre
   have Hbel := Lib.hid hbel
   clear hbel c1 c2
   by_cases hx1 : x.pre.length ≤ 100
   ·have hnext : Hid (∀ c ∈ f.take (n + 1), c.pre.length ≤ 100) := Lib.hid (by
     intro c hc
     obtain ⟨h1, e1⟩ := List.getElem?_eq_some_iff.1 hx
     rw [List.take_succ_eq_append_getElem h1, e1] at hc
     rcases List.mem_append.1 hc with hc | hc
     ·exact hall.out c hc
     ·rw [List.mem_singleton.1 hc]; exact hx1)
    have g1 : ¬ (100 : Int) < ((mk x.pre).size : Int) := by omega
    have g2 : ((mk x.pre).size : Int) ≤ 9223372036854775807 := by omega
    clear hx hall lx hx1 hpx
    generalize mk x.pre = xs at *
    go_wp2_with fail
    exact ⟨⟨n + 1, by omega, by go_num, hnext, Hbel.out⟩, by show f.length - ((n : Int) + 1).toNat < f.length - (n : Int).toNat; omega⟩
   ·have hno : Hid (decide (Flt.light f) = false) := Lib.hid (decide_eq_false (fun h => hx1 (h.1 x (List.mem_of_getElem? hx))))
    have g1 : (100 : Int) < ((mk x.pre).size : Int) := by omega
    have g2 : ((mk x.pre).size : Int) ≤ 9223372036854775807 := by omega
    clear hx hall lx hx1 hpx
    generalize mk x.pre = xs at *
    go_wp2_with fail
    go_ret
    exact ⟨by rw [hno.out]; rfl, Hbel.out⟩
  ·obtain rfl : n = f.length := by omega
   have Hbel := Lib.hid hbel
   clear hbel
   by_cases h24 : f.length ≤ 24
   ·have hyes : Hid (decide (Flt.light f) = true) := Lib.hid (decide_eq_true ⟨by have := hall.out; rwa [List.take_length] at this, h24⟩)
    have g1 : decide ((f.length : Int) ≤ 24) = true := decide_eq_true (by omega)
    clear hall
    go_wp2_with fail
    go_ret
    exact ⟨by rw [hyes.out]; rfl, Hbel.out⟩
   ·have hno : Hid (decide (Flt.light f) = false) := Lib.hid (decide_eq_false (fun h => h24 h.2))
    have g1 : decide ((f.length : Int) ≤ 24) = false := decide_eq_false (by omega)
    clear hall
    go_wp2_with fail
    go_ret
    exact ⟨by rw [hno.out]; rfl, Hbel.out⟩
theorem Flt.sane_take {f : List Flt.Cl} {n : Nat} {c : Flt.Cl} (hc : f[n]? = some c) : Flt.sane (f.take (n + 1)) = Flt.sane (f.take n) ++ if decide (Flt.Right c) = true then [c] else [] := by
 obtain ⟨hl, he⟩ := List.getElem?_eq_some_iff.1 hc
 rw [List.take_succ_eq_append_getElem hl, he]
 unfold Flt.sane
 rw [List.filter_append]
 congr 1
 by_cases h : Flt.Right c <;> simp [h]
theorem Flt.sane_right (f : List Flt.Cl) : ∀ c ∈ Flt.sane f, Flt.Right c := fun c hc => of_decide_eq_true (List.mem_filter.1 hc).2
theorem Flt.sane_len (f : List Flt.Cl) : (Flt.sane f).length ≤ f.length := List.length_filter_le _ _
theorem sane_any {w : World} {F : Nat → Prop} {v : Value} {f : List Flt.Cl} (h : Cls w F v f) (hl : f.length ≤ 100000) (hs : ∀ c ∈ f, c.pre.length ≤ 100000) :
  Calls Tryz.prog 20 #[v] w fun e w' => ∃ v', e = .returned v' ∧ RowsOwn 87 3 clV w (Flt.sane f) v' w' := by
 obtain ⟨A, cap, rfl, hcap⟩ := h.parts
 obtain ⟨i0, hi0, hz0, hz1, hz2⟩ := info_parts clauseInfo
 have H := Lib.hid h
 have HS := Lib.hid hs
 have hl' : (f.length : Int) ≤ 100000 := by omega
 have HL : Hid (f.length ≤ 100000) := Lib.hid hl
 clear h hs
 go_enter Tryz.func20, Tryz.ntmps20
 go_wp2_with fail
 go_loopw [3, 4] (fun out i wr => ∃ n : Nat, n ≤ f.length ∧ i = .int .i64 (n : Int) ∧ RowsOwn 87 3 clV w (Flt.sane (f.take n)) out wr) (fun _ i _ => f.length - (intOf i).toNat)
 case atStart => exact ⟨0, Nat.zero_le _, rfl, RowsOwn.start _ _ _ w⟩
 case round =>
  obtain ⟨n, hn, rfl, hown⟩ := hrel
  by_cases hlt : n < f.length
  ·obtain ⟨b, o, cap', e, -, -, hb⟩ := H.out.block (by omega)
   injection e with e1 e2 e3
   subst e1 e3
   clear e2
   obtain ⟨x, hx⟩ : ∃ x, f[n]? = some x := ⟨_, List.getElem?_eq_getElem hlt⟩
   have hpx := HS.out x (List.mem_of_getElem? hx)
   have hn0 : (0 : Int) ≤ (n : Int) := by omega
   have hn1 : (n : Int) < (f.length : Int) := by omega
   have CA : Hid (∀ W, Below w.heap.size w W → W.cell? ⟨b, o + n * 3, none⟩ = some (.string (mk x.pre)) ∧ W.cell? ⟨b, o + n * 3 + 1, none⟩ = some (.int .i64 x.lo) ∧ W.cell? ⟨b, o + n * 3 + 2, none⟩ = some (.int .i64 x.hi)) := Lib.hid (fun W hW => Cls.at (H.out.below hW) hx)
   obtain ⟨c0, c1, c2⟩ := CA.out wr hown.2
   have hst := Lib.hid (Flt.sane_take hx)
   have hlen : Hid ((Flt.sane (f.take n)).length ≤ n) := Lib.hid (Nat.le_trans (Flt.sane_len _) (by rw [List.length_take]; omega))
   have RI := Lib.hid (ref_fright x wr hpx)
   obtain ⟨xp, x1, x2⟩ := x
   simp only at c0 c1 c2 CA
   have Hown := Lib.hid hown
   clear hown hx
   cases hr : decide (Flt.Right ⟨xp, x1, x2⟩)
   ·have RI : Hid (Calls Tryz.prog 50 #[.agg #[.string (mk xp), .int .i64 x1, .int .i64 x2]] wr fun e w' => e = .returned (.bool false) ∧ Below wr.heap.size wr w') := Lib.hid (by rw [← hr]; exact RI.out)
    have hst' : Hid (Flt.sane (f.take (n + 1)) = Flt.sane (f.take n)) := Lib.hid (by rw [hst.out, hr, if_neg (by simp), List.append_nil])
    clear hst hr
    go_wp2_with fail
    refine (RI.out).mono ?_
    rintro e w1 ⟨rfl, hb1⟩
    have hnew := Lib.hid (Hown.out.below hb1)
    clear hb1
    go_wp2_with fail
    exact ⟨⟨n + 1, by omega, by go_num, by rw [hst'.out]; exact hnew.out⟩, by show f.length - ((n : Int) + 1).toNat < f.length - (n : Int).toNat; omega⟩
   ·have RI : Hid (Calls Tryz.prog 50 #[.agg #[.string (mk xp), .int .i64 x1, .int .i64 x2]] wr fun e w' => e = .returned (.bool true) ∧ Below wr.heap.size wr w') := Lib.hid (by rw [← hr]; exact RI.out)
    have hst' : Hid (Flt.sane (f.take (n + 1)) = Flt.sane (f.take n) ++ [⟨xp, x1, x2⟩]) := Lib.hid (by rw [hst.out, hr, if_pos rfl])
    have hlen3 := hlen.out
    clear hst hr
    generalize Flt.sane (f.take n) = out at *
    go_wp2_with fail
    refine (RI.out).mono ?_
    rintro e w1 ⟨rfl, hb1⟩
    have Hown2 := Lib.hid (Hown.out.below hb1)
    obtain ⟨d0, d1, d2⟩ := CA.out w1 Hown2.out.2
    clear hb1 c0 c1 c2
    have hown3 := Hown2.out.1.alloc (.cells #[.string (mk xp), .int .i64 x1, .int .i64 x2] 87)
    have hmade := cl_made w1 87 xp x1 x2
    have hsz3 : w.heap.size ≤ (w1.alloc (.cells #[.string (mk xp), .int .i64 x1, .int .i64 x2] 87)).heap.size := by have := Hown2.out.2.size; simp; omega
    go_wp2_with (at_builtin; refine wp_joins (f := clV) (k := 3) rfl _ _ 26 rfl (w.heap.size) 87 i0 (.agg #[.string ⟨#[]⟩, .int .i64 0, .int .i64 0]) 32 Tryz.underlying26 hi0 hz0 hz1 hz2 rfl (by decide) rfl rfl hown3 hmade (fun _ _ => rfl) (fun x _ => cl_one x) ?c3 ?c4 hsz3 ?_)
    case c3 => have := HL.out; unfold maxLen; first | omega | (simp <;> omega)
    case c4 => have := HL.out; first | omega | (simp <;> omega)
    intro v3 w3 h1 h2 _
    have hnew := Lib.hid (Hown2.out.more (x := (⟨xp, x1, x2⟩ : Flt.Cl)) (v' := v3) (by simpa [clV] using h1) h2)
    clear h1 h2 hown3 hmade
    go_wp2_with fail
    exact ⟨⟨n + 1, by omega, by go_num, by rw [hst'.out]; exact hnew.out⟩, by show f.length - ((n : Int) + 1).toNat < f.length - (n : Int).toNat; omega⟩
  ·obtain rfl : n = f.length := by omega
   rw [List.take_length] at hown
   have Hown := Lib.hid hown
   clear hown
   go_wp2_with fail
   go_ret
   exact ⟨_, rfl, Hown.out⟩
open Go.RowKit Go.Sort
def Know.saneF (f : List Flt.Cl) : List Flt.Cl := if Flt.light f then Flt.sane f else []
theorem Know.saneF_fine (f : List Flt.Cl) : (Know.saneF f).length ≤ 24 ∧ ∀ c ∈ Know.saneF f, Flt.Right c := by
 unfold Know.saneF
 by_cases h : Flt.light f
 ·rw [if_pos h]
  exact ⟨Nat.le_trans (Flt.sane_len f) h.2, Flt.sane_right f⟩
 ·rw [if_neg h]
  exact ⟨by simp, fun c hc => by cases hc⟩
def Know.cutFr (x : Know.Fr) : Know.Fr := ⟨Know.saneF x.f, x.v, x.no.take 12⟩
def Know.cutK (k : Know.K) : Know.K := ⟨(k.frags.take 6).map Know.cutFr, k.items.take 12⟩
theorem low12 (a : Nat) (w : World) : Calls Tryz.prog 7 #[.int .i64 a, .int .i64 12] w fun e w' => e = .returned (.int .i64 ((min a 12 : Nat) : Int)) ∧ w = w' := by
 by_cases h : a < 12
 ·have e : min a 12 = a := by omega
  have h1 : (a : Int) < 12 := by omega
  rw [e]
  go_enter Tryz.func7, Tryz.ntmps7
  go_wp2_with fail
  go_ret
  exact ⟨rfl, rfl⟩
 ·have e : min a 12 = 12 := by omega
  have h1 : ¬ (a : Int) < 12 := by omega
  rw [e]
  go_enter Tryz.func7, Tryz.ntmps7
  go_wp2_with fail
  go_ret
  exact ⟨rfl, rfl⟩
theorem law15_sane {w : World} {F : Nat → Prop} {v : Value} {f : List Flt.Cl} (h : Cls w F v f) (hl : f.length ≤ 9223372036854775807) (hs : ∀ c ∈ f, c.pre.length ≤ 9223372036854775807) :
  Calls Tryz.prog 6 #[v] w fun e w' => ∃ v', e = .returned v' ∧ RowsOwn 87 3 clV w (Know.saneF f) v' w' := by
 have LI := Lib.hid (light_any h hl hs)
 by_cases hlf : Flt.light f
 ·have LI : Hid (Calls Tryz.prog 19 #[v] w fun e w' => e = .returned (.bool true) ∧ Below w.heap.size w w') := Lib.hid (by have := LI.out; rwa [decide_eq_true hlf] at this)
  have SA := Lib.hid (fun (W : World) (hW : Below w.heap.size w W) => sane_any (h.below hW) (by have := hlf.2; omega) (fun c hc => by have := hlf.1 c hc; omega))
  have e0 : Hid (Know.saneF f = Flt.sane f) := Lib.hid (if_pos hlf)
  clear h hlf hl hs
  go_enter Tryz.func6, Tryz.ntmps6
  go_wp2_with fail
  refine (LI.out).mono ?_
  rintro e w1 ⟨rfl, hb1⟩
  have K1 := Lib.hid hb1
  clear hb1
  go_wp2_with fail
  refine (SA.out _ K1.out).mono ?_
  rintro e w2 ⟨x, rfl, hx⟩
  have HX := Lib.hid (hx.since K1.out)
  clear hx
  go_wp2_with fail
  go_ret
  exact ⟨_, rfl, by rw [e0.out]; exact HX.out⟩
 ·have LI : Hid (Calls Tryz.prog 19 #[v] w fun e w' => e = .returned (.bool false) ∧ Below w.heap.size w w') := Lib.hid (by have := LI.out; rwa [decide_eq_false hlf] at this)
  have e0 : Hid (Know.saneF f = []) := Lib.hid (if_neg hlf)
  clear h hlf hl hs
  go_enter Tryz.func6, Tryz.ntmps6
  go_wp2_with fail
  refine (LI.out).mono ?_
  rintro e w1 ⟨rfl, hb1⟩
  have K1 := Lib.hid hb1
  clear hb1
  go_wp2_with fail
  go_ret
  exact ⟨_, rfl, by rw [e0.out]; exact RowsOwn.first K1.out⟩
theorem fr_places (parts : List (Nat × Value)) : Tryz.prog.built 31 parts = Instr.fill (#[(0, 1), (1, 65), (66, 1)][·]?) (rfV frZ).toArray parts := by kernel_rfl
theorem fr_built (A B : Option Addr) (n c m d : Nat) (f : List Flt.Cl) {v : List Int} (no : List Ver.V) (hv : v.length = 65) : Tryz.prog.built 31 [(0, .slice A n c), (1, .agg (vecL v).toArray), (2, .slice B m d)] = some (rfV ⟨.slice A n c, .slice B m d, ⟨f, v, no⟩⟩).toArray := by
 rw [fr_places]
 have hs : (rfV frZ).toArray.size = 67 := frZ_size
 have hvl : (vecL v).length = 65 := by rw [vecL_len, hv]
 have e1 : (Value.slice A n c).cells = #[.slice A n c] := rfl
 have e2 : (Value.agg (vecL v).toArray).cells = (vecL v).toArray := rfl
 have e3 : (Value.slice B m d).cells = #[.slice B m d] := rfl
 obtain ⟨p1, p2⟩ := Great.foldl_set 0 [.slice A n c] 0 (rfV frZ).toArray
 generalize hc1 : (([.slice A n c] : List Value).zipIdx 0).foldl (fun cs (x : Value × Nat) => cs.setIfInBounds (0 + x.2) x.1) (rfV frZ).toArray = c1 at *
 obtain ⟨q1, q2⟩ := Great.foldl_set 1 (vecL v) 0 c1
 generalize hc2 : ((vecL v).zipIdx 0).foldl (fun cs (x : Value × Nat) => cs.setIfInBounds (1 + x.2) x.1) c1 = c2 at *
 obtain ⟨r1, r2⟩ := Great.foldl_set 66 [.slice B m d] 0 c2
 have hfill : Instr.fill (#[(0, 1), (1, 65), (66, 1)][·]?) (rfV frZ).toArray [(0, .slice A n c), (1, .agg (vecL v).toArray), (2, .slice B m d)] = some ((([.slice B m d] : List Value).zipIdx 0).foldl (fun cs (x : Value × Nat) => cs.setIfInBounds (66 + x.2) x.1) c2) := by
  have s1 : ((#[Value.slice A n c] : Array Value).zipIdx).foldl (fun cs (x : Value × Nat) => cs.setIfInBounds (0 + x.2) x.1) (rfV frZ).toArray = c1 := by
   rw [← hc1]; simp
  have s2 : ((vecL v).toArray.zipIdx).foldl (fun cs (x : Value × Nat) => cs.setIfInBounds (1 + x.2) x.1) c1 = c2 := by
   rw [← hc2, Array.zipIdx_toArray, List.foldl_toArray']
   simp
  have s3 : ((#[Value.slice B m d] : Array Value).zipIdx).foldl (fun cs (x : Value × Nat) => cs.setIfInBounds (66 + x.2) x.1) c2 = (([.slice B m d] : List Value).zipIdx 0).foldl (fun cs (x : Value × Nat) => cs.setIfInBounds (66 + x.2) x.1) c2 := by
   simp
  unfold Instr.fill
  simp only [List.getElem?_toArray, List.getElem?_cons_zero, e1]
  rw [s1]
  rw [if_neg (by rw [hs]; simp)]
  unfold Instr.fill
  simp only [List.getElem?_toArray, List.getElem?_cons_succ, List.getElem?_cons_zero, e2, List.size_toArray]
  rw [s2]
  rw [if_neg (by rw [p1, hs, hvl]; simp)]
  unfold Instr.fill
  simp only [List.getElem?_toArray, List.getElem?_cons_succ, List.getElem?_cons_zero, e3]
  rw [s3]
  rw [if_neg (by rw [q1, p1, hs]; simp)]
  unfold Instr.fill
  rfl
 rw [hfill]
 congr 1
 apply Array.ext_getElem?
 intro k
 have hr : (rfV ⟨.slice A n c, .slice B m d, ⟨f, v, no⟩⟩).toArray[k]? = (Value.slice A n c :: (vecL v ++ [Value.slice B m d]))[k]? := by rw [List.getElem?_toArray]; rfl
 rw [r2 k, q1, p1, hs, hr]
 rcases k with _ | k
 ·rw [if_neg (by omega), q2 0, if_neg (by omega), p2 0, hs, if_pos (by simp)]
  rfl
 ·rw [List.getElem?_cons_succ]
  by_cases h : k < 65
  ·rw [if_neg (by omega), q2 (k + 1), p1, hs, if_pos (by rw [hvl]; omega), List.getElem?_append_left (by rw [hvl]; omega)]
   rw [show k + 1 - (1 + 0) = k by omega]
  ·rw [List.getElem?_append_right (by omega), hvl]
   by_cases h65 : k = 65
   ·subst h65
    rw [if_pos (by simp)]
    try rfl
   ·rw [if_neg (by simp; omega), q2 (k + 1), p1, hs, if_neg (by rw [hvl]; omega), p2 (k + 1), hs, if_neg (by simp), List.getElem?_toArray, List.getElem?_eq_none (by rw [rf_len Vec.zeros_len]; omega), List.getElem?_eq_none (by simp; omega)]
theorem exec_frbuild {ff : Operand → Value} {op : Oper} {x y z : Operand} (ho : op.op = .build 31 #[(0, x), (1, y), (2, z)]) {A B : Option Addr} {n c m d : Nat} (f : List Flt.Cl) {v : List Int} (no : List Ver.V) (hx : ff x = .slice A n c) (hy : ff y = .agg (vecL v).toArray) (hz : ff z = .slice B m d) (hv : v.length = 65) (w : World) :
  (execOp ff op).run Tryz.prog w = .ok (.value (.agg (rfV ⟨.slice A n c, .slice B m d, ⟨f, v, no⟩⟩).toArray)) w := by
 have hb := run_build w 31 #[(0, .slice A n c), (1, .agg (vecL v).toArray), (2, .slice B m d)] _ (fr_built A B n c m d f no hv)
 have e : (#[(0, x), (1, y), (2, z)].map fun (i, x) => (i, ff x)) = #[(0, .slice A n c), (1, .agg (vecL v).toArray), (2, .slice B m d)] := by simp [hx, hy, hz]
 unfold execOp
 simp only [ho, e, Sem.run_bind, hb, Result.andThen_ok]
 rfl
end Go.Proofs.YtkcgmnhjofoeiaaGreat
