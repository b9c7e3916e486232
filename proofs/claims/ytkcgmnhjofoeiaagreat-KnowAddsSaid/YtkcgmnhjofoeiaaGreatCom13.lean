import Derived.Test.YtkcgmnhjofoeiaaGreatCom12
import Derived.Test.YtkcgmnhjofoeiaaGreatCom11
import Derived.Test.YtkcgmnhjofoeiaaGreatCom9
import Derived.Test.YtkcgmnhjofoeiaaGreatCom10
import Derived.Test.YtkcgmnhjofoeiaaGreatCom6
import Derived.Deep.QuietTactic
set_option maxRecDepth 100000
set_option linter.all false
set_option maxHeartbeats 12800000
namespace Go.Proofs.YtkcgmnhjofoeiaaGreat
open Go.RowKit Go.Sort
theorem vecOf_len (l : List Know.It) (x : Ver.V) : (Know.vecOf l x).length = 65 := (Know.vecOf_spec l x).1.1
theorem Know.itemsOf_len (l : List Know.It) : ∀ r : List Ver.V, (Know.itemsOf l r).length ≤ r.length
 | [] => Nat.le_refl _
 | x :: r => by
  have ih := Know.itemsOf_len l r
  unfold Know.itemsOf
  split
  ·rw [List.length_cons]; omega
  ·rw [List.length_cons, List.length_cons]; omega
theorem gat_more {w w10 w3 : World} {s4 v3 : Value} {L : List Know.It} {o : Obj} {k n : Nat} {xs ys : List Value} (h1 : KmAt w10 w.heap.size L) (h2 : w10.ownsRow (w.heap.size + 1) 33 2 s4 k xs) (h3 : Below w.heap.size w w10) (h4 : w.heap.size + 1 ≤ w10.heap.size)
  (own3 : w3.ownsRow (w.heap.size + 1) 33 2 v3 n ys) (hg3 : (w10.alloc o).grownBy w3 s4.ownBlock) : KmAt w3 w.heap.size L ∧ Below w.heap.size w w3 ∧ w.heap.size + 1 ≤ w3.heap.size := by
 have hb : Below w10.heap.size w10 (w10.alloc o) := (Below.refl _ _).alloc (Nat.le_refl _) o
 have hs : ∀ g, s4.ownBlock = some g → w.heap.size + 1 ≤ g := fun g hg => (h2.lt g hg).1
 refine ⟨(h1.below hb).kept (kept_of hg3) (fun e => by have := hs _ e; omega), ?_, ?_⟩
 ·exact (h3.alloc h3.size o).grown hg3 (by simp; omega) (fun g hg => by have := hs g hg; omega)
 ·have := hg3.size
  simp at this
  omega
theorem gat_put {w wr W1 w9 w10 : World} {s4 : Value} {L : List Know.It} {x1 x2 : Int} {n : Nat} {xs : List Value} (hkm : KmAt w10 w.heap.size L) (hgr : w9.grownBy w10 (some w.heap.size)) (hO : W1.ownsRow (w.heap.size + 1) 33 2 s4 n xs) (hB : Below w.heap.size w W1) (hs : w.heap.size + 1 ≤ W1.heap.size) (hbx : wr.heap.size < W1.heap.size) (h9 : Below W1.heap.size W1 w9)
  (hc : w9.cell? ⟨wr.heap.size, 0, none⟩ = some (.int .i64 x1) ∧ w9.cell? ⟨wr.heap.size, 1, none⟩ = some (.int .i64 x2)) (hne : wr.heap.size ≠ w.heap.size) :
  KmAt w10 w.heap.size L ∧ w10.ownsRow (w.heap.size + 1) 33 2 s4 n xs ∧ Below w.heap.size w w10 ∧ w.heap.size + 1 ≤ w10.heap.size ∧ w10.cell? ⟨wr.heap.size, 0, none⟩ = some (.int .i64 x1) ∧ w10.cell? ⟨wr.heap.size, 1, none⟩ = some (.int .i64 x2) := by
 have hO9 := row_below hO h9
 have h19 := h9.size
 have h910 := hgr.size
 refine ⟨hkm, own_left hO9 hgr (fun g hg e => by injection e with e; have := (hO9.lt g hg).1; omega), ?_, by omega, ?_, ?_⟩
 ·exact (hB.trans (h9.mono hB.size)).grown hgr (by omega) (fun g hg => by injection hg with hg; omega)
 ·exact hgr.cell hc.1 (fun e => hne (by have e : some wr.heap.size = some w.heap.size := e; exact Option.some.inj e))
 ·exact hgr.cell hc.2 (fun e => hne (by have e : some wr.heap.size = some w.heap.size := e; exact Option.some.inj e))
theorem know_gathered (V : VecOk) (I : IsetOk) {w : World} {F : Nat → Prop} {v : Value} {l : List Know.It} (h : Its w F v l) (hl : l.length ≤ 99999) (hb : ∀ i ∈ l, Ver.Bd i.item) :
  Calls Tryz.prog 70 #[v] w fun e w' => ∃ v', e = .returned v' ∧ Its w' AnyB v' (Know.items_of l) ∧ Below w.heap.size w w' := by
 obtain ⟨hr, hi⟩ := h
 obtain ⟨i1, hi1, hy0, hy1, hy2⟩ := ver_parts itInfo
 obtain ⟨i0, hi0, hz0, hz1, hz2⟩ := ver_parts verInfo
 have hz := itZero
 have hvz := vec_zeroL
 have hmk := @run_makeMap Tryz.prog
 have HR := Lib.hid hr
 have HI := Lib.hid hi
 have HBd := Lib.hid hb
 obtain ⟨A, cap, rfl, hcap⟩ := hr.parts
 have hl0 : (l.length : Int) ≤ 99999 := by omega
 have HL := Lib.hid hl
 clear hr hi hb hl
 go_enter Tryz.func70, Tryz.ntmps70
 go_wp2_with fail
 go_loopw [4, 14] (fun s4 i wr => ∃ k : Nat, k ≤ l.length ∧ i = .int .i64 (k : Int) ∧ Hid (KmAt wr w.heap.size (l.take k) ∧ wr.ownsRow (w.heap.size + 1) 33 2 s4 k (((l.take k).map (·.item)).flatMap verV) ∧ Below w.heap.size w wr ∧ w.heap.size + 1 ≤ wr.heap.size)) (fun _ i _ => l.length - (intOf i).toNat)
 case atStart => exact ⟨0, Nat.zero_le _, rfl, Lib.hid ⟨KmAt.made w, World.ownsRow_nil _ _ _ _, (Below.refl _ _).alloc (Nat.le_refl _) _, by simp⟩⟩
 case round =>
  obtain ⟨k, hk, rfl, hst⟩ := hrel
  by_cases hlt : k < l.length
  ·obtain ⟨b, o, cap1, e, -, -, hb⟩ := HR.out.block (by omega)
   injection e with e1 e2 e3
   subst e1 e3
   clear e2
   obtain ⟨x, hx⟩ : ∃ x, l[k]? = some x := ⟨_, List.getElem?_eq_getElem hlt⟩
   have hxm := List.mem_of_getElem? hx
   have hx65 := HI.out x hxm
   have hbr := hst.out.2.2.1
   have LE := Lib.hid ((ItAt.elem HR.out hx hx65).below hbr hb)
   have HS : Hid ((Tryz.prog.info? 45).map (·.size) = some (itV x).length ∧ (itV itZ).toArray.size = (itV x).length) := Lib.hid ⟨itSize hx65, by rw [it_len hx65]; exact itZ_size⟩
   have hone := Lib.hid (it_one x)
   obtain ⟨W1, hW1⟩ : ∃ W1, W1 = wr.alloc (.cells (itV x).toArray 45) := ⟨_, rfl⟩
   have hbA : Below wr.heap.size wr W1 := by rw [hW1]; exact (Below.refl _ _).alloc (Nat.le_refl _) _
   have FB : ItAt W1 wr.heap.size 0 x := by rw [hW1]; exact ItAt.made wr hx65 _
   have hbx : wr.heap.size < W1.heap.size := by rw [hW1]; simp
   have XC := Lib.hid (fun (W : World) (h : InB W1 W) => (And.intro (FB.below h.below hbx).by_ (FB.below h.below hbx).n0 : W.cell? ⟨wr.heap.size, 0, none⟩ = some (.int .i64 x.item.by_) ∧ W.cell? ⟨wr.heap.size, 1, none⟩ = some (.int .i64 x.item.n)))
   have LV := Lib.hid (fun (W : World) (h : InB W1 W) => (FB.below h.below hbx).v0)
   have HKm := Lib.hid (hst.out.1.below hbA)
   have LK := Lib.hid (fun (W : World) (h : InB W1 W) => ((hst.out.1.below hbA).below h.below).look (HBd.out x hxm))
   have JO := Lib.hid (fun W => V.join (w := W) (vecOf_len (l.take k) x.item) hx65)
   have HxB := Lib.hid (HBd.out x hxm)
   have Hbw := Lib.hid (hbr.trans (hbA.mono hbr.size))
   have HOw := Lib.hid (row_below (base := w.heap.size + 1) hst.out.2.1 hbA)
   have Hs1 := Lib.hid (Nat.le_trans hst.out.2.2.2 hbA.size)
   have HTk : Hid (l.take (k + 1) = l.take k ++ [x]) := Lib.hid (by
    obtain ⟨hh, e⟩ := List.getElem?_eq_some_iff.1 hx
    rw [List.take_succ_eq_append_getElem hh, e])
   have HW1 := Lib.hid hW1
   have Hbx := Lib.hid hbx
   have Hne : Hid (wr.heap.size ≠ w.heap.size) := Lib.hid (by have := hst.out.2.2.2; omega)
   have hk0 : (0 : Int) ≤ (k : Int) := by omega
   have hk1 : (k : Int) < (l.length : Int) := by omega
   have hk2 : (k : Int) ≤ 99999 := by omega
   obtain ⟨⟨x1, x2⟩, xv⟩ := x
   simp only at XC LV LK JO HxB hx65
   clear hx hxm hbr hbA FB hbx hst
   go_wp2_with (first | refine wpList_mload (by rfl) _ (by rfl) (by rfl) LE.out.all ?_ | refine wpList_nstore (by rfl) _ _ (by rfl) (by rfl) (by rfl) HS.out.1 HS.out.2 hone.out ?_)
   rw [← hW1]
   clear hW1
   refine wp_region_tail (n := 10) (S := (fun w' : World => InB W1 w')) (by kernel_rfl) (by kernel_rfl) (by rfl) ((InB.refl W1).drew) (fun hHeld => ?_)
   refine wpAnyH_td (i := 0) rfl ?_
   simp only [zz]
   refine wpAnyH_td (i := 1) rfl ?_
   simp only [zz]
   refine wpAnyH_tk (i := 2) (v := ?_) rfl (Or.inl ⟨by rfl, (by intro w hSw; obtain ⟨c0, c1⟩ := XC.out _ hSw; go_simp; try with_reducible rfl)⟩) (by assumption) ?_
   simp only [zz]
   refine wpAnyH_td (i := 3) rfl ?_
   simp only [zz]
   refine wpAnyH_td (i := 4) rfl ?_
   simp only [zz]
   refine wpAnyH_tk (i := 5) (v := ?_) rfl (Or.inl ⟨by rfl, (by intro w hSw; obtain ⟨c0, c1⟩ := XC.out _ hSw; go_simp; try with_reducible rfl)⟩) (by assumption) ?_
   simp only [zz]
   refine wpAnyH_tk (i := 6) (v := ?_) rfl (Or.inl ⟨by rfl, (by intro w hSw; have hlk := LK.out _ hSw; go_simp; try with_reducible rfl)⟩) (by assumption) ?_
   simp only [zz]
   refine wpAnyH_td (i := 7) rfl ?_
   simp only [zz]
   refine wpAnyH_tk (i := 8) (v := .agg (vecL xv).toArray) rfl (Or.inl ⟨by rfl, (by intro w hSw; exact exec_mload (by rfl) (by rfl) (LV.out _ hSw))⟩) (by assumption) ?_
   simp only [zz]
   refine wpAnyH_ready (rs := [9]) (by kernel_rfl) (by simp) ?_
   refine AllReadyH.cons rfl (fun K hK => ?_) AllReadyH.nil
   go_simp
   go_at_call 96
   refine (JO.out _).mono ?_
   rintro e w9 ⟨rfl, h9⟩
   have S9 := InB.trans hHeld h9.below
   have M9 := (HKm.out.below S9.below).put ⟨⟨x1, x2⟩, xv⟩ HxB.out
   obtain ⟨w10, hmu, hkm, hgr⟩ := M9
   have hmu : (Instr.mapUpdate 120 (.map (some w.heap.size)) (.agg #[.int .i64 x1, .int .i64 x2]) (vecA (Vec.join (Know.vecOf (l.take k) ⟨x1, x2⟩) xv))).run Tryz.prog w9 = .ok () w10 := hmu
   have P10 : Hid (KmAt w10 w.heap.size (l.take k ++ [⟨⟨x1, x2⟩, xv⟩]) ∧ w10.ownsRow (w.heap.size + 1) 33 2 u4 k (((l.take k).map (·.item)).flatMap verV) ∧ Below w.heap.size w w10 ∧ w.heap.size + 1 ≤ w10.heap.size ∧ w10.cell? ⟨wr.heap.size, 0, none⟩ = some (.int .i64 x1) ∧ w10.cell? ⟨wr.heap.size, 1, none⟩ = some (.int .i64 x2)) := Lib.hid (gat_put hkm hgr HOw.out Hbw.out Hs1.out Hbx.out S9.below (XC.out _ S9) Hne.out)
   refine hK.out _ _ S9 (fun hHeld => ?_)
   clear h9 S9 hkm hgr
   clear hK K
   refine wpAnyH_done (by kernel_rfl) ?_ _
   refine wpAny_of_held (S := fun _ => True) _ _ _ _ ?_
   have hHeld : True := trivial
   refine wpAnyH_ready (rs := [10]) (by kernel_rfl) (by simp) ?_
   refine AllReadyH.cons rfl (fun K hK => ?_) AllReadyH.nil
   go_simp
   refine hK.out _ _ trivial (fun hHeld => ?_)
   clear hK K
   refine wpAnyH_done (by kernel_rfl) ?_ _
   have hmade := Lib.hid (fun W => ver_made W 33 ⟨x1, x2⟩)
   have OI := P10.out.2.1
   have hsz : w.heap.size + 1 ≤ w10.heap.size := P10.out.2.2.2.1
   obtain ⟨c0, c1⟩ := P10.out.2.2.2.2
   go_wp2_with (at_builtin; refine wp_joins (f := verV) (k := 2) rfl _ _ 29 rfl (w.heap.size + 1) 33 i0 (.agg #[.int .i64 0, .int .i64 0]) 16 Tryz.underlying29 hi0 hz0 hz1 hz2 rfl (by decide) rfl rfl (OI.alloc _) (hmade.out _) (fun _ _ => rfl) (fun x _ => ver_one x) ?c1 ?c2 ?c3 ?_)
   case c1 => (have e1 := HL.out; have e2 : ([(⟨x1, x2⟩ : Ver.V)]).length = 1 := rfl; unfold maxLen; omega)
   case c2 => (have e1 := HL.out; have e2 : ([(⟨x1, x2⟩ : Ver.V)]).length = 1 := rfl; omega)
   case c3 => (first | omega | exact Nat.le_succ_of_le hsz | (rw [World.size_alloc]; exact Nat.le_succ_of_le hsz))
   intro v3 w3 own3 hg3 hn3
   have G3 := gat_more P10.out.1 P10.out.2.1 P10.out.2.2.1 P10.out.2.2.2.1 own3 hg3
   have H3 : Hid (KmAt w3 w.heap.size (l.take (k + 1)) ∧ w3.ownsRow (w.heap.size + 1) 33 2 v3 (k + 1) (((l.take (k + 1)).map (·.item)).flatMap verV) ∧ Below w.heap.size w w3 ∧ w.heap.size + 1 ≤ w3.heap.size) := Lib.hid (by
    rw [HTk.out]
    refine ⟨G3.1, ?_, G3.2.1, G3.2.2⟩
    rw [List.map_append, List.flatMap_append]
    simpa using own3)
   clear own3 hg3 hn3 OI G3 c0 c1
   go_wp2_with fail
   exact ⟨⟨k + 1, by omega, by go_num, H3⟩, by show l.length - ((k : Int) + 1).toNat < l.length - (k : Int).toNat; omega⟩
  ·obtain rfl : k = l.length := by omega
   have hst1 : KmAt wr w.heap.size l := by have h1 := hst.out.1; rwa [List.take_length] at h1
   have hst2 := hst.out.2.1
   rw [List.take_length] at hst2
   have hil : (l.map (·.item)).length = l.length := List.length_map _
   have OF := Lib.hid (I.ofl (Rws.ofOwn hst2 (by rw [hil]) (fun _ _ => rfl) (fun _ _ _ _ => trivial) : Vrs wr AnyB _ (l.map (·.item))) (by rw [hil]; have := HL.out; omega))
   have HK := Lib.hid hst1
   have HB := Lib.hid hst.out.2.2.1
   have HSz := Lib.hid hst.out.2.2.2
   clear hst1 hst2 hst hil
   go_wp2_with fail
   refine (OF.out).mono ?_
   rintro e w2 ⟨v2, rfl, h2, b2⟩
   obtain ⟨A2, cap2, rfl, hcap2⟩ := h2.parts
   have HV := Lib.hid h2
   have HK2 := Lib.hid (HK.out.below b2)
   have HB2 := Lib.hid (HB.out.trans (b2.mono HB.out.size))
   have HRb : Hid (∀ y ∈ Ver.sort (l.map (·.item)), Ver.Bd y) := Lib.hid (fun y hy => by
    obtain ⟨i, hi, rfl⟩ := List.mem_map.1 ((Ver.sort_mem _ _).1 hy)
    exact HBd.out i hi)
   have HRl : Hid ((Ver.sort (l.map (·.item))).length ≤ 99999) := Lib.hid (by
    have h1 := Ver.sort_len (l.map (·.item))
    rw [List.length_map] at h1
    exact Nat.le_trans h1 HL.out)
   have HFin : Hid (Know.items_of l = Know.itemsOf l (Ver.sort (l.map (·.item)))) := Lib.hid rfl
   clear h2 b2 OF HK HB
   generalize Ver.sort (l.map (·.item)) = R at *
   have hR0 : (R.length : Int) ≤ 99999 := by have h1 := HRl.out; omega
   go_wp2_with fail
   go_loopw [7, 37] (fun s7 i wr => ∃ k : Nat, k ≤ R.length ∧ i = .int .i64 (k : Int) ∧ Hid (RowsOwn 45 67 itV w2 (Know.itemsOf l (R.take k)) s7 wr)) (fun _ i _ => R.length - (intOf i).toNat)
   case atStart => exact ⟨0, Nat.zero_le _, rfl, Lib.hid (by rw [List.take_zero]; exact RowsOwn.start _ _ _ _)⟩
   case round =>
    obtain ⟨k, hk, rfl, hst⟩ := hrel
    by_cases hlt2 : k < R.length
    ·obtain ⟨b, o, cap1, e, -, -, hb⟩ := HV.out.block (by omega)
     injection e with e1 e2 e3
     subst e1 e3
     clear e2
     obtain ⟨y, hy⟩ : ∃ y, R[k]? = some y := ⟨_, List.getElem?_eq_getElem hlt2⟩
     have hym := HRb.out y (List.mem_of_getElem? hy)
     have hbr := hst.out.2
     obtain ⟨c0, c1⟩ := Vrs.at (Rws.below HV.out hbr) hy
     have hbA : Below wr.heap.size wr (wr.alloc (.cells #[.int .i64 y.by_, .int .i64 y.n] 33)) := (Below.refl _ _).alloc (Nat.le_refl _) _
     have hlk := ((HK2.out.below hbr).below hbA).look hym
     have hv65 := vecOf_len l y
     have hMore := Lib.hid (Know.itemsOf_more l (R.take k) y)
     have hTk : Hid (R.take (k + 1) = R.take k ++ [y]) := Lib.hid (by
      obtain ⟨hh, e⟩ := List.getElem?_eq_some_iff.1 hy
      rw [List.take_succ_eq_append_getElem hh, e])
     have hsz1 : (wr.alloc (.cells #[.int .i64 y.by_, .int .i64 y.n] 33)).heap.size = wr.heap.size + 1 := World.size_alloc _ _
     obtain ⟨y1, y2⟩ := y
     simp only at c0 c1 hbA hlk hsz1
     generalize hvv : Know.vecOf l ⟨y1, y2⟩ = vv at *
     have LV : Hid (Lies 28 ((wr.alloc (.cells #[.int .i64 y1, .int .i64 y2] 33)).alloc (.cells (vecL vv).toArray 28)) (wr.heap.size + 1) 0 (vecL vv)) := Lib.hid (by
      have h := range_row (Row.made (wr.alloc (.cells #[.int .i64 y1, .int .i64 y2] 33)) 28 (vecL vv).toArray)
      rw [hsz1] at h
      exact ⟨h, ⟨_, Tryz.underlying28, rfl⟩, vecSizeL hv65⟩)
     have hbB : Below wr.heap.size wr ((wr.alloc (.cells #[.int .i64 y1, .int .i64 y2] 33)).alloc (.cells (vecL vv).toArray 28)) := ((Below.refl _ _).alloc (Nat.le_refl _) _).alloc (by simp) _
     have XV : Hid (((wr.alloc (.cells #[.int .i64 y1, .int .i64 y2] 33)).alloc (.cells (vecL vv).toArray 28)).cell? ⟨wr.heap.size, 0, none⟩ = some (.int .i64 y1) ∧ ((wr.alloc (.cells #[.int .i64 y1, .int .i64 y2] 33)).alloc (.cells (vecL vv).toArray 28)).cell? ⟨wr.heap.size, 1, none⟩ = some (.int .i64 y2)) := Lib.hid (by
      have r := (Row.made wr 33 #[.int .i64 y1, .int .i64 y2]).behindNew (.cells (vecL vv).toArray 28)
      exact ⟨r.at 0, r.at 1⟩)
     have HSV : Hid ((Tryz.prog.info? 28).map (·.size) = some (vecL vv).length ∧ (vecL Vec.zeros).toArray.size = (vecL vv).length) := Lib.hid ⟨vecSizeL hv65, by rw [List.size_toArray, vecL_len, vecL_len, hv65, Vec.zeros_len]⟩
     have ve := fun w => vec_eqL hv65 Vec.zeros_len w
     have HV65 := Lib.hid hv65
     have Hs1 := Lib.hid hsz1
     have HRO := Lib.hid (hst.out.below hbB)
     have hk0 : (0 : Int) ≤ (k : Int) := by omega
     have hk1 : (k : Int) < (R.length : Int) := by omega
     have hk2 : (k : Int) ≤ 99999 := by omega
     clear hy hym hbr hbA hbB hv65 hst hsz1
     by_cases hvz0 : vv = Vec.zeros
     ·rw [decide_eq_true hvz0] at ve
      have HN : Hid (RowsOwn 45 67 itV w2 (Know.itemsOf l (R.take (k + 1))) u7 ((wr.alloc (.cells #[.int .i64 y1, .int .i64 y2] 33)).alloc (.cells (vecL vv).toArray 28))) := Lib.hid (by
       rw [hTk.out, hMore.out, if_pos (show vv = Know.zeros from hvz0)]
       exact HRO.out)
      clear hvz0
      go_wp2_with (first | refine wpList_nstoreAt Hs1.out (by rfl) _ _ (by rfl) (by rfl) (by rfl) HSV.out.1 HSV.out.2 (vec_one _) ?_ | refine wpList_mload (by rfl) _ (by rfl) (by rfl) LV.out ?_)
      exact ⟨⟨k + 1, by omega, by go_num, HN⟩, by show R.length - ((k : Int) + 1).toNat < R.length - (k : Int).toNat; omega⟩
     ·rw [decide_eq_false hvz0] at ve
      have OJ := HRO.out.1
      have OR1 := it_made1 ((wr.alloc (.cells #[.int .i64 y1, .int .i64 y2] 33)).alloc (.cells (vecL vv).toArray 28)) 45 ⟨⟨y1, y2⟩, vv⟩
      have hsz : (itV ⟨⟨y1, y2⟩, vv⟩).length = 67 := it_len HV65.out
      have hws := HRO.out.2.size
      have HIl : Hid ((Know.itemsOf l (R.take k)).length ≤ 99999) := Lib.hid (by
       have h1 := Know.itemsOf_len l (R.take k)
       rw [List.length_take] at h1
       have h2 := HRl.out
       omega)
      have HNx : Hid (Know.itemsOf l (R.take (k + 1)) = Know.itemsOf l (R.take k) ++ [⟨⟨y1, y2⟩, vv⟩]) := Lib.hid (by
       rw [hTk.out, hMore.out, if_neg (show ¬ vv = Know.zeros from hvz0)])
      obtain ⟨d0, d1⟩ := XV.out
      clear hvz0
      go_wp2_with (first | refine wpList_nstoreAt Hs1.out (by rfl) _ _ (by rfl) (by rfl) (by rfl) HSV.out.1 HSV.out.2 (vec_one _) ?_ | refine wpList_mload (by rfl) _ (by rfl) (by rfl) LV.out ?_ | refine wpList_itbuild (i := ⟨y1, y2⟩) (v := vv) rfl _ _ (by rfl) (by rfl) (by rfl) HV65.out ?_ | refine wpList_build1 rfl 23 45 _ rfl (by rfl) Tryz.underlying23 hi1 hy0 hy1 hsz ?_ | (at_builtin; refine wp_joins (f := itV) (k := 67) rfl _ _ 23 rfl w2.heap.size 45 i1 (itA itZ) 536 Tryz.underlying23 hi1 hy0 hy1 hy2 itZ_size (by decide) rfl rfl (OJ.alloc _) OR1 ?d1 ?d2 ?d3 ?d4 ?d5 ?_))
      try (case d1 => (intro x hx; rw [List.mem_singleton.1 hx]; exact hsz))
      try (case d2 => first | exact it_one _ | (intro x hx; rw [List.mem_singleton.1 hx]; exact it_one _))
      try (case d3 => (have h1 := HIl.out; have h2 : [(⟨⟨y1, y2⟩, vv⟩ : Know.It)].length = 1 := rfl; unfold maxLen; omega))
      try (case d4 => (have h1 := HIl.out; have h2 : [(⟨⟨y1, y2⟩, vv⟩ : Know.It)].length = 1 := rfl; omega))
      try (case d5 => (first | omega | exact Nat.le_succ_of_le hws | (rw [World.size_alloc]; exact Nat.le_succ_of_le hws)))
      intro v3 w3 own3 hg3 hn3
      have M3 := HRO.out.more (x := (⟨⟨y1, y2⟩, vv⟩ : Know.It)) (by simpa using own3) hg3
      have H3 : Hid (RowsOwn 45 67 itV w2 (Know.itemsOf l (R.take (k + 1))) v3 w3) := Lib.hid (by rw [HNx.out]; exact M3)
      clear own3 hg3 hn3 OJ OR1 M3 d0 d1
      go_wp2_with fail
      exact ⟨⟨k + 1, by omega, by go_num, H3⟩, by show R.length - ((k : Int) + 1).toNat < R.length - (k : Int).toNat; omega⟩
    ·obtain rfl : k = R.length := by omega
     have HO := Lib.hid hst.out
     rw [List.take_length] at HO
     have HItl : Hid (∀ i ∈ Know.itemsOf l R, i.v.length = 65) := Lib.hid (fun i hi => by
      rw [((Know.itemsOf_mem l R i).1 hi).2.1]; exact vecOf_len l _)
     have HIts : Hid (Its wr AnyB u7 (Know.items_of l)) := Lib.hid (by
      rw [HFin.out]
      exact ⟨(HO.out.rows (fun i hi => it_len (HItl.out i hi))).mono (fun _ _ => trivial), HItl.out⟩)
     have HBe := Lib.hid (HB2.out.trans (HO.out.2.mono HB2.out.size))
     clear hst
     go_wp2_with fail
     go_ret
     exact ⟨_, rfl, HIts.out, HBe.out⟩
open Go.RowKit Go.Sort
theorem Know.ordV_same : ∀ (p l m : List Int), Know.ordV (p ++ l) (p ++ m) = Know.ordV l m
 | [], _, _ => rfl
 | a :: p, l, m => by
  show (if a < a then -1 else if a < a then 1 else Know.ordV (p ++ l) (p ++ m)) = _
  rw [if_neg (Int.lt_irrefl a), if_neg (Int.lt_irrefl a)]
  exact Know.ordV_same p l m
theorem Know.ordV_self (l : List Int) : Know.ordV l l = 0 := by
 have := Know.ordV_same l [] []
 rw [List.append_nil] at this
 rw [this]; rfl
theorem Know.cmpN_self (a : Ver.V) : Know.cmpN a a = 0 := by unfold Know.cmpN; rw [if_neg (Ver.before_irrefl a), if_neg (Ver.before_irrefl a)]
theorem Know.ordN_same : ∀ (p l m : List Ver.V), Know.ordN (p ++ l) (p ++ m) = Know.ordN l m
 | [], _, _ => rfl
 | a :: p, l, m => by
  show (if Know.cmpN a a = 0 then Know.ordN (p ++ l) (p ++ m) else Know.cmpN a a) = _
  rw [if_pos (Know.cmpN_self a)]
  exact Know.ordN_same p l m
def Know.cmpI (a b : Int) : Int := if a < b then -1 else if b < a then 1 else 0
theorem Know.ordV_at {x y : List Int} {k : Nat} {a b : Int} (h : x.take k = y.take k) (hx : x[k]? = some a) (hy : y[k]? = some b) (hne : a ≠ b) : Know.ordV y x = Know.cmpI a b := by
 obtain ⟨h1, e1⟩ := List.getElem?_eq_some_iff.1 hx
 obtain ⟨h2, e2⟩ := List.getElem?_eq_some_iff.1 hy
 have ex : x = x.take k ++ a :: x.drop (k + 1) := by rw [← e1, List.getElem_cons_drop, List.take_append_drop]
 have ey : y = x.take k ++ b :: y.drop (k + 1) := by rw [h, ← e2, List.getElem_cons_drop, List.take_append_drop]
 rw [ex, ey, Know.ordV_same]
 unfold Know.ordV Know.cmpI
 by_cases c1 : a < b
 ·rw [if_pos c1, if_pos c1]
 ·rw [if_neg c1, if_neg c1, if_pos (by omega), if_pos (by omega)]
theorem Know.ordN_at {x y : List Ver.V} {k : Nat} {a b : Ver.V} (h : x.take k = y.take k) (hx : x[k]? = some a) (hy : y[k]? = some b) (hne : Know.cmpN a b ≠ 0) : Know.ordN x y = Know.cmpN a b := by
 obtain ⟨h1, e1⟩ := List.getElem?_eq_some_iff.1 hx
 obtain ⟨h2, e2⟩ := List.getElem?_eq_some_iff.1 hy
 have ex : x = x.take k ++ a :: x.drop (k + 1) := by rw [← e1, List.getElem_cons_drop, List.take_append_drop]
 have ey : y = x.take k ++ b :: y.drop (k + 1) := by rw [h, ← e2, List.getElem_cons_drop, List.take_append_drop]
 rw [ex, ey, Know.ordN_same]
 unfold Know.ordN
 rw [if_neg hne]
theorem Know.take_more {α : Type} {x y : List α} {k : Nat} {a : α} (h : x.take k = y.take k) (hx : x[k]? = some a) (hy : y[k]? = some a) : x.take (k + 1) = y.take (k + 1) := by
 obtain ⟨h1, e1⟩ := List.getElem?_eq_some_iff.1 hx
 obtain ⟨h2, e2⟩ := List.getElem?_eq_some_iff.1 hy
 rw [List.take_succ_eq_append_getElem h1, List.take_succ_eq_append_getElem h2, e1, e2, h]
theorem know_cmp (a b : Int) (w : World) : Calls Tryz.prog 77 #[.int .i64 a, .int .i64 b] w fun e w' => e = .returned (.int .i64 (Know.cmpI a b)) ∧ w' = w := by
 unfold Know.cmpI
 by_cases h1 : a < b
 ·rw [if_pos h1]
  go_enter Tryz.func77, Tryz.ntmps77
  go_wp2
  go_ret
  exact ⟨rfl, rfl⟩
 ·rw [if_neg h1]
  by_cases h2 : b < a
  ·rw [if_pos h2]
   go_enter Tryz.func77, Tryz.ntmps77
   go_wp2
   go_ret
   exact ⟨rfl, rfl⟩
  ·rw [if_neg h2]
   go_enter Tryz.func77, Tryz.ntmps77
   go_wp2
   go_ret
   exact ⟨rfl, rfl⟩
theorem know_or (a b : Int) {w : World} {bk : Nat} (c0 : w.cell? ⟨bk, 0, none⟩ = some (.int .i64 a)) (c1 : w.cell? ⟨bk, 1, none⟩ = some (.int .i64 b)) : Calls Tryz.prog 76 #[.slice (some ⟨bk, 0, none⟩) 2 2] w fun e w' => e = .returned (.int .i64 (if a = 0 then b else a)) ∧ w' = w := by
 by_cases h1 : a = 0
 ·subst h1
  rw [if_pos rfl]
  by_cases h2 : b = 0
  ·subst h2
   go_enter Tryz.func76, Tryz.ntmps76
   go_wp2_with fail
   refine wp_loop_rounds 3 ?_
   rw [rounds_succ]
   go_wp2_with fail
   rw [rounds_succ]
   go_wp2_with fail
   rw [rounds_succ]
   go_wp2_with fail
   go_ret
   exact ⟨rfl, rfl⟩
  ·go_enter Tryz.func76, Tryz.ntmps76
   go_wp2_with fail
   refine wp_loop_rounds 3 ?_
   rw [rounds_succ]
   go_wp2_with fail
   rw [rounds_succ]
   go_wp2_with fail
   go_ret
   exact ⟨rfl, rfl⟩
 ·rw [if_neg h1]
  go_enter Tryz.func76, Tryz.ntmps76
  go_wp2_with fail
  refine wp_loop_rounds 3 ?_
  rw [rounds_succ]
  go_wp2_with fail
  go_ret
  exact ⟨rfl, rfl⟩
theorem know_order1 (w : World) (a b : Ver.V) : Calls Tryz.prog 75 #[verA a, verA b] w fun e w' => e = .returned (.int .i64 (Know.cmpN a b)) ∧ Laid w w' := by
 obtain ⟨a1, a2⟩ := a
 obtain ⟨b1, b2⟩ := b
 obtain ⟨W0, hW⟩ : ∃ W0, W0 = (w.alloc (.cells #[.int .i64 a1, .int .i64 a2] 33)).alloc (.cells #[.int .i64 b1, .int .i64 b2] 33) := ⟨_, rfl⟩
 have HL : Hid (Laid w W0) := Lib.hid (by rw [hW]; exact ((Laid.refl w).alloc _).alloc _)
 have XB : Hid (∀ W, Laid W0 W → W.cell? ⟨w.heap.size, 0, none⟩ = some (.int .i64 a1) ∧ W.cell? ⟨w.heap.size, 1, none⟩ = some (.int .i64 a2) ∧ W.cell? ⟨w.heap.size + 1, 0, none⟩ = some (.int .i64 b1) ∧ W.cell? ⟨w.heap.size + 1, 1, none⟩ = some (.int .i64 b2)) := Lib.hid (fun W h => by
  have r0 : Row W0 w.heap.size 33 #[.int .i64 a1, .int .i64 a2] := by rw [hW]; exact (Row.made w _ _).behindNew _
  have r1 : Row W0 (w.heap.size + 1) 33 #[.int .i64 b1, .int .i64 b2] := by
   rw [hW]
   have := Row.made (w.alloc (.cells #[.int .i64 a1, .int .i64 a2] 33)) 33 #[.int .i64 b1, .int .i64 b2]
   rwa [World.size_alloc] at this
  have r0 := r0.below h.below r0.inHeap
  have r1 := r1.below h.below r1.inHeap
  exact ⟨r0.at 0, r0.at 1, r1.at 0, r1.at 1⟩)
 have CA := Lib.hid (fun W => know_cmp a1 b1 W)
 have CB := Lib.hid (fun W => know_cmp a2 b2 W)
 have E : Hid ((if Know.cmpI a1 b1 = 0 then Know.cmpI a2 b2 else Know.cmpI a1 b1) = Know.cmpN ⟨a1, a2⟩ ⟨b1, b2⟩) := Lib.hid (by
  unfold Know.cmpI Know.cmpN Ver.Before
  simp only
  repeat' split
  all_goals first | rfl | omega)
 generalize Know.cmpI a1 b1 = c at *
 generalize Know.cmpI a2 b2 = d at *
 generalize Know.cmpN ⟨a1, a2⟩ ⟨b1, b2⟩ = r at *
 have OR := Lib.hid (fun (W : World) (t : TypeId) => know_or (w := (W.alloc (.cells #[.int .i64 c, .int .i64 d] t)).drew) c d ((Row.made W t #[.int .i64 c, .int .i64 d]).at 0) ((Row.made W t #[.int .i64 c, .int .i64 d]).at 1))
 rw [E.out] at OR
 have HW := Lib.hid hW
 clear E
 go_enter Tryz.func75, Tryz.ntmps75
 go_wp2_with fail
 rw [← hW]
 clear hW
 refine wp_region_held_drew (S := (fun w' : World => Laid W0 w')) (by kernel_rfl) ((Laid.refl W0).drew) (fun hHeld => ?_)
 refine wpAnyH_td (i := 0) rfl ?_
 simp only [zz]
 refine wpAnyH_tk (i := 1) (v := ?_) rfl (Or.inl ⟨by rfl, (by intro w hSw; obtain ⟨c0, c1, c2, c3⟩ := XB.out _ hSw; go_simp; try with_reducible rfl)⟩) (by assumption) ?_
 simp only [zz]
 refine wpAnyH_td (i := 2) rfl ?_
 simp only [zz]
 refine wpAnyH_tk (i := 3) (v := ?_) rfl (Or.inl ⟨by rfl, (by intro w hSw; obtain ⟨c0, c1, c2, c3⟩ := XB.out _ hSw; go_simp; try with_reducible rfl)⟩) (by assumption) ?_
 simp only [zz]
 refine wpAnyH_td (i := 5) rfl ?_
 simp only [zz]
 refine wpAnyH_tk (i := 6) (v := ?_) rfl (Or.inl ⟨by rfl, (by intro w hSw; obtain ⟨c0, c1, c2, c3⟩ := XB.out _ hSw; go_simp; try with_reducible rfl)⟩) (by assumption) ?_
 simp only [zz]
 refine wpAnyH_td (i := 7) rfl ?_
 simp only [zz]
 refine wpAnyH_tk (i := 8) (v := ?_) rfl (Or.inl ⟨by rfl, (by intro w hSw; obtain ⟨c0, c1, c2, c3⟩ := XB.out _ hSw; go_simp; try with_reducible rfl)⟩) (by assumption) ?_
 simp only [zz]
 refine wpAnyH_ready (rs := [4]) (by kernel_rfl) (by simp) ?_
 refine AllReadyH.cons rfl (fun K hK => ?_) AllReadyH.nil
 go_simp
 go_at_call 77
 refine (CA.out _).mono ?_
 rintro e w4 ⟨rfl, rfl⟩
 refine hK.out _ _ hHeld (fun hHeld => ?_)
 clear hK K
 refine wpAnyH_ready (rs := [9]) (by kernel_rfl) (by simp) ?_
 refine AllReadyH.cons rfl (fun K hK => ?_) AllReadyH.nil
 go_simp
 go_at_call 77
 refine (CB.out _).mono ?_
 rintro e w5 ⟨rfl, rfl⟩
 refine hK.out _ _ hHeld (fun hHeld => ?_)
 clear hK K
 refine wpAnyH_ready (rs := [10]) (by kernel_rfl) (by simp) ?_
 refine AllReadyH.cons rfl (fun K hK => ?_) AllReadyH.nil
 go_simp
 have hL := hHeld.alloc (.cells #[.int .i64 c, .int .i64 d] 3)
 refine hK.out _ _ hL (fun hHeld => ?_)
 clear hL
 clear hK K
 refine wpAnyH_ready (rs := [11]) (by kernel_rfl) (by simp) ?_
 refine AllReadyH.cons rfl (fun K hK => ?_) AllReadyH.nil
 go_simp
 go_at_call 76
 refine (OR.out _ _).mono ?_
 rintro e w6 ⟨rfl, rfl⟩
 have F6 := Lib.hid hHeld
 refine hK.out _ _ hHeld (fun hHeld => ?_)
 clear hK K
 refine wpAnyH_td (i := 12) rfl ?_
 simp only [zz]
 refine wpAnyH_done (by kernel_rfl) ?_ _
 go_wp2_with fail
 go_ret
 exact ⟨rfl, HL.out.trans F6.out⟩
theorem know_cmpV {w : World} {b1 o1 b2 o2 c1 c2 : Nat} {x y : List Int} (hx : x.length = 65) (hy : y.length = 65) (rx : w.rangeAt b1 o1 (vecL x)) (ry : w.rangeAt b2 o2 (vecL y)) :
  Calls Tryz.prog 73 #[.slice (some ⟨b1, o1, none⟩) 65 c1, .slice (some ⟨b2, o2, none⟩) 65 c2] w fun e w' => e = .returned (.int .i64 (Know.ordV y x)) ∧ w' = w := by
 have CM := Lib.hid know_cmp
 have RX := Lib.hid rx
 have RY := Lib.hid ry
 have HX := Lib.hid hx
 have HY := Lib.hid hy
 clear rx ry hx hy
 go_enter Tryz.func73, Tryz.ntmps73
 go_wp2_with fail
 go_loopw [11] (fun i wr => ∃ k : Nat, k ≤ 65 ∧ i = .int .i64 (k : Int) ∧ Hid (x.take k = y.take k) ∧ wr = w) (fun i _ => 65 - (intOf i).toNat)
 case atStart => exact ⟨0, Nat.zero_le _, rfl, Lib.hid (by rw [List.take_zero, List.take_zero]), rfl⟩
 case round =>
  obtain ⟨k, hk, rfl, hs, rfl⟩ := hrel
  by_cases hlt : k < 65
  ·obtain ⟨a, ha⟩ : ∃ a, x[k]? = some a := ⟨_, List.getElem?_eq_getElem (by have := HX.out; omega)⟩
   obtain ⟨b, hb⟩ : ∃ b, y[k]? = some b := ⟨_, List.getElem?_eq_getElem (by have := HY.out; omega)⟩
   have c0 := RX.out k (.int .i64 a) (by unfold vecL; rw [List.getElem?_map, ha]; rfl)
   have d0 := RY.out k (.int .i64 b) (by unfold vecL; rw [List.getElem?_map, hb]; rfl)
   have hk0 : (0 : Int) ≤ (k : Int) := by omega
   have hk1 : (k : Int) < 65 := by omega
   by_cases hab : a = b
   ·subst hab
    have hn : Hid (x.take (k + 1) = y.take (k + 1)) := Lib.hid (Know.take_more hs.out ha hb)
    have hz : Know.cmpI a a = 0 := by unfold Know.cmpI; rw [if_neg (Int.lt_irrefl a), if_neg (Int.lt_irrefl a)]
    clear ha hb hs
    go_wp2_with (go_at_call 77; refine (CM.out _ _ _).mono ?_; rintro e w' ⟨rfl, rfl⟩; rw [hz])
    exact ⟨⟨k + 1, by omega, by go_num, hn, by first | rfl | trivial⟩, by show 65 - ((k : Int) + 1).toNat < 65 - (k : Int).toNat; omega⟩
   ·have he := Lib.hid (Know.ordV_at hs.out ha hb hab)
    have hz : ¬ Know.cmpI a b = 0 := by unfold Know.cmpI; intro h; split at h <;> first | omega | (split at h <;> omega)
    have CA := Lib.hid (fun W => know_cmp a b W)
    clear ha hb hs
    generalize Know.cmpI a b = c at *
    go_wp2_with (go_at_call 77; refine (CA.out _).mono ?_; rintro e w' ⟨rfl, rfl⟩)
    go_ret
    exact ⟨by (rw [he.out]) <;> rfl, rfl⟩
  ·have hk1 : ¬ (k : Int) < 65 := by omega
   have he : Hid (Know.ordV y x = 0) := Lib.hid (by
    have := hs.out
    rw [List.take_of_length_le (by have := HX.out; omega), List.take_of_length_le (by have := HY.out; omega)] at this
    rw [this]; exact Know.ordV_self y)
   clear hs
   go_wp2_with fail
   go_ret
   exact ⟨by (rw [he.out]) <;> rfl, rfl⟩
theorem know_cmpF {w : World} {F G : Nat → Prop} {u v : Value} {x y : List Ver.V} (hx : Vrs w F u x) (hy : Vrs w G v y) (lx : x.length ≤ 100000) (ly : y.length ≤ 100000) :
  Calls Tryz.prog 74 #[u, v, .func (.func 75) #[] #[]] w fun e w' => e = .returned (.int .i64 (Know.ordN x y)) ∧ Laid w w' := by
 obtain ⟨A, ca, rfl, hca⟩ := hx.parts
 obtain ⟨B, cb, rfl, hcb⟩ := hy.parts
 have HX := Lib.hid hx
 have HY := Lib.hid hy
 have CM := Lib.hid know_order1
 have lx' : (x.length : Int) ≤ 100000 := by omega
 have ly' : (y.length : Int) ≤ 100000 := by omega
 clear hx hy
 go_enter Tryz.func74, Tryz.ntmps74
 go_wp2_with fail
 go_loopw [13] (fun i wr => ∃ k : Nat, k ≤ x.length ∧ k ≤ y.length ∧ i = .int .i64 (k : Int) ∧ Hid (x.take k = y.take k) ∧ Hid (Laid w wr)) (fun i _ => x.length - (intOf i).toNat)
 case atStart => exact ⟨0, Nat.zero_le _, Nat.zero_le _, rfl, Lib.hid (by rw [List.take_zero, List.take_zero]), Lib.hid (Laid.refl _)⟩
 case round =>
  obtain ⟨k, hk, hky, rfl, hs, hl⟩ := hrel
  by_cases hlt : k < x.length
  ·obtain ⟨a, ha⟩ : ∃ a, x[k]? = some a := ⟨_, List.getElem?_eq_getElem hlt⟩
   obtain ⟨b1, o1, cap1, e, -, -, hb1⟩ := HX.out.block (by omega)
   injection e with e1 e2 e3
   subst e1 e3
   clear e2
   obtain ⟨c0, c1⟩ := Vrs.at (HX.out.below hl.out.below) ha
   have hk0 : (0 : Int) ≤ (k : Int) := by omega
   have hk1 : (k : Int) < (x.length : Int) := by omega
   by_cases hlt2 : k < y.length
   ·obtain ⟨b, hb⟩ : ∃ b, y[k]? = some b := ⟨_, List.getElem?_eq_getElem hlt2⟩
    obtain ⟨b2, o2, cap2, e, -, -, hb2⟩ := HY.out.block (by omega)
    injection e with e1 e2 e3
    subst e1 e3
    clear e2
    obtain ⟨d0, d1⟩ := Vrs.at (HY.out.below (hl.out.alloc (.cells #[.int .i64 a.by_, .int .i64 a.n] 33)).below) hb
    have hk2 : (k : Int) < (y.length : Int) := by omega
    have hk3 : ¬ (y.length : Int) ≤ (k : Int) := by omega
    have L1 := Lib.hid ((hl.out.alloc (.cells #[.int .i64 a.by_, .int .i64 a.n] 33)).alloc (.cells #[.int .i64 b.by_, .int .i64 b.n] 33))
    have CC := Lib.hid (fun W => CM.out W a b)
    by_cases hz : Know.cmpN a b = 0
    ·have e := (Know.cmpN_spec a b).2.1.1 hz
     subst e
     rw [hz] at CC
     have hn : Hid (x.take (k + 1) = y.take (k + 1)) := Lib.hid (Know.take_more hs.out ha hb)
     obtain ⟨a1, a2⟩ := a
     simp only at c0 c1 d0 d1 L1
     clear ha hb hs hz
     go_wp2_with fail
     refine (CC.out _).mono ?_
     rintro e w3 ⟨rfl, h3⟩
     have L3 := Lib.hid (L1.out.trans h3)
     clear h3 c0 c1 d0 d1
     go_wp2_with fail
     exact ⟨⟨k + 1, by omega, by omega, by go_num, hn, L3⟩, by show x.length - ((k : Int) + 1).toNat < x.length - (k : Int).toNat; omega⟩
    ·have he := Lib.hid (Know.ordN_at hs.out ha hb hz)
     obtain ⟨a1, a2⟩ := a
     obtain ⟨b1, b2⟩ := b
     simp only at c0 c1 d0 d1 L1
     clear ha hb hs
     generalize Know.cmpN ⟨a1, a2⟩ ⟨b1, b2⟩ = c at *
     go_wp2_with fail
     refine (CC.out _).mono ?_
     rintro e w3 ⟨rfl, h3⟩
     have L3 := Lib.hid (L1.out.trans h3)
     clear h3 c0 c1 d0 d1
     go_wp2_with fail
     go_ret
     exact ⟨by (rw [he.out]) <;> rfl, L3.out⟩
   ·have hk3 : (y.length : Int) ≤ (k : Int) := by omega
    have he : Hid (Know.ordN x y = 1) := Lib.hid (by
     have h := hs.out
     obtain ⟨h1, e1⟩ := List.getElem?_eq_some_iff.1 ha
     have ex : x = y ++ a :: x.drop (k + 1) := by
      conv => lhs; rw [← List.take_append_drop k x, h, List.take_of_length_le (by omega)]
      rw [← e1, List.getElem_cons_drop]
     rw [ex]
     have := Know.ordN_same y (a :: x.drop (k + 1)) []
     rw [List.append_nil] at this
     rw [this]; rfl)
    have L1 := Lib.hid (hl.out.alloc (.cells #[.int .i64 a.by_, .int .i64 a.n] 33))
    obtain ⟨a1, a2⟩ := a
    simp only at c0 c1 L1
    clear ha hs
    go_wp2_with fail
    go_ret
    exact ⟨by (rw [he.out]) <;> rfl, L1.out⟩
  ·obtain rfl : k = x.length := by omega
   have hpre : x = y.take x.length := by have := hs.out; rwa [List.take_length] at this
   by_cases hl2 : x.length < y.length
   ·have he : Hid (Know.ordN x y = -1) := Lib.hid (by
     have ey : y = x ++ y[x.length] :: y.drop (x.length + 1) := by
      conv => lhs; rw [← List.take_append_drop x.length y, ← hpre]
      rw [List.getElem_cons_drop]
     rw [ey]
     have := Know.ordN_same x [] (y[x.length] :: y.drop (x.length + 1))
     rw [List.append_nil] at this
     rw [this]; rfl)
    have hlc : (x.length : Int) < (y.length : Int) := by omega
    clear hs hpre
    go_wp2_with fail
    go_ret
    exact ⟨by (rw [he.out]) <;> rfl, hl.out⟩
   ·have he : Hid (Know.ordN x y = 0) := Lib.hid (by
     rw [List.take_of_length_le (by omega)] at hpre
     rw [← hpre]; exact (Know.ordN_spec x x).2.1.2 rfl)
    have hlc : ¬ (x.length : Int) < (y.length : Int) := by omega
    clear hs hpre
    go_wp2_with fail
    go_ret
    exact ⟨by (rw [he.out]) <;> rfl, hl.out⟩
theorem know_order {w : World} {F G : Nat → Prop} {r s : RFr} (hr : r.In w F) (hs : s.In w G) (lr : r.x.no.length ≤ 100000) (ls : s.x.no.length ≤ 100000) :
  Calls Tryz.prog 44 #[frA r, frA s] w fun e w' => e = .returned (.int .i64 (Know.order r.x s.x)) ∧ Laid w w' := by
 have start : ∃ W, W = (w.alloc (.cells (rfV r).toArray 31)).alloc (.cells (rfV s).toArray 31) ∧ FrAt W w.heap.size 0 r ∧ FrAt W (w.heap.size + 1) 0 s ∧ Laid w W := by
  refine ⟨_, rfl, (FrAt.made w hr.len _).below ((Below.refl _ _).alloc (Nat.le_refl _) _) (by simp), ?_, ((Laid.refl w).alloc _).alloc _⟩
  have := FrAt.made (w.alloc (.cells (rfV r).toArray 31)) hs.len 31
  rwa [World.size_alloc] at this
 obtain ⟨W, hW, f0, f1, hL⟩ := start
 have CV := Lib.hid (fun (q : Nat) => know_cmpV (w := W.drewN q) (c1 := 65) (c2 := 65) hs.len hr.len f1.v0.at_ f0.v0.at_)
 have CN := Lib.hid (fun (W' : World) (h : Laid W W') => know_cmpF (hr.no.below (hL.trans h).below) (hs.no.below (hL.trans h).below) lr ls)
 have n0 := f0.no0
 have n1 := f1.no0
 have EO : Hid (Know.order r.x s.x = if Know.ordV r.x.v s.x.v = 0 then Know.ordN r.x.no s.x.no else Know.ordV r.x.v s.x.v) := Lib.hid rfl
 have HL := Lib.hid hL
 have HW := Lib.hid hW
 obtain ⟨A, ca, eA, -⟩ := hr.no.parts
 obtain ⟨B, cb, eB, -⟩ := hs.no.parts
 rw [eA] at n0 CN
 rw [eB] at n1 CN
 clear hr hs f0 f1 hL eA eB
 generalize Know.ordV r.x.v s.x.v = c at *
 generalize Know.ordN r.x.no s.x.no = d at *
 by_cases hc : c = 0
 ·subst hc
  go_enter Tryz.func44, Tryz.ntmps44
  go_wp2_with fail
  rw [← hW]
  clear hW
  go_quiet ((go_at_call 73; exact Calls.quiet_of_same (CV.out _)))
  have CN2 := Lib.hid (CN.out (W.drewN nq) ((Laid.refl W).draws nq))
  clear CV CN
  go_wp2_with fail
  refine (CN2.out).mono ?_
  rintro e w2 ⟨rfl, h2⟩
  have L2 := Lib.hid (HL.out.trans (((Laid.refl W).draws nq).trans h2))
  clear h2
  go_wp2_with fail
  go_ret
  exact ⟨by (rw [EO.out]) <;> rfl, L2.out⟩
 ·go_enter Tryz.func44, Tryz.ntmps44
  go_wp2_with fail
  rw [← hW]
  clear hW
  go_quiet ((go_at_call 73; exact Calls.quiet_of_same (CV.out _)))
  clear CV CN
  go_wp2_with fail
  go_ret
  exact ⟨by (rw [EO.out, if_neg hc]) <;> rfl, HL.out.trans ((Laid.refl W).draws nq)⟩
end Go.Proofs.YtkcgmnhjofoeiaaGreat
