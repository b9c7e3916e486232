import Derived.Test.YtkcgmnhjofoeiaaGreatCom32
import Derived.Test.YtkcgmnhjofoeiaaGreatCom15
import Derived.Test.YtkcgmnhjofoeiaaGreatCom6
import Derived.Test.YtkcgmnhjofoeiaaGreatCom17
import Derived.Test.YtkcgmnhjofoeiaaGreatCom11
import Derived.Test.YtkcgmnhjofoeiaaGreatCom5
import Derived.Test.YtkcgmnhjofoeiaaGreatCom9
import Derived.Great.Walk
set_option maxRecDepth 100000
set_option linter.all false
set_option maxHeartbeats 12800000
namespace Go.Proofs.YtkcgmnhjofoeiaaGreat
open Go.RowKit Go.Sort
def Know.farOf (l : List Know.Fr) (v : Ver.V) : List Flt.Cl := (l.filter fun x => decide (Vec.Has x.v v)).flatMap (·.f)
theorem Know.farOf_more (l : List Know.Fr) (x : Know.Fr) (v : Ver.V) : Know.farOf (l ++ [x]) v = Know.farOf l v ++ if Vec.Has x.v v then x.f else [] := by
 unfold Know.farOf
 rw [List.filter_append, List.flatMap_append]
 congr 1
 by_cases h : Vec.Has x.v v
 ·simp [h]
 ·simp [h]
theorem Know.farOf_len (l : List Know.Fr) (v : Ver.V) : (Know.farOf l v).length ≤ Know.many l := by
 induction l with
 | nil => exact Nat.le_refl _
 | cons x l ih =>
  unfold Know.farOf Know.many at *
  rw [List.filter_cons]
  split
  ·rw [List.flatMap_cons, List.length_append, List.map_cons, List.sum_cons]; omega
  ·rw [List.map_cons, List.sum_cons]; omega
theorem Know.farOf_right {l : List Know.Fr} (h : ∀ x ∈ l, Know.Sane x.f) (v : Ver.V) : ∀ c ∈ Know.farOf l v, Flt.Right c := by
 intro c hc
 obtain ⟨x, hx, hcx⟩ := List.mem_flatMap.1 hc
 exact h x (List.mem_filter.1 hx).1 c hcx
theorem Know.far_whole (l : List Know.Fr) (item v : Ver.V) (f : List Flt.Cl) : Know.ByWhole l item v f ↔ Know.farOf (l.filter fun x => !decide (item ∈ x.no)) v ≠ [] ∧ Cov.Subs (Know.farOf (l.filter fun x => !decide (item ∈ x.no)) v) f := by
 have hw : Know.whole l item v = Know.farOf (l.filter fun x => !decide (item ∈ x.no)) v := by
  unfold Know.whole Know.farOf
  rw [List.filter_filter]
  induction l with
  | nil => rfl
  | cons x l ih =>
   rw [List.filter_cons, List.filter_cons]
   by_cases hf : x.f = []
   ·rw [if_neg (by simp [Know.Fits, hf])]
    split
    ·rw [List.flatMap_cons, hf, List.nil_append]; exact ih
    ·exact ih
   ·by_cases h : Vec.Has x.v v ∧ item ∉ x.no
    ·rw [if_pos (by simp [Know.Fits, hf, h.1, h.2]), if_pos (by simp [h.1, h.2]), List.flatMap_cons, List.flatMap_cons, ih]
    ·rw [if_neg (by rw [decide_eq_true_iff]; exact fun q => h q.2), if_neg (by simp only [Bool.and_eq_true, decide_eq_true_iff, Bool.not_eq_true', decide_eq_false_iff_not]; exact h)]
     exact ih
 unfold Know.ByWhole
 rw [hw]
 refine and_congr_left (fun _ => ?_)
 rw [← hw]
 unfold Know.whole
 constructor
 ·rintro ⟨x, hx, h⟩ e
  have : x.f = [] := by
   have h1 := List.flatMap_eq_nil_iff.1 e x (List.mem_filter.2 ⟨hx, by simpa using h⟩)
   exact h1
  exact h.1 this
 ·intro h
  cases hl : (l.filter fun x => decide (Know.Fits x item v)) with
  | nil => rw [hl] at h; exact absurd rfl h
  | cons x t =>
   have hx : x ∈ l.filter fun x => decide (Know.Fits x item v) := by rw [hl]; exact List.mem_cons_self ..
   obtain ⟨h1, h2⟩ := List.mem_filter.1 hx
   exact ⟨x, h1, by simpa using h2⟩
theorem know_haver1 (I : IsetOk) {w : World} {F : Nat → Prop} {r : RFr} {item : Ver.V} {bi : Nat} (hr : r.In w F) (hn : r.x.no.length ≤ 100000) (hb : bi < w.heap.size) (c0 : w.cell? ⟨bi, 0, none⟩ = some (.int .i64 item.by_)) (c1 : w.cell? ⟨bi, 1, none⟩ = some (.int .i64 item.n)) :
  Calls Tryz.prog 64 #[.agg (rfV r).toArray, .pointer (some ⟨bi, 0, none⟩)] w fun e w' => e = .returned (.bool (decide (item ∈ r.x.no))) ∧ Below w.heap.size w w' := by
 have hbA : Below w.heap.size w (w.alloc (.cells (rfV r).toArray 31)) := (Below.refl _ _).alloc (Nat.le_refl _) _
 have n0 := (FrAt.made w hr.len 31).no0
 have d0 := (hbA.cell (p := ⟨bi, 0, none⟩) hb).trans c0
 have d1 := (hbA.cell (p := ⟨bi, 1, none⟩) hb).trans c1
 have IH := Lib.hid (I.has item (hr.no.below hbA) (by omega))
 obtain ⟨A, ca, eA, -⟩ := hr.no.parts
 rw [eA] at n0 IH
 obtain ⟨i1, i2⟩ := item
 simp only at d0 d1 IH ⊢
 have HbA := Lib.hid hbA
 clear c0 c1 hr eA hbA
 generalize decide ((⟨i1, i2⟩ : Ver.V) ∈ r.x.no) = t at *
 go_enter Tryz.func64, Tryz.ntmps64
 go_wp2_with fail
 refine (IH.out).mono ?_
 rintro e w1 ⟨rfl, h1⟩
 have H1 := Lib.hid (HbA.out.trans (h1.mono HbA.out.size))
 clear h1 n0 d0 d1
 go_wp2_with fail
 go_ret
 exact ⟨rfl, H1.out⟩
structure Haves (w : World) (fv : Value) (rs : List RFr) (f : List Flt.Cl) (c d : Nat) (sv uv : Value) : Prop where
 fv : fv = .func (.func 66) #[] #[.pointer (some ⟨c, 0, none⟩), .pointer (some ⟨d, 0, none⟩)]
 hc : c < w.heap.size
 hd : d < w.heap.size
 cc : w.cell? ⟨c, 0, none⟩ = some sv
 cd : w.cell? ⟨d, 0, none⟩ = some uv
 rows : Rws 67 rfV w AnyB sv rs
 ins : ∀ r ∈ rs, r.In w AnyB
 f : Cls w AnyB uv f
theorem Haves.below {w w' : World} {fv : Value} {rs : List RFr} {f : List Flt.Cl} {c d : Nat} {sv uv : Value} (h : Haves w fv rs f c d sv uv) (k : Below w.heap.size w w') : Haves w' fv rs f c d sv uv :=
 ⟨h.fv, Nat.lt_of_lt_of_le h.hc k.size, Nat.lt_of_lt_of_le h.hd k.size, (k.cell (p := ⟨c, 0, none⟩) h.hc).trans h.cc, (k.cell (p := ⟨d, 0, none⟩) h.hd).trans h.cd, Rws.below h.rows k, fun r hr => (h.ins r hr).below k, Rws.below h.f k⟩
theorem know_haver (I : IsetOk) {w : World} {F G : Nat → Prop} {v u : Value} {rs : List RFr} {f : List Flt.Cl} (item : Ver.V) (h : Rws 67 rfV w F v rs) (hi : ∀ r ∈ rs, r.In w F) (hf : Cls w G u f) (hl : rs.length ≤ 100000) (hn : ∀ r ∈ rs, r.x.no.length ≤ 100000) :
  Calls Tryz.prog 34 #[v, verA item, u] w fun e w' => ∃ fv c d sv uv, e = .returned fv ∧ Haves w' fv (rs.filter fun r => !decide (item ∈ r.x.no)) f c d sv uv ∧ Below w.heap.size w w' := by
 obtain ⟨A, cap, rfl, hcap⟩ := h.parts
 obtain ⟨B, capb, rfl, hcapb⟩ := hf.parts
 obtain ⟨W0, hW0⟩ : ∃ W0, W0 = (w.alloc (.cells #[.int .i64 item.by_, .int .i64 item.n] 33)).alloc (.cells #[.slice B f.length capb] 26) := ⟨_, rfl⟩
 have hb0 : Below w.heap.size w W0 := by rw [hW0]; exact ((Below.refl _ _).alloc (Nat.le_refl _) _).alloc (by simp) _
 have hs0 : W0.heap.size = w.heap.size + 1 + 1 := by rw [hW0]; simp
 have r0 : Row W0 w.heap.size 33 #[.int .i64 item.by_, .int .i64 item.n] := by rw [hW0]; exact (Row.made w _ _).behindNew _
 have r1 : Row W0 (w.heap.size + 1) 26 #[.slice B f.length capb] := by
  rw [hW0]
  have := Row.made (w.alloc (.cells #[.int .i64 item.by_, .int .i64 item.n] 33)) 26 #[.slice B f.length capb]
  rwa [World.size_alloc] at this
 have hlen : ∀ r ∈ rs, (rfV r).length = 67 := fun r hr => rf_len (hi r hr).len
 have CL := Lib.hid (fr_clone (Rws.below h hb0) hlen (fun r hr => (hi r hr).one) hl)
 have HI := Lib.hid (fun r hr => (hi r hr).below hb0)
 have HF := Lib.hid (Rws.below hf hb0)
 have HN := Lib.hid hn
 have HLn := Lib.hid hlen
 have HB0 := Lib.hid hb0
 have HS0 := Lib.hid hs0
 have HR0 := Lib.hid r0
 have HR1 := Lib.hid r1
 have HW0 := Lib.hid hW0
 have hsf : ∀ (w : World) (a : Addr) (m : Mode) (fn : Fn) (fi ca : Array Value), (store a (.func fn fi ca) m).run Tryz.prog w = stored Tryz.prog w a (.func fn fi ca) m := fun w a m fn fi ca => run_store Tryz.prog w a _ m rfl
 obtain ⟨x1, x2⟩ := item
 simp only at hW0 HR0 HW0 ⊢
 clear h hi hf hn hlen hb0 r0 r1 hs0
 go_enter Tryz.func34, Tryz.ntmps34
 go_wp2_with fail
 rw [← hW0]
 clear hW0
 refine (CL.out).mono ?_
 rintro e w1 ⟨v1, rfl, h1⟩
 have F1 := Lib.hid (FOwn.of h1 HI.out)
 have DL := Lib.hid (fr_delete (pv := .pointer (some ⟨w.heap.size, 0, none⟩)) (p := fun r => decide ((⟨x1, x2⟩ : Ver.V) ∈ r.x.no)) h1 HLn.out (fun r hr => (HI.out r hr).one) hl (fun W hW r hr => by
  have hown := fun g hg => (h1.1.lt g hg).1
  have hin := (F1.out.ins r hr).kept hW (fun i hi e => hi e)
  have hbl : w.heap.size < w1.heap.size := by have := h1.2.size; have := HS0.out; omega
  have row := HR0.out.below h1.2 HR0.out.inHeap
  refine know_haver1 I (item := ⟨x1, x2⟩) hin (HN.out r hr) (Nat.lt_of_lt_of_le hbl hW.size) ?_ ?_
  ·exact (hW.cell (p := ⟨w.heap.size, 0, none⟩) hbl (fun e => by have h := hown w.heap.size e; have := HS0.out; omega)).trans (row.at 0)
  ·exact (hW.cell (p := ⟨w.heap.size, 1, none⟩) hbl (fun e => by have h := hown w.heap.size e; have := HS0.out; omega)).trans (row.at 1)))
 clear h1 CL
 go_wp2_with fail
 refine (DL.out).mono ?_
 rintro e w2 ⟨v2, rfl, hv2, h2, k2⟩
 have hlt1 : ∀ g, v1.ownBlock = some g → W0.heap.size ≤ g ∧ g < w1.heap.size := fun g hg => F1.out.own.1.lt g hg
 have hb2 : Below W0.heap.size W0 w2 := F1.out.own.2.trans (k2.below F1.out.own.2.size (fun i hi => (hlt1 i hi).1))
 obtain ⟨A2, cap2, e2, -⟩ := (h2.rows (fun r hr => HLn.out r (List.mem_filter.1 hr).1)).parts
 subst e2
 have hb3 : Below w2.heap.size w2 (w2.alloc (.cells #[.slice A2 (rs.filter fun x => !decide ((⟨x1, x2⟩ : Ver.V) ∈ x.x.no)).length cap2] 22)) := (Below.refl _ _).alloc (Nat.le_refl _) _
 have hr3 := Row.made w2 22 #[.slice A2 (rs.filter fun x => !decide ((⟨x1, x2⟩ : Ver.V) ∈ x.x.no)).length cap2]
 have HV : Hid (Haves (w2.alloc (.cells #[.slice A2 (rs.filter fun x => !decide ((⟨x1, x2⟩ : Ver.V) ∈ x.x.no)).length cap2] 22)) (.func (.func 66) #[] #[.pointer (some ⟨w2.heap.size, 0, none⟩), .pointer (some ⟨w.heap.size + 1, 0, none⟩)]) (rs.filter fun r => !decide ((⟨x1, x2⟩ : Ver.V) ∈ r.x.no)) f w2.heap.size (w.heap.size + 1) (.slice A2 (rs.filter fun x => !decide ((⟨x1, x2⟩ : Ver.V) ∈ x.x.no)).length cap2) (.slice B f.length capb)) := Lib.hid
  ⟨rfl, by simp, by have h1 := hb2.size; have h2 := HS0.out; simp; omega, hr3.at 0, (((HR1.out.below hb2 HR1.out.inHeap).below hb3 (HR1.out.below hb2 HR1.out.inHeap).inHeap).at 0),
   (Rws.below (h2.rows (fun r hr => HLn.out r (List.mem_filter.1 hr).1)) hb3).mono (fun _ _ => trivial),
   fun r hr => (((F1.out.ins r (List.mem_filter.1 hr).1).kept k2 (fun i hi e => hi e)).below hb3).any, (Rws.below (Rws.below HF.out hb2) hb3).mono (fun _ _ => trivial)⟩
 have HB2 := Lib.hid (HB0.out.trans ((hb2.trans (hb3.mono hb2.size)).mono HB0.out.size))
 clear h2 k2 hb2 hb3 hr3 hlt1 hv2
 go_wp2_with fail
 go_ret
 exact ⟨_, _, _, _, _, rfl, HV.out, HB2.out⟩
open Go.RowKit Go.Sort
theorem cov_lift {w : World} {F : Nat → Prop} {v : Value} {l : List Flt.Cl} (h : Cls w F v l) : Cls w AnyB v l := h.mono (fun _ _ => trivial)
theorem know_haver2 (V : VecOk) (C : CoverOk) {w : World} {fv : Value} {rs : List RFr} {f : List Flt.Cl} {c d : Nat} {sv uv : Value} (h : Haves w fv rs f c d sv uv) (v : Ver.V) (hv : Ver.Bd v) (hm : Know.many (rs.map (·.x)) ≤ 100000) (hl : rs.length ≤ 99999) (hs : ∀ r ∈ rs, Know.Sane r.x.f) (hf : Cov.Ok f) :
  Calls Tryz.prog 66 #[verA v, .pointer (some ⟨c, 0, none⟩), .pointer (some ⟨d, 0, none⟩)] w fun e w' => e = .returned (.bool (decide (Know.farOf (rs.map (·.x)) v ≠ [] ∧ Cov.Subs (Know.farOf (rs.map (·.x)) v) f))) ∧ Below w.heap.size w w' := by
 obtain ⟨i0, hi0, hz0, hz1, hz2⟩ := info_parts clauseInfo
 have hz := frZero
 obtain ⟨v1, v2⟩ := v
 have hbA : Below w.heap.size w (w.alloc (.cells #[.int .i64 v1, .int .i64 v2] 33)) := (Below.refl _ _).alloc (Nat.le_refl _) _
 have hA := h.below hbA
 have c0 := hA.cc
 obtain ⟨A, cap, esv, hcap⟩ := h.rows.parts
 subst esv
 have XB := Lib.hid (Row.made w 33 #[.int .i64 v1, .int .i64 v2])
 have HA := Lib.hid hA
 have HbA := Lib.hid hbA
 have HB : Hid (∀ k, k ≤ rs.length → (Know.farOf ((rs.take k).map (·.x)) ⟨v1, v2⟩).length ≤ 100000) := Lib.hid (fun k hk => by
  refine Nat.le_trans (Know.farOf_len _ _) (Nat.le_trans ?_ hm)
  conv => rhs; rw [← List.take_append_drop k rs, List.map_append, Know.many_app]
  exact Nat.le_add_right _ _)
 have HOk : Hid (Cov.Ok (Know.farOf (rs.map (·.x)) ⟨v1, v2⟩)) := Lib.hid (Cov.Ok.of (Nat.le_trans (Know.farOf_len _ _) hm) (Know.farOf_right (fun x hx => by
  obtain ⟨r, hr, rfl⟩ := List.mem_map.1 hx
  exact hs r hr) _))
 have hl0 : (rs.length : Int) ≤ 99999 := by omega
 have HL := Lib.hid hl
 have Hv := Lib.hid hv
 have HfO := Lib.hid hf
 clear h hbA hA hm hl hs hv hf
 go_enter Tryz.func66, Tryz.ntmps66
 go_wp2_with fail
 generalize hW0 : w.alloc (.cells #[.int .i64 v1, .int .i64 v2] 33) = W0 at *
 clear hW0 c0
 go_loopw [5, 10] (fun s5 i wr => ∃ k : Nat, k ≤ rs.length ∧ i = .int .i64 (k : Int) ∧ Hid (RowsOwn 87 3 clV W0 (Know.farOf ((rs.take k).map (·.x)) ⟨v1, v2⟩) s5 wr)) (fun _ i _ => rs.length - (intOf i).toNat)
 case atStart => exact ⟨0, Nat.zero_le _, rfl, Lib.hid (by rw [List.take_zero]; exact RowsOwn.start _ _ _ _)⟩
 case round =>
  obtain ⟨k, hk, rfl, hst⟩ := hrel
  by_cases hlt : k < rs.length
  ·obtain ⟨b, o, cap1, e, -, -, hb⟩ := HA.out.rows.block (by omega)
   injection e with e1 e2 e3
   subst e1 e3
   clear e2
   obtain ⟨r, hr⟩ : ∃ r, rs[k]? = some r := ⟨_, List.getElem?_eq_getElem hlt⟩
   have hIn := HA.out.ins r (List.mem_of_getElem? hr)
   have hbr := hst.out.2
   have LE := Lib.hid ((FrAt.elem HA.out.rows hr hIn.len).below hbr hb)
   have hone := Lib.hid hIn.one
   have HS : Hid ((Tryz.prog.info? 31).map (·.size) = some (rfV r).length ∧ (rfV frZ).toArray.size = (rfV r).length) := Lib.hid ⟨frSize hIn.len, by rw [rf_len hIn.len]; exact frZ_size⟩
   have hbB : Below wr.heap.size wr (wr.alloc (.cells (rfV r).toArray 31)) := (Below.refl _ _).alloc (Nat.le_refl _) _
   have FB := FrAt.made wr hIn.len 31
   have hbx : wr.heap.size < (wr.alloc (.cells (rfV r).toArray 31)).heap.size := by simp
   have V0 := Lib.hid FB.v0
   have hbAll := hbr.trans (hbB.mono hbr.size)
   have XR := XB.out.below hbAll XB.out.inHeap
   have c0 := XR.at 0
   have c1 := XR.at 1
   simp only [List.getElem?_toArray, List.getElem?_cons_zero, List.getElem?_cons_succ] at c0 c1
   have VH := Lib.hid (fun W => V.has (w := W) ⟨v1, v2⟩ hIn.len Hv.out)
   obtain ⟨A2, c2, eA, -⟩ := hIn.f.parts
   have CX := Lib.hid (fun (W : World) (h : Below (wr.alloc (.cells (rfV r).toArray 31)).heap.size (wr.alloc (.cells (rfV r).toArray 31)) W) => ((FB.below h hbx).f.trans (congrArg some eA) : W.cell? ⟨wr.heap.size, 0, none⟩ = some (.slice A2 r.x.f.length c2)))
   have ZF := Lib.hid (fun (W : World) (h : Below (wr.alloc (.cells (rfV r).toArray 31)).heap.size (wr.alloc (.cells (rfV r).toArray 31)) W) => (eA ▸ Rws.below (Rws.below hIn.f hbAll) h : Cls W AnyB (.slice A2 r.x.f.length c2) r.x.f))
   have HO1 := Lib.hid (hst.out.below hbB)
   have HMo := Lib.hid (Know.farOf_more ((rs.take k).map (·.x)) r.x ⟨v1, v2⟩)
   have hTk : Hid ((rs.take (k + 1)).map (·.x) = (rs.take k).map (·.x) ++ [r.x]) := Lib.hid (by
    obtain ⟨hh, e⟩ := List.getElem?_eq_some_iff.1 hr
    rw [List.take_succ_eq_append_getElem hh, e, List.map_append]; rfl)
   have HB1 := Lib.hid (HB.out (k + 1) (by omega))
   have hk0 : (0 : Int) ≤ (k : Int) := by omega
   have hk1 : (k : Int) < (rs.length : Int) := by omega
   have hk2 : (k : Int) ≤ 99999 := by omega
   clear hr hIn hbr hbB FB hbx hbAll XR eA hst
   by_cases hhas : Vec.Has r.x.v ⟨v1, v2⟩
   ·rw [decide_eq_true hhas] at VH
    have HNx : Hid (Know.farOf ((rs.take (k + 1)).map (·.x)) ⟨v1, v2⟩ = Know.farOf ((rs.take k).map (·.x)) ⟨v1, v2⟩ ++ r.x.f) := Lib.hid (by rw [hTk.out, HMo.out, if_pos hhas])
    have hbd : (Know.farOf ((rs.take k).map (·.x)) ⟨v1, v2⟩).length + r.x.f.length ≤ 100000 := by
     have h1 := HB1.out
     rw [HNx.out, List.length_append] at h1
     exact h1
    have Hbd := Lib.hid hbd
    clear hhas hbd
    go_wp2_with (first | refine wpList_mload (by rfl) _ (by rfl) (by rfl) LE.out.all ?_ | refine wpList_nstore (by rfl) _ _ (by rfl) (by rfl) (by rfl) HS.out.1 HS.out.2 hone.out ?_ | refine wpList_mload (by rfl) _ (by rfl) (by rfl) V0.out ?_)
    refine (VH.out _).mono ?_
    rintro e w3 ⟨rfl, h3⟩
    have c0 := CX.out _ h3.below
    have OF := (HO1.out.below h3.below).1
    have ZF3 := ZF.out _ h3.below
    have hws := (HO1.out.below h3.below).2.size
    have HO3 := Lib.hid (HO1.out.below h3.below)
    clear h3 c1
    go_wp2_with (at_builtin; refine wp_joins (f := clV) (k := 3) rfl _ _ 26 rfl W0.heap.size 87 i0 (.agg #[.string ⟨#[]⟩, .int .i64 0, .int .i64 0]) 32 Tryz.underlying26 hi0 hz0 hz1 hz2 rfl (by decide) rfl rfl OF ZF3 (fun _ _ => rfl) (fun x _ => cl_one x) ?d3 ?d4 ?d5 ?_)
    try (case d3 => (have h1 := Hbd.out; unfold maxLen; omega))
    try (case d4 => (have h1 := Hbd.out; omega))
    try (case d5 => exact hws)
    intro v3 w4 own4 hg4 hn4
    have own4 : w4.ownsRow W0.heap.size 87 3 v3 ((Know.farOf ((rs.take k).map (·.x)) ⟨v1, v2⟩).length + r.x.f.length) ((Know.farOf ((rs.take k).map (·.x)) ⟨v1, v2⟩).flatMap clV ++ r.x.f.flatMap clV) := by rw [List.map_take]; exact own4
    have M4 := HO3.out.rest hg4 own4
    have H4 : Hid (RowsOwn 87 3 clV W0 (Know.farOf ((rs.take (k + 1)).map (·.x)) ⟨v1, v2⟩) v3 w4) := Lib.hid (by rw [HNx.out]; exact M4)
    clear own4 hg4 hn4 M4 OF ZF3 c0
    go_wp2_with fail
    exact ⟨⟨k + 1, by omega, by go_num, H4⟩, by show rs.length - ((k : Int) + 1).toNat < rs.length - (k : Int).toNat; omega⟩
   ·rw [decide_eq_false hhas] at VH
    have HNx : Hid (Know.farOf ((rs.take (k + 1)).map (·.x)) ⟨v1, v2⟩ = Know.farOf ((rs.take k).map (·.x)) ⟨v1, v2⟩) := Lib.hid (by rw [hTk.out, HMo.out, if_neg hhas, List.append_nil])
    clear hhas
    go_wp2_with (first | refine wpList_mload (by rfl) _ (by rfl) (by rfl) LE.out.all ?_ | refine wpList_nstore (by rfl) _ _ (by rfl) (by rfl) (by rfl) HS.out.1 HS.out.2 hone.out ?_ | refine wpList_mload (by rfl) _ (by rfl) (by rfl) V0.out ?_)
    refine (VH.out _).mono ?_
    rintro e w3 ⟨rfl, h3⟩
    have H4 : Hid (RowsOwn 87 3 clV W0 (Know.farOf ((rs.take (k + 1)).map (·.x)) ⟨v1, v2⟩) _ w3) := Lib.hid (by rw [HNx.out]; exact HO1.out.below h3.below)
    clear h3 c0 c1
    go_wp2_with fail
    exact ⟨⟨k + 1, by omega, by go_num, H4⟩, by show rs.length - ((k : Int) + 1).toNat < rs.length - (k : Int).toNat; omega⟩
  ·obtain rfl : k = rs.length := by omega
   have hO := hst.out
   rw [List.take_length] at hO
   have hF := HA.out.below hO.2
   have HBe := Lib.hid (HbA.out.trans (hO.2.mono HbA.out.size))
   obtain ⟨A5, c5, e5, -⟩ := (hO.rows (fun _ _ => rfl)).parts
   have CS := Lib.hid (C.subs (cov_lift (hO.rows (fun _ _ => rfl))) hF.f HOk.out HfO.out)
   have d0 := hF.cd
   obtain ⟨B5, b5, e6, -⟩ := hF.f.parts
   subst e6
   rw [e5] at CS
   have H5 := Lib.hid e5
   clear hO hF hst
   generalize hfar : Know.farOf (rs.map (·.x)) ⟨v1, v2⟩ = far at *
   subst e5
   by_cases h0 : far = []
   ·subst h0
    have HD : Hid (decide (([] : List Flt.Cl) ≠ [] ∧ Cov.Subs [] f) = false) := Lib.hid (decide_eq_false (fun h => h.1 rfl))
    have HFar := Lib.hid hfar
    clear CS H5 hfar
    go_wp2_with fail
    go_ret
    exact ⟨by (rw [HFar.out, HD.out]) <;> rfl, HBe.out⟩
   ·have hpos : (0 : Int) < (far.length : Int) := by
     cases far with
     | nil => exact absurd rfl h0
     | cons a t => rw [List.length_cons]; omega
    have HD : Hid (decide (far ≠ [] ∧ Cov.Subs far f) = decide (Cov.Subs far f)) := Lib.hid (by
     by_cases q : Cov.Subs far f
     ·rw [decide_eq_true q, decide_eq_true ⟨h0, q⟩]
     ·rw [decide_eq_false q, decide_eq_false (fun h => q h.2)])
    generalize decide (Cov.Subs far f) = t at *
    have HFar := Lib.hid hfar
    clear H5 h0 hfar
    go_wp2_with fail
    refine (CS.out).mono ?_
    rintro e w6 ⟨rfl, h6⟩
    have H6 := Lib.hid (HBe.out.trans (h6.mono HBe.out.size))
    clear h6 d0
    go_wp2_with fail
    go_ret
    exact ⟨by (rw [HFar.out, HD.out]) <;> rfl, H6.out⟩
theorem Know.many_filter (p : Know.Fr → Bool) : ∀ l : List Know.Fr, Know.many (l.filter p) ≤ Know.many l
 | [] => Nat.le_refl _
 | x :: l => by
  have ih := Know.many_filter p l
  unfold Know.many at *
  rw [List.filter_cons]
  split
  ·rw [List.map_cons, List.sum_cons, List.map_cons, List.sum_cons]; omega
  ·rw [List.map_cons, List.sum_cons]; omega
theorem know_own (V : VecOk) {w : World} {i : Know.It} {item v : Ver.V} {bi bv : Nat} (h65 : i.v.length = 65) (hv : Ver.Bd v) (hbi : bi < w.heap.size) (hbv : bv < w.heap.size) (c0 : w.cell? ⟨bi, 0, none⟩ = some (.int .i64 item.by_)) (c1 : w.cell? ⟨bi, 1, none⟩ = some (.int .i64 item.n)) (d0 : w.cell? ⟨bv, 0, none⟩ = some (.int .i64 v.by_)) (d1 : w.cell? ⟨bv, 1, none⟩ = some (.int .i64 v.n)) :
  Calls Tryz.prog 31 #[.agg (itV i).toArray, .pointer (some ⟨bi, 0, none⟩), .pointer (some ⟨bv, 0, none⟩)] w fun e w' => e = .returned (.bool (decide (i.item = item ∧ Vec.Has i.v v))) ∧ Below w.heap.size w w' := by
 have hbA : Below w.heap.size w (w.alloc (.cells (itV i).toArray 45)) := (Below.refl _ _).alloc (Nat.le_refl _) _
 have FB := ItAt.made w h65 45
 have a0 := FB.by_
 have a1 := FB.n0
 have V0 := Lib.hid FB.v0
 have c0 := (hbA.cell (p := ⟨bi, 0, none⟩) hbi).trans c0
 have c1 := (hbA.cell (p := ⟨bi, 1, none⟩) hbi).trans c1
 have d0 := (hbA.cell (p := ⟨bv, 0, none⟩) hbv).trans d0
 have d1 := (hbA.cell (p := ⟨bv, 1, none⟩) hbv).trans d1
 have VH := Lib.hid (fun W => V.has (w := W) v h65 hv)
 have HbA := Lib.hid hbA
 obtain ⟨⟨i1, i2⟩, iv⟩ := i
 obtain ⟨x1, x2⟩ := item
 obtain ⟨v1, v2⟩ := v
 simp only at a0 a1 V0 c0 c1 d0 d1 VH ⊢
 clear FB hbA hv h65
 by_cases hE : i1 = x1 ∧ i2 = x2
 ·obtain ⟨rfl, rfl⟩ := hE
  have HD : Hid (decide ((⟨i1, i2⟩ : Ver.V) = ⟨i1, i2⟩ ∧ Vec.Has iv ⟨v1, v2⟩) = decide (Vec.Has iv ⟨v1, v2⟩)) := Lib.hid (by simp)
  generalize hq : decide (Vec.Has iv ⟨v1, v2⟩) = q at *
  clear hq
  go_enter Tryz.func31, Tryz.ntmps31
  go_wp2_with (refine wpList_mload (by rfl) _ (by rfl) (by rfl) V0.out ?_)
  refine (VH.out _).mono ?_
  rintro e w1 ⟨rfl, h1⟩
  have H1 := Lib.hid (HbA.out.trans (h1.below.mono HbA.out.size))
  clear h1 a0 a1 c0 c1 d0 d1
  go_wp2_with fail
  go_ret
  exact ⟨by (rw [HD.out]) <;> rfl, H1.out⟩
 ·have HD : Hid (decide ((⟨i1, i2⟩ : Ver.V) = ⟨x1, x2⟩ ∧ Vec.Has iv ⟨v1, v2⟩) = false) := Lib.hid (decide_eq_false (fun h => hE (by have h1 := h.1; injection h1 with h1 h2; exact ⟨h1, h2⟩)))
  by_cases h1 : i1 = x1
  ·have h2 : ¬ i2 = x2 := fun q => hE ⟨h1, q⟩
   subst h1
   clear hE
   go_enter Tryz.func31, Tryz.ntmps31
   go_wp2_with fail
   go_ret
   exact ⟨by first | rfl | ((rw [HD.out]) <;> rfl), HbA.out⟩
  ·clear hE
   go_enter Tryz.func31, Tryz.ntmps31
   go_wp2_with fail
   go_ret
   exact ⟨by first | rfl | ((rw [HD.out]) <;> rfl), HbA.out⟩
theorem it_has_none (A : Option Addr) (c : Nat) (fv : Value) (w : World) :
  Calls Tryz.prog 33 #[.slice A 0 c, fv] w fun e w' => e = .returned (.bool false) ∧ w' = w := by
 go_enter Tryz.func33, Tryz.ntmps33
 go_wp2_with (go_at_call 62; refine (it_idx_none _ _ _ _).mono ?_; rintro e w' ⟨rfl, rfl⟩)
 go_ret
 exact ⟨rfl, rfl⟩
theorem it_has (V : VecOk) {w : World} {F : Nat → Prop} {u : Value} {l : List Know.It} {item v : Ver.V} {bi bv : Nat} (h : Its w F u l) (hl : l.length ≤ 100000) (hv : Ver.Bd v) (hbi : bi < w.heap.size) (hbv : bv < w.heap.size) (c0 : w.cell? ⟨bi, 0, none⟩ = some (.int .i64 item.by_)) (c1 : w.cell? ⟨bi, 1, none⟩ = some (.int .i64 item.n)) (d0 : w.cell? ⟨bv, 0, none⟩ = some (.int .i64 v.by_)) (d1 : w.cell? ⟨bv, 1, none⟩ = some (.int .i64 v.n)) :
  Calls Tryz.prog 33 #[u, .func (.func 31) #[] #[.pointer (some ⟨bi, 0, none⟩), .pointer (some ⟨bv, 0, none⟩)]] w fun e w' => e = .returned (.bool (decide (Know.ByItem l item v))) ∧ Below w.heap.size w w' := by
 obtain ⟨hr, h65⟩ := h
 rcases Nat.eq_zero_or_pos l.length with h0 | h0
 ·have hl0 : l = [] := List.eq_nil_of_length_eq_zero h0
  subst hl0
  obtain ⟨A, cap, rfl, -⟩ := hr.parts
  refine (it_has_none A cap _ w).mono ?_
  rintro e w' ⟨rfl, rfl⟩
  exact ⟨by rw [decide_eq_false (fun ⟨i, hi, _⟩ => by cases hi)], Below.refl _ _⟩
 ·obtain ⟨A, cap, rfl, hcap, hat⟩ := hr
  obtain ⟨b, o, rfl, -, hb, hcl⟩ := hat h0
  have eg : ∀ args w, (callFunc 31 args).run Tryz.prog w = .ok (.enter 31 args) w := enters_of Tryz.func31 (by kernel_rfl) rfl
  have hz : ∃ z, z ∈ l := ⟨l[0], List.getElem_mem _⟩
  obtain ⟨z, hz⟩ := hz
  have hin : Inhabited {x // x ∈ l} := ⟨⟨z, hz⟩⟩
  have hal : l.attach.length = l.length := List.length_attach
  have hcon := AnyQ.slices_ContainsFunc Tryz.hasKn 67 Tryz.isAgg45 Tryz.sizeOf45 (fun x : {x // x ∈ l} => itV x.1) (fun x => it_len (h65 x.1 x.2)) (fun x => decide (x.1.item = item ∧ Vec.Has x.1.v v)) 31 #[.pointer (some ⟨bi, 0, none⟩), .pointer (some ⟨bv, 0, none⟩)] eg b o l.length cap l.attach w
   (fun W x hW => (know_own V (h65 x.1 x.2) hv (Nat.lt_of_lt_of_le hbi hW.size) (Nat.lt_of_lt_of_le hbv hW.size) ((hW.cell (p := ⟨bi, 0, none⟩) hbi).trans c0) ((hW.cell (p := ⟨bi, 1, none⟩) hbi).trans c1) ((hW.cell (p := ⟨bv, 0, none⟩) hbv).trans d0) ((hW.cell (p := ⟨bv, 1, none⟩) hbv).trans d1)).mono fun _ _ ⟨he, hb2⟩ => ⟨he, hW.trans (hb2.mono hW.size)⟩) (by omega) (by omega) hb
   (fun j hj i u hi => hcl j l.attach[j]!.1 (by rw [getElem!_pos l.attach j hj, List.getElem_attach]; exact List.getElem?_eq_getElem (by omega)) i u hi)
  rw [List.take_of_length_le (by omega)] at hcon
  refine hcon.mono ?_
  rintro e w' ⟨rfl, hb⟩
  refine ⟨?_, hb⟩
  congr 2
  rw [Bool.eq_iff_iff, List.any_eq_true, decide_eq_true_iff]
  constructor
  ·rintro ⟨x, -, hx⟩
   exact ⟨x.1, x.2, of_decide_eq_true hx⟩
  ·rintro ⟨i, hi, hx⟩
   exact ⟨⟨i, hi⟩, List.mem_attach l _, decide_eq_true hx⟩
open Go.RowKit Go.Sort
theorem know_contains (V : VecOk) (I : IsetOk) (C : CoverOk) {w : World} {F G : Nat → Prop} {kv u : Value} {k : Know.K} {f : List Flt.Cl} (item x : Ver.V) (h : Kns w F kv k) (hf : Cls w G u f) (hk : Know.Ok k) (ho : Cov.Ok f) (hx : Ver.Bd x) :
  Calls Tryz.prog 13 #[kv, verA item, verA x, u] w fun e w' => (∃ b : Bool, e = .returned (.bool b) ∧ (b = true ↔ Know.Contains k item x f)) ∧ Below w.heap.size w w' := by
 have mixed : Tryz.prog.follows .mixedOrders = true := by kernel_rfl
 obtain ⟨a, b, rfl, ⟨rs, hrx, hrr, hri⟩, hb⟩ := h
 obtain ⟨A, ca, rfl, hca⟩ := hrr.parts
 obtain ⟨B, cb, rfl, hcb⟩ := hb.1.parts
 obtain ⟨x1, x2⟩ := x
 obtain ⟨y1, y2⟩ := item
 obtain ⟨W0, hW0⟩ : ∃ W0, W0 = ((w.alloc (.cells #[.slice A rs.length ca, .slice B k.items.length cb] 25)).alloc (.cells #[.int .i64 y1, .int .i64 y2] 33)).alloc (.cells #[.int .i64 x1, .int .i64 x2] 33) := ⟨_, rfl⟩
 have hb0 : Below w.heap.size w W0 := by rw [hW0]; exact (((Below.refl _ _).alloc (Nat.le_refl _) _).alloc (by simp) _).alloc (by simp; omega) _
 have hs0 : W0.heap.size = w.heap.size + 1 + 1 + 1 := by rw [hW0]; simp
 have r0 : Row W0 w.heap.size 25 #[.slice A rs.length ca, .slice B k.items.length cb] := by rw [hW0]; exact ((Row.made w _ _).behindNew _).behindNew _
 have r1 : Row W0 (w.heap.size + 1) 33 #[.int .i64 y1, .int .i64 y2] := by
  rw [hW0]
  have := (Row.made (w.alloc (.cells #[.slice A rs.length ca, .slice B k.items.length cb] 25)) 33 #[.int .i64 y1, .int .i64 y2]).behindNew (.cells #[.int .i64 x1, .int .i64 x2] 33)
  rwa [World.size_alloc] at this
 have r2 : Row W0 (w.heap.size + 1 + 1) 33 #[.int .i64 x1, .int .i64 x2] := by
  rw [hW0]
  have := Row.made ((w.alloc (.cells #[.slice A rs.length ca, .slice B k.items.length cb] 25)).alloc (.cells #[.int .i64 y1, .int .i64 y2] 33)) 33 #[.int .i64 x1, .int .i64 x2]
  rwa [World.size_alloc, World.size_alloc] at this
 have XC := Lib.hid (fun (W : World) (h : InB W0 W) => (⟨(r0.below h.below r0.inHeap).at 0, (r0.below h.below r0.inHeap).at 1, (r1.below h.below r1.inHeap).at 0, (r1.below h.below r1.inHeap).at 1, (r2.below h.below r2.inHeap).at 0, (r2.below h.below r2.inHeap).at 1⟩ : W.cell? ⟨w.heap.size, 0, none⟩ = some (.slice A rs.length ca) ∧ W.cell? ⟨w.heap.size, 1, none⟩ = some (.slice B k.items.length cb) ∧ W.cell? ⟨w.heap.size + 1, 0, none⟩ = some (.int .i64 y1) ∧ W.cell? ⟨w.heap.size + 1, 1, none⟩ = some (.int .i64 y2) ∧ W.cell? ⟨w.heap.size + 1 + 1, 0, none⟩ = some (.int .i64 x1) ∧ W.cell? ⟨w.heap.size + 1 + 1, 1, none⟩ = some (.int .i64 x2)))
 have HC := Lib.hid (fun (W : World) (h : InB W0 W) => it_has V (item := ⟨y1, y2⟩) (v := ⟨x1, x2⟩) ((hb.below hb0).below h.below) (by have := hk.it; omega) hx (Nat.lt_of_lt_of_le r1.inHeap h.below.size) (Nat.lt_of_lt_of_le r2.inHeap h.below.size) (XC.out W h).2.2.1 (XC.out W h).2.2.2.1 (XC.out W h).2.2.2.2.1 (XC.out W h).2.2.2.2.2)
 have hl1 : rs.length ≤ 1000 := by have := hk.fr; rw [← hrx, List.length_map] at this; exact this
 have hno : ∀ r ∈ rs, r.x.no.length ≤ 1000 := fun r hr => hk.no r.x (by rw [← hrx]; exact List.mem_map.2 ⟨r, hr, rfl⟩)
 have HV := Lib.hid (fun (W : World) (h : InB W0 W) => know_haver I ⟨y1, y2⟩ (Rws.below (Rws.below hrr hb0) h.below) (fun r hr => ((hri r hr).below hb0).below h.below) (Rws.below (Rws.below hf hb0) h.below) (by omega) (fun r hr => Nat.le_trans (hno r hr) (by decide)))
 have hfil : (rs.filter fun r => !decide ((⟨y1, y2⟩ : Ver.V) ∈ r.x.no)).map (·.x) = k.frags.filter fun x => !decide ((⟨y1, y2⟩ : Ver.V) ∈ x.no) := by
  rw [← hrx, List.filter_map]; rfl
 have H2 := Lib.hid (fun (W : World) (fv : Value) (c d : Nat) (sv uv : Value) (h : Haves W fv (rs.filter fun r => !decide ((⟨y1, y2⟩ : Ver.V) ∈ r.x.no)) f c d sv uv) => know_haver2 V C h ⟨x1, x2⟩ hx (by rw [hfil]; exact Nat.le_trans (Know.many_filter _ _) hk.cl) (by have := List.length_filter_le (fun r : RFr => !decide ((⟨y1, y2⟩ : Ver.V) ∈ r.x.no)) rs; omega) (fun r hr => hk.sane r.x (by rw [← hrx]; exact List.mem_map.2 ⟨r, (List.mem_filter.1 hr).1, rfl⟩)) ho)
 have HW := Lib.hid (Know.far_whole k.frags ⟨y1, y2⟩ ⟨x1, x2⟩ f)
 rw [hfil] at H2
 have HB0 := Lib.hid hb0
 have hfv : ∀ (w : World) (a : Addr) (m : Mode) (fn : Fn) (fi ca : Array Value), (store a (.func fn fi ca) m).run Tryz.prog w = stored Tryz.prog w a (.func fn fi ca) m := fun w a m fn fi ca => run_store Tryz.prog w a _ m rfl
 obtain ⟨U, cu, eu, -⟩ := hf.parts
 subst eu
 have HW0 := Lib.hid hW0
 clear hrr hri hb hf hk ho hx hb0 hs0 r0 r1 r2 hno hfil hrx
 by_cases hp : Know.ByItem k.items ⟨y1, y2⟩ ⟨x1, x2⟩
 ·rw [decide_eq_true hp] at HC
  have HR : Hid (Know.Contains k ⟨y1, y2⟩ ⟨x1, x2⟩ f) := Lib.hid (Or.inl hp)
  clear hp HV H2 HW
  go_enter Tryz.func13, Tryz.ntmps13
  go_wp2_with fail
  rw [← hW0]
  clear hW0
  refine wp_region_below (by assumption) (by kernel_rfl) ?_
  refine wq_td ?_
  simp only [zz]
  refine wq_take (v := ?_) (by kernel_rfl) (by intro w hSw; have hXC := XC.out w hSw; go_simp; first | done | with_reducible rfl) ?_
  simp only [zz]
  refine wq_td ?_
  simp only [zz]
  refine wq_call (by kernel_rfl) ?hent (fun w hSw => inB_calls hSw (HC.out w hSw)) ?_; (case hent => (intro w hSw; go_simp; done))
  simp only [zz]
  refine wq_td ?_
  simp only [zz]
  refine wq_skip (by kernel_rfl) ?_
  simp only [zz]
  refine wq_skip (by kernel_rfl) ?_
  simp only [zz]
  refine wq_skip (by kernel_rfl) ?_
  simp only [zz]
  refine wq_skip (by kernel_rfl) ?_
  simp only [zz]
  refine wq_skip (by kernel_rfl) ?_
  simp only [zz]
  refine wq_skip (by kernel_rfl) ?_
  simp only [zz]
  refine wq_skip (by kernel_rfl) ?_
  simp only [zz]
  refine wq_td ?_
  simp only [zz]
  refine wq_td ?_
  simp only [zz]
  refine wq_nil ?_
  intro wq hq
  have HQ := Lib.hid (HB0.out.trans (hq.below.mono HB0.out.size))
  clear hq
  go_wp2_with fail
  go_ret
  exact ⟨⟨true, rfl, fun _ => HR.out, fun _ => rfl⟩, HQ.out⟩
 ·rw [decide_eq_false hp] at HC
  have HR : Hid (decide (Know.farOf (k.frags.filter fun x => !decide ((⟨y1, y2⟩ : Ver.V) ∈ x.no)) ⟨x1, x2⟩ ≠ [] ∧ Cov.Subs (Know.farOf (k.frags.filter fun x => !decide ((⟨y1, y2⟩ : Ver.V) ∈ x.no)) ⟨x1, x2⟩) f) = true ↔ Know.Contains k ⟨y1, y2⟩ ⟨x1, x2⟩ f) := Lib.hid (by
   rw [decide_eq_true_iff, ← HW.out]
   exact ⟨fun h => Or.inr h, fun h => h.resolve_left hp⟩)
  clear hp HW
  generalize hfar : decide (Know.farOf (k.frags.filter fun x => !decide ((⟨y1, y2⟩ : Ver.V) ∈ x.no)) ⟨x1, x2⟩ ≠ [] ∧ Cov.Subs (Know.farOf (k.frags.filter fun x => !decide ((⟨y1, y2⟩ : Ver.V) ∈ x.no)) ⟨x1, x2⟩) f) = t at *
  clear hfar
  go_enter Tryz.func13, Tryz.ntmps13
  go_wp2_with fail
  rw [← hW0]
  clear hW0
  refine wp_region_held_drew (S := (fun w' : World => InB W0 w')) (by kernel_rfl) ((InB.refl W0).drew) (fun hHeld => ?_)
  refine wpAnyH_td (i := 0) rfl ?_
  simp only [zz]
  refine wpAnyH_tk (i := 1) (v := ?_) rfl (Or.inl ⟨by rfl, (by intro w hSw; obtain ⟨c0, c1, c2, c3, c4, c5⟩ := XC.out _ hSw; go_simp; try with_reducible rfl)⟩) (by assumption) ?_
  simp only [zz]
  refine wpAnyH_td (i := 2) rfl ?_
  simp only [zz]
  refine wpAnyH_ready (rs := [3]) (by kernel_rfl) (by simp) ?_
  refine AllReadyH.cons rfl (fun K hK => ?_) AllReadyH.nil
  go_simp
  go_at_call 33
  refine (HC.out _ hHeld).mono ?_
  rintro e w3 ⟨rfl, h3⟩
  have S3 := InB.trans hHeld h3
  refine hK.out _ _ S3 (fun hHeld => ?_)
  clear h3 S3
  clear hK K
  refine wpAnyH_td (i := 4) rfl ?_
  simp only [zz]
  refine wpAnyH_td (i := 5) rfl ?_
  simp only [zz]
  refine wpAnyH_tk (i := 6) (v := ?_) rfl (Or.inl ⟨by rfl, (by intro w hSw; obtain ⟨c0, c1, c2, c3, c4, c5⟩ := XC.out _ hSw; go_simp; try with_reducible rfl)⟩) (by assumption) ?_
  simp only [zz]
  refine wpAnyH_tk (i := 7) (v := ?_) rfl (Or.inl ⟨by rfl, (by intro w hSw; obtain ⟨c0, c1, c2, c3, c4, c5⟩ := XC.out _ hSw; go_simp; try with_reducible rfl)⟩) (by assumption) ?_
  simp only [zz]
  refine wpAnyH_td (i := 8) rfl ?_
  simp only [zz]
  refine wpAnyH_tk (i := 10) (v := ?_) rfl (Or.inl ⟨by rfl, (by intro w hSw; obtain ⟨c0, c1, c2, c3, c4, c5⟩ := XC.out _ hSw; go_simp; try with_reducible rfl)⟩) (by assumption) ?_
  simp only [zz]
  refine wpAnyH_ready (rs := [9]) (by kernel_rfl) (by simp) ?_
  refine AllReadyH.cons rfl (fun K hK => ?_) AllReadyH.nil
  go_simp
  go_at_call 34
  refine (HV.out _ hHeld).mono ?_
  rintro e w9 ⟨fv, c, d, sv, uv, rfl, hv9, h9⟩
  have S9 := InB.trans hHeld h9
  have CA := Lib.hid (H2.out w9 fv c d sv uv hv9)
  have efv := hv9.fv
  subst efv
  refine hK.out _ _ S9 (fun hHeld => ?_)
  clear h9 S9 hv9
  clear hK K
  refine wpAnyH_ready (rs := [11]) (by kernel_rfl) (by simp) ?_
  refine AllReadyH.cons rfl (fun K hK => ?_) AllReadyH.nil
  go_simp
  refine (CA.out).mono ?_
  rintro e w11 ⟨rfl, h11⟩
  have S11 := InB.trans hHeld h11
  have HQ := Lib.hid (HB0.out.trans (S11.below.mono HB0.out.size))
  refine hK.out _ _ S11 (fun hHeld => ?_)
  clear h11 S11
  clear hK K
  refine wpAnyH_td (i := 12) rfl ?_
  simp only [zz]
  refine wpAnyH_td (i := 13) rfl ?_
  simp only [zz]
  refine wpAnyH_done (by kernel_rfl) ?_ _
  go_wp2_with fail
  go_ret
  exact ⟨⟨t, rfl, HR.out⟩, HQ.out⟩
end Go.Proofs.YtkcgmnhjofoeiaaGreat
