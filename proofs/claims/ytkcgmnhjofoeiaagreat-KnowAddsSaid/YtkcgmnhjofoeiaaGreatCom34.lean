import Derived.Test.YtkcgmnhjofoeiaaGreatCom20
import Derived.Test.YtkcgmnhjofoeiaaGreatCom15
import Derived.Test.YtkcgmnhjofoeiaaGreatCom32
import Derived.Test.YtkcgmnhjofoeiaaGreatCom5
import Derived.Test.YtkcgmnhjofoeiaaGreatCom21
import Derived.Test.YtkcgmnhjofoeiaaGreatCom11
import Derived.Test.YtkcgmnhjofoeiaaGreatCom13
import Derived.Test.YtkcgmnhjofoeiaaGreatCom4
import Derived.Test.YtkcgmnhjofoeiaaGreatCom12
import Derived.Test.YtkcgmnhjofoeiaaGreatCom18
import Derived.Test.YtkcgmnhjofoeiaaGreatCom29
import Derived.Test.YtkcgmnhjofoeiaaGreatCom9
import Derived.Test.YtkcgmnhjofoeiaaGreatCom33
import Derived.Test.YtkcgmnhjofoeiaaGreatCom22
import Derived.Test.YtkcgmnhjofoeiaaGreatCom3
import Derived.Test.YtkcgmnhjofoeiaaGreatCom17
import Derived.WalkMore
import Derived.StringKeys
import Derived.Maps.OwnSet
set_option maxRecDepth 100000
set_option linter.all false
set_option maxHeartbeats 12800000
namespace Go.Proofs.YtkcgmnhjofoeiaaGreat
open Go.RowKit Go.Sort
theorem know_except1 {w : World} {i : Know.It} {item : Ver.V} {bi : Nat} (h65 : i.v.length = 65) (hbi : bi < w.heap.size) (c0 : w.cell? ⟨bi, 0, none⟩ = some (.int .i64 item.by_)) (c1 : w.cell? ⟨bi, 1, none⟩ = some (.int .i64 item.n)) :
  Calls Tryz.prog 54 #[.agg (itV i).toArray, .pointer (some ⟨bi, 0, none⟩)] w fun e w' => e = .returned (.bool (decide (i.item = item))) ∧ Below w.heap.size w w' := by
 have hbA : Below w.heap.size w (w.alloc (.cells (itV i).toArray 45)) := (Below.refl _ _).alloc (Nat.le_refl _) _
 have FB := ItAt.made w h65 45
 have a0 := FB.by_
 have a1 := FB.n0
 have c0 := (hbA.cell (p := ⟨bi, 0, none⟩) hbi).trans c0
 have c1 := (hbA.cell (p := ⟨bi, 1, none⟩) hbi).trans c1
 have HbA := Lib.hid hbA
 obtain ⟨⟨i1, i2⟩, iv⟩ := i
 obtain ⟨x1, x2⟩ := item
 simp only at a0 a1 c0 c1 ⊢
 clear FB hbA h65
 by_cases hE : i1 = x1 ∧ i2 = x2
 ·obtain ⟨rfl, rfl⟩ := hE
  have HD : Hid (decide ((⟨i1, i2⟩ : Ver.V) = ⟨i1, i2⟩) = true) := Lib.hid (by simp)
  go_enter Tryz.func54, Tryz.ntmps54
  go_wp2_with fail
  go_ret
  exact ⟨by first | rfl | ((rw [HD.out]) <;> rfl), HbA.out⟩
 ·have HD : Hid (decide ((⟨i1, i2⟩ : Ver.V) = ⟨x1, x2⟩) = false) := Lib.hid (decide_eq_false (fun h => hE (by injection h with h1 h2; exact ⟨h1, h2⟩)))
  by_cases h1 : i1 = x1
  ·have h2 : ¬ i2 = x2 := fun q => hE ⟨h1, q⟩
   subst h1
   clear hE
   go_enter Tryz.func54, Tryz.ntmps54
   go_wp2_with fail
   go_ret
   exact ⟨by first | rfl | ((rw [HD.out]) <;> rfl), HbA.out⟩
  ·clear hE
   go_enter Tryz.func54, Tryz.ntmps54
   go_wp2_with fail
   go_ret
   exact ⟨by first | rfl | ((rw [HD.out]) <;> rfl), HbA.out⟩
theorem done_more {g : Know.Fr → Know.Fr} {rs RS : List RFr} {n : Nat} {z r : RFr} (hn : n ≤ rs.length) (hl : RS.length = rs.length) (hm : RS.map (·.x) = (rs.take n).map (fun r => g r.x) ++ (rs.drop n).map (·.x)) (hz : rs[n]? = some z) (hr : r.x = g z.x) :
  (RS.set n r).length = rs.length ∧ (RS.set n r).map (·.x) = (rs.take (n + 1)).map (fun r => g r.x) ++ (rs.drop (n + 1)).map (·.x) := by
 refine ⟨by rw [List.length_set]; exact hl, ?_⟩
 rw [List.map_set, hm, List.set_append_right _ _ (by rw [List.length_map, List.length_take]; omega), List.length_map, List.length_take, Nat.min_eq_left hn, Nat.sub_self]
 obtain ⟨hh, e⟩ := List.getElem?_eq_some_iff.1 hz
 rw [List.drop_eq_getElem_cons hh, List.map_cons, List.set_cons_zero, List.take_succ_eq_append_getElem hh, List.map_append, List.append_assoc, e, hr]
 rfl
theorem done_at {g : Know.Fr → Know.Fr} {rs RS : List RFr} {n : Nat} {z r : RFr} (hn : n ≤ rs.length) (hm : RS.map (·.x) = (rs.take n).map (fun r => g r.x) ++ (rs.drop n).map (·.x)) (hz : rs[n]? = some z) (hr : RS[n]? = some r) : r.x = z.x := by
 have := congrArg (fun L => L[n]?) hm
 simp only [List.getElem?_map, hr, Option.map_some] at this
 rw [List.getElem?_append_right (by rw [List.length_map, List.length_take]; omega), List.length_map, List.length_take, Nat.min_eq_left hn, Nat.sub_self, List.getElem?_map, List.getElem?_drop, Nat.add_zero, hz] at this
 simpa using this
theorem know_except (V : VecOk) (I : IsetOk) (C : CoverOk) (Z : FilterOk) {w : World} {F : Nat → Prop} {v : Value} {k : Know.K} (item : Ver.V) (h : Kns w F v k) (hk : Know.Ok k) (hk2 : Know.Ok (Know.except k item)) :
  Calls Tryz.prog 24 #[v, verA item] w fun e w' => ∃ v' c, e = .returned v' ∧ Know.Canon (Know.except k item) c ∧ KnNew w v' c w' ∧ Below w.heap.size w w' := by
 have hz := knZero
 have hzf := frZero
 obtain ⟨y1, y2⟩ := item
 obtain ⟨a, b, rfl, ⟨rs, hrx, hrr, hri⟩, hi⟩ := h
 obtain ⟨A, ca, rfl, -⟩ := hrr.parts
 obtain ⟨B, cb, rfl, -⟩ := hi.1.parts
 obtain ⟨W0, hW0⟩ : ∃ W0, W0 = ((w.alloc (.cells #[.slice A rs.length ca, .slice B k.items.length cb] 25)).alloc (.cells #[.int .i64 y1, .int .i64 y2] 33)).alloc (.cells #[.slice none 0 0, .slice none 0 0] 25) := ⟨_, rfl⟩
 have hb0 : Below w.heap.size w W0 := by rw [hW0]; exact (((Below.refl _ _).alloc (Nat.le_refl _) _).alloc (by simp) _).alloc (by simp; omega) _
 have r0 : Row W0 w.heap.size 25 #[.slice A rs.length ca, .slice B k.items.length cb] := by rw [hW0]; exact ((Row.made w _ _).behindNew _).behindNew _
 have r1 : Row W0 (w.heap.size + 1) 33 #[.int .i64 y1, .int .i64 y2] := by
  rw [hW0]
  have := (Row.made (w.alloc (.cells #[.slice A rs.length ca, .slice B k.items.length cb] 25)) 33 #[.int .i64 y1, .int .i64 y2]).behindNew (.cells #[.slice none 0 0, .slice none 0 0] 25)
  rwa [World.size_alloc] at this
 have r2 : Row W0 (w.heap.size + 1 + 1) 25 #[.slice none 0 0, .slice none 0 0] := by
  rw [hW0]
  have := Row.made ((w.alloc (.cells #[.slice A rs.length ca, .slice B k.items.length cb] 25)).alloc (.cells #[.int .i64 y1, .int .i64 y2] 33)) 25 #[.slice none 0 0, .slice none 0 0]
  rwa [World.size_alloc, World.size_alloc] at this
 have XC := Lib.hid (fun (W : World) (h : InB W0 W) => (⟨(r0.below h.below r0.inHeap).at 0, (r0.below h.below r0.inHeap).at 1, (r1.below h.below r1.inHeap).at 0, (r1.below h.below r1.inHeap).at 1⟩ : W.cell? ⟨w.heap.size, 0, none⟩ = some (.slice A rs.length ca) ∧ W.cell? ⟨w.heap.size, 1, none⟩ = some (.slice B k.items.length cb) ∧ W.cell? ⟨w.heap.size + 1, 0, none⟩ = some (.int .i64 y1) ∧ W.cell? ⟨w.heap.size + 1, 1, none⟩ = some (.int .i64 y2)))
 have R2 := Lib.hid (fun (W : World) (h : InB W0 W) => (r2.below h.below r2.inHeap : Row W (w.heap.size + 1 + 1) 25 #[.slice none 0 0, .slice none 0 0]))
 have HS1 := Lib.hid r1.inHeap
 have HS2 := Lib.hid r2.inHeap
 have hl1 : rs.length ≤ 1000 := by have := hk.fr; rw [← hrx, List.length_map] at this; exact this
 have hno : ∀ r ∈ rs, r.x.no.length ≤ 1000 := fun r hr => hk.no r.x (by rw [← hrx]; exact List.mem_map.2 ⟨r, hr, rfl⟩)
 have CL := Lib.hid (it_clone (Rws.below hi.1 hb0) (fun x hx => it_len (hi.2 x hx)) (fun x _ => it_one x) (by have := hk.it; omega))
 have FC := Lib.hid (fun (W : World) (h : InB W0 W) => fr_clone (Rws.below (Rws.below hrr hb0) h.below) (fun r hr => rf_len (hri r hr).len) (fun r hr => (hri r hr).one) (by omega))
 have HI := Lib.hid (fun (W : World) (h : InB W0 W) (r : RFr) (hr : r ∈ rs) => ((hri r hr).below hb0).below h.below)
 have CA := Lib.hid (fun (W : World) (v' : Value) (h : Kns W AnyB v' (Know.except k ⟨y1, y2⟩)) => know_canon V I C Z h hk2)
 have HNo := Lib.hid hno
 have HX := Lib.hid hrx
 have HB0 := Lib.hid hb0
 have H65 := Lib.hid hi.2
 have HIt := Lib.hid hk.it
 have hlZ : (rs.length : Int) ≤ 1000 := by omega
 have c1 := (XC.out W0 (InB.refl W0)).2.1
 rw [hW0] at c1
 have hsf : ∀ (w : World) (a : Addr) (m : Mode) (fn : Fn) (fi ca : Array Value), (store a (.func fn fi ca) m).run Tryz.prog w = stored Tryz.prog w a (.func fn fi ca) m := fun w a m fn fi ca => run_store Tryz.prog w a _ m rfl
 clear hrr hri hi hk hk2 hb0 r0 r1 r2 hno hrx
 go_enter Tryz.func24, Tryz.ntmps24
 go_wp2_with fail
 rw [← hW0]
 clear hW0 c1
 refine (CL.out).mono ?_
 rintro e w1 ⟨v1, rfl, h1⟩
 have DL := Lib.hid (it_delete (pv := .pointer (some ⟨w.heap.size + 1, 0, none⟩)) (p := fun i => decide (i.item = (⟨y1, y2⟩ : Ver.V))) h1 (fun x hx => it_len (H65.out x hx)) (fun x _ => it_one x) (by have := HIt.out; omega) (fun W hW x hx => by
  have hown := fun g hg => (h1.1.lt g hg).1
  have hbl : w.heap.size + 1 < w1.heap.size := by have := h1.2.size; have := HS1.out; omega
  obtain ⟨-, -, q0, q1⟩ := XC.out w1 h1.2
  refine know_except1 (item := ⟨y1, y2⟩) (H65.out x hx) (Nat.lt_of_lt_of_le hbl hW.size) ?_ ?_
  ·exact (hW.cell (p := ⟨w.heap.size + 1, 0, none⟩) hbl (fun e => by have h := hown (w.heap.size + 1) e; have := HS1.out; omega)).trans q0
  ·exact (hW.cell (p := ⟨w.heap.size + 1, 1, none⟩) hbl (fun e => by have h := hown (w.heap.size + 1) e; have := HS1.out; omega)).trans q1))
 have H1 := Lib.hid h1
 clear h1 CL
 go_wp2_with fail
 refine (DL.out).mono ?_
 rintro e w2 ⟨v2, rfl, hv2, h2, k2⟩
 have hb2 : Below W0.heap.size W0 w2 := H1.out.2.trans (k2.below H1.out.2.size (fun i hi => (H1.out.1.lt i hi).1))
 have hfl : (k.items.filter fun x => !decide (x.item = (⟨y1, y2⟩ : Ver.V))) = (Know.except k ⟨y1, y2⟩).items := by
  show _ = k.items.filter _
  exact List.filter_congr (fun x _ => by simp)
 rw [hfl] at h2
 have hlen2 : ∀ x ∈ (Know.except k ⟨y1, y2⟩).items, x.v.length = 65 := fun x hx => H65.out x (List.mem_filter.1 hx).1
 obtain ⟨A2, cap2, e2, -⟩ := (h2.rows (fun x hx => it_len (hlen2 x hx))).parts
 subst e2
 have I2 : Hid (Its w2 AnyB (.slice A2 (Know.except k ⟨y1, y2⟩).items.length cap2) (Know.except k ⟨y1, y2⟩).items) := Lib.hid ⟨(h2.rows (fun x hx => it_len (hlen2 x hx))).mono (fun _ _ => trivial), hlen2⟩
 have c0 := (XC.out w2 hb2).1
 have FC2 := Lib.hid (FC.out w2 hb2)
 have HI2 := Lib.hid (HI.out w2 hb2)
 have HB2 : Hid (InB W0 w2) := Lib.hid hb2
 clear h2 k2 hb2 hv2 hfl hlen2 H1 DL
 generalize (Know.except k ⟨y1, y2⟩).items.length = m2 at *
 go_wp2_with fail
 refine (FC2.out).mono ?_
 rintro e w3 ⟨v3, rfl, h3⟩
 have F3 := Lib.hid (FOwn.of h3 HI2.out)
 obtain ⟨B3, cap3, e3, hcap3⟩ := F3.out.rws.parts
 subst e3
 clear h3 FC2 c0 FC HI
 go_wp2_with fail
 go_loopw [19] (fun i wr => ∃ n RS, n ≤ rs.length ∧ i = .int .i64 (n : Nat) ∧ Hid (RS.length = rs.length ∧ RS.map (·.x) = (rs.take n).map (fun r => (⟨r.x.f, r.x.v, Iset.put r.x.no ⟨y1, y2⟩⟩ : Know.Fr)) ++ (rs.drop n).map (·.x)) ∧ Hid (FOwn w2 RS (.slice B3 rs.length cap3) wr)) (fun i _ => rs.length - (intOf i).toNat)
 case atStart => exact ⟨0, rs, Nat.zero_le _, rfl, Lib.hid ⟨rfl, by simp⟩, F3⟩
 case round =>
  obtain ⟨n, RS, hn, rfl, hRS, hF⟩ := hrel
  by_cases hlt : n < rs.length
  ·obtain ⟨g, cap1, e, -, -⟩ := hF.out.own.1.form (by have := hRS.out.1; omega)
   injection e with e1 e2 e3
   subst e1 e3
   clear e2
   obtain ⟨r, hr⟩ : ∃ r, RS[n]? = some r := ⟨_, List.getElem?_eq_getElem (by have := hRS.out.1; omega)⟩
   obtain ⟨z, hzr⟩ : ∃ z, rs[n]? = some z := ⟨_, List.getElem?_eq_getElem hlt⟩
   have hrx := done_at (g := fun x => ⟨x.f, x.v, Iset.put x.no ⟨y1, y2⟩⟩) hn hRS.out.2 hzr hr
   have hIn := hF.out.ins r (List.mem_of_getElem? hr)
   have LE := Lib.hid (hF.out.at hr)
   have hone := Lib.hid hIn.one
   have hA : Below wr.heap.size wr (wr.alloc (.cells (rfV r).toArray 31)) := (Below.refl _ _).alloc (Nat.le_refl _) _
   have FB := FrAt.made wr hIn.len 31
   obtain ⟨A4, c4, eA, -⟩ := hIn.no.parts
   have n66 := FB.no0
   rw [eA] at n66
   have hbW : InB W0 (wr.alloc (.cells (rfV r).toArray 31)) := InB.trans (InB.trans HB2.out hF.out.size) hA
   obtain ⟨-, -, q0, q1⟩ := XC.out _ hbW
   have PU := Lib.hid (I.put (⟨y1, y2⟩ : Ver.V) (Rws.below hIn.no hA) (by have := HNo.out z (List.mem_of_getElem? hzr); rw [hrx]; omega))
   rw [eA] at PU
   have HS : Hid ((Tryz.prog.info? 31).map (·.size) = some (rfV r).length ∧ (rfV frZ).toArray.size = (rfV r).length) := Lib.hid ⟨frSize hIn.len, by rw [rf_len hIn.len]; exact frZ_size⟩
   have HF := hF
   have HIn := Lib.hid hIn
   have HR := Lib.hid hr
   have HRS := Lib.hid (fun (r' : RFr) (e : r'.x = ⟨z.x.f, z.x.v, Iset.put z.x.no ⟨y1, y2⟩⟩) => done_more (g := fun x => ⟨x.f, x.v, Iset.put x.no ⟨y1, y2⟩⟩) hn hRS.out.1 hRS.out.2 hzr e)
   have HRL := Lib.hid hRS.out.1
   have HRX := Lib.hid hrx
   have HA := Lib.hid hA
   have hn0 : (0 : Int) ≤ (n : Int) := by omega
   have hn1 : (n : Int) < (rs.length : Int) := by omega
   clear hr hzr hrx hIn hA FB hRS eA hF hbW
   go_wp2_with (first | refine wpList_mload (by rfl) _ (by rfl) (by rfl) LE.out.all ?_ | refine wpList_nstore (by rfl) _ _ (by rfl) (by rfl) (by rfl) HS.out.1 HS.out.2 hone.out ?_)
   refine (PU.out).mono ?_
   rintro e w9 ⟨v9, rfl, h9, b9⟩
   obtain ⟨A9, c9, e9, -⟩ := h9.parts
   subst e9
   have hb9 : Below wr.heap.size wr w9 := HA.out.trans (b9.mono HA.out.size)
   have F9 := HF.out.below hb9
   have hgl : g < wr.heap.size := (HF.out.own.1.lt g rfl).2
   have N9 : Vrs w9 (Off (.slice (some ⟨g, 0, none⟩) rs.length cap3)) (.slice A9 (Iset.put r.x.no ⟨y1, y2⟩).length c9) (Iset.put r.x.no ⟨y1, y2⟩) := h9.mono (fun i hi e => by have e : some g = some i := e; injection e with e; have := hi.1; have := HA.out.size; omega)
   have I9 := HIn.out.below hb9
   have T9 := F9.there HRL.out HR.out 66 1 (by decide) 0 (by decide)
   have c66 := (F9.at HR.out).no
   have f66 := T9.2
   rw [Nat.add_zero] at f66
   have F15 : Hid (FOwn w2 (RS.set n ⟨r.fv, .slice A9 (Iset.put r.x.no ⟨y1, y2⟩).length c9, ⟨r.x.f, r.x.v, Iset.put r.x.no ⟨y1, y2⟩⟩⟩) (.slice (some ⟨g, 0, none⟩) rs.length cap3) (w9.setCell ⟨g, n * 67 + 66, none⟩ (.slice A9 (Iset.put r.x.no ⟨y1, y2⟩).length c9))) := Lib.hid (F9.put (us := [.slice A9 (Iset.put r.x.no ⟨y1, y2⟩).length c9]) HRL.out HR.out (by show 66 + 1 ≤ 67; decide) (rf_setNo I9.len (.slice A9 (Iset.put r.x.no ⟨y1, y2⟩).length c9) (Iset.put r.x.no ⟨y1, y2⟩)) ⟨I9.f, N9, I9.len⟩)
   have HR15 := Lib.hid (HRS.out ⟨r.fv, .slice A9 (Iset.put r.x.no ⟨y1, y2⟩).length c9, ⟨r.x.f, r.x.v, Iset.put r.x.no ⟨y1, y2⟩⟩⟩ (by rw [← HRX.out]))
   clear h9 b9 hb9 F9 hgl N9 I9 T9 q0 q1 n66
   go_wp2_with fail
   exact ⟨⟨n + 1, _, by omega, by go_num, HR15, F15⟩, by show rs.length - ((n : Int) + 1).toNat < rs.length - (n : Int).toNat; omega⟩
  ·obtain rfl : n = rs.length := by omega
   have hM : RS.map (·.x) = (Know.except k ⟨y1, y2⟩).frags := by
    have := hRS.out.2
    rw [List.take_length, List.drop_length, List.map_nil, List.append_nil] at this
    rw [this]
    show _ = k.frags.map _
    rw [← HX.out, List.map_map]; rfl
   have hb5 := InB.trans HB2.out hF.out.size
   have HB5 : Hid (InB W0 wr) := Lib.hid hb5
   have CA2 := Lib.hid (CA.out wr (.agg #[.slice B3 rs.length cap3, .slice A2 m2 cap2]) ⟨_, _, rfl, hM ▸ hF.out.frs, I2.out.below hF.out.size⟩)
   clear hM hb5 hRS hF
   go_wp2_with fail
   refine (CA2.out).mono ?_
   rintro e w5 ⟨v5, c, rfl, hc, hk5, b5⟩
   obtain ⟨A5, m5, e5, B5, n5, d5, rfl⟩ := hk5.parts
   have S5 := InB.trans HB5.out b5
   have KE := kn_end (b := w.heap.size + 1 + 1) hk5 (R2.out w5 S5) (Nat.lt_of_lt_of_le HS2.out HB5.out.below.size) (HB0.out.trans (S5.below.mono HB0.out.size)) (Nat.le_succ_of_le (Nat.le_succ _))
   have T9 := Lib.hid KE.1
   have R9 := Lib.hid KE.2.1
   have K9 := Lib.hid KE.2.2.1
   have B9 := Lib.hid KE.2.2.2
   have HC := Lib.hid hc
   clear KE S5 b5 hk5 hc
   go_wp2_with (refine wpList_mstore (by rfl) (.tmp 4) (.tmp 36) (by rfl) (by rfl) (by rfl) T9.out (knSize _ _) (two_one rfl rfl) ?_)
   exact bodyPost_ret (v := .agg #[.slice A5 m5 e5, .slice B5 n5 d5]) (results_cell_row (by rfl) _ _ (w.heap.size + 1 + 1) 25 _ (0, 0) _ (by rfl) R9.out Tryz.underlying25 rfl (knSizeA _ _)) rfl ⟨_, _, rfl, HC.out, K9.out, B9.out⟩
open Go.RowKit Go.Sort
open Go.RowKit Go.Sort
theorem know_grant (V : VecOk) (I : IsetOk) (C : CoverOk) (Z : FilterOk) {w : World} {F G : Nat → Prop} {v : Value} {k : Know.K} {r : RFr} (h : Kns w F v k) (hr : r.In w G) (hk : Know.Ok (Know.union k ⟨[r.x], []⟩)) :
  Calls Tryz.prog 9 #[v, frA r] w fun e w' => ∃ v' c, e = .returned v' ∧ Know.Canon (Know.union k ⟨[r.x], []⟩) c ∧ KnNew w v' c w' ∧ Below w.heap.size w w' := by
 have hz := knZero
 obtain ⟨i1, hi1, hy0, hy1, hy2⟩ := ver_parts frInfo
 obtain ⟨a1, a2, rfl, hf, hi⟩ := h
 obtain ⟨A, ca, rfl, -⟩ := hf.parts
 obtain ⟨B, cb, rfl, -⟩ := hi.1.parts
 have hsz : (rfV r).length = 67 := rf_len hr.len
 obtain ⟨W0, hW0⟩ : ∃ W0, W0 = ((w.alloc (.cells #[.slice A k.frags.length ca, .slice B k.items.length cb] 25)).alloc (.cells (rfV r).toArray 31)).alloc (.cells #[.slice none 0 0, .slice none 0 0] 25) := ⟨_, rfl⟩
 have hb0 : Below w.heap.size w W0 := by rw [hW0]; exact (((Below.refl _ _).alloc (Nat.le_refl _) _).alloc (by simp) _).alloc (by simp; omega) _
 have r0 : Row W0 w.heap.size 25 #[.slice A k.frags.length ca, .slice B k.items.length cb] := by rw [hW0]; exact ((Row.made w _ _).behindNew _).behindNew _
 have r1 : Row W0 (w.heap.size + 1) 31 (rfV r).toArray := by
  rw [hW0]
  have := (Row.made (w.alloc (.cells #[.slice A k.frags.length ca, .slice B k.items.length cb] 25)) 31 (rfV r).toArray).behindNew (.cells #[.slice none 0 0, .slice none 0 0] 25)
  rwa [World.size_alloc] at this
 have r2 : Row W0 (w.heap.size + 1 + 1) 25 #[.slice none 0 0, .slice none 0 0] := by
  rw [hW0]
  have := Row.made ((w.alloc (.cells #[.slice A k.frags.length ca, .slice B k.items.length cb] 25)).alloc (.cells (rfV r).toArray 31)) 25 #[.slice none 0 0, .slice none 0 0]
  rwa [World.size_alloc, World.size_alloc] at this
 have R2 := Lib.hid (fun (W : World) (h : InB W0 W) => (r2.below h.below r2.inHeap : Row W (w.heap.size + 1 + 1) 25 #[.slice none 0 0, .slice none 0 0]))
 have HS2 := Lib.hid r2.inHeap
 have LR := Lib.hid (FrAt.row hr.len r1).all
 rw [hW0] at LR
 have hs0 : W0.heap.size = w.heap.size + 1 + 1 + 1 := by rw [hW0]; simp
 have hb1 : Below W0.heap.size W0 (W0.alloc (.cells (rfV r).toArray 31)) := (Below.refl _ _).alloc (Nat.le_refl _) _
 have HB1 : Hid (InB W0 (W0.alloc (.cells (rfV r).toArray 31))) := Lib.hid hb1
 have UN := Lib.hid (know_union V I C Z (a := k) (b := ⟨[r.x], []⟩) (w := W0.alloc (.cells (rfV r).toArray 31)) (F := AnyB) (G := AnyB) (v := .agg #[.slice A k.frags.length ca, .slice B k.items.length cb]) (u := .agg #[.slice (some ⟨W0.heap.size, 0, none⟩) 1 1, .slice none 0 0])
  ⟨_, _, rfl, ((hf.below hb0).below hb1).any, ((hi.below hb0).below hb1).any⟩ ⟨_, _, rfl, ⟨[r], rfl, (fr_made1 W0 31 r).mono (fun _ _ => trivial), fun x hx => by rw [List.mem_singleton.1 hx]; exact ((hr.below hb0).below hb1).any⟩, Its.empty _ _ _ _⟩ hk)
 rw [hs0] at UN
 have HB0 := Lib.hid hb0
 have q0 := r0.at 0
 have q1 := r0.at 1
 rw [hW0] at q0 q1
 simp only [List.getElem?_toArray, List.getElem?_cons_zero, List.getElem?_cons_succ] at q0 q1
 clear hf hi hr hk hb0 hb1 r0 r1 r2 hs0
 go_enter Tryz.func9, Tryz.ntmps9
 go_wp2_with (first | refine wpList_mload (by rfl) _ (by rfl) (by rfl) LR.out ?_ | refine wpList_build1 rfl 22 31 _ rfl (by rfl) Tryz.underlying22 hi1 hy0 hy1 hsz ?_)
 rw [← hW0]
 clear hW0 q0 q1 LR
 refine (UN.out).mono ?_
 rintro e w5 ⟨v5, c, rfl, hc, hk5, b5⟩
 obtain ⟨A5, m5, e5, B5, n5, d5, rfl⟩ := hk5.parts
 have S5 := InB.trans HB1.out b5
 have KE := kn_end (b := w.heap.size + 1 + 1) hk5 (R2.out w5 S5) (Nat.lt_of_lt_of_le HS2.out HB1.out.below.size) (HB0.out.trans (S5.below.mono HB0.out.size)) (Nat.le_succ_of_le (Nat.le_succ _))
 have T9 := Lib.hid KE.1
 have R9 := Lib.hid KE.2.1
 have K9 := Lib.hid KE.2.2.1
 have B9 := Lib.hid KE.2.2.2
 have HC := Lib.hid hc
 clear KE S5 b5 hk5 hc
 go_wp2_with (refine wpList_mstore (by rfl) (.tmp 4) (.tmp 9) (by rfl) (by rfl) (by rfl) T9.out (knSize _ _) (two_one rfl rfl) ?_)
 exact bodyPost_ret (v := .agg #[.slice A5 m5 e5, .slice B5 n5 d5]) (results_cell_row (by rfl) _ _ (w.heap.size + 1 + 1) 25 _ (0, 0) _ (by rfl) R9.out Tryz.underlying25 rfl (knSizeA _ _)) rfl ⟨_, _, rfl, HC.out, K9.out, B9.out⟩
open Go.RowKit Go.Sort
open Go.RowKit Go.Sort
def Says (e : Ending) (p : Prop) : Prop := ∃ t : Bool, e = .returned (.bool t) ∧ (t = true ↔ p)
theorem Says.no {p : Prop} (h : ¬ p) : Says (.returned (.bool false)) p := ⟨false, rfl, fun h => (by cases h), fun q => absurd q h⟩
open Go.RowKit Go.Sort
abbrev It65 : Type := {i : Know.It // i.v.length = 65}
instance : Inhabited It65 := ⟨⟨⟨⟨0, 0⟩, Vec.zeros⟩, Vec.zeros_len⟩⟩
open Go.RowKit Go.Sort
open Go.RowKit Go.Sort
instance dec_whole_cmp (l : List Know.Fr) (item v : Ver.V) (f : List Flt.Cl) : Decidable (Know.ByWhole l item v f) := inferInstanceAs (Decidable (_ ∧ _))
instance dec_spare_cmp (l : List Know.Fr) (f : List Flt.Cl) (i : Know.It) : Decidable (Know.Spare l f i) := inferInstanceAs (Decidable (∀ y ∈ _, _))
open Go.RowKit
theorem kn_hand {p : Know.K → Prop} {w w' : World} {e : Ending} (h : ∃ v' c, e = .returned v' ∧ p c ∧ KnNew w v' c w' ∧ Below w.heap.size w w') : ∃ v' c, e = .returned v' ∧ p c ∧ Kns w' AnyB v' c ∧ Below w.heap.size w w' := by
 obtain ⟨v', c, h1, h2, h3, h4⟩ := h
 exact ⟨v', c, h1, h2, h3.kns, h4⟩
theorem know_of (V : VecOk) (I : IsetOk) (C : CoverOk) (Z : FilterOk) : KnowOk where
 contains := fun item x h hf hk ho hx => know_contains V I C item x h hf hk ho hx
 add := fun item x h hk hx => (know_add V I C Z item x h hk hx).mono fun _ _ h => kn_hand h
 grant := fun h hr hk => (know_grant V I C Z h hr hk).mono fun _ _ h => kn_hand h
 except := fun item h hk hk2 => (know_except V I C Z item h hk hk2).mono fun _ _ h => kn_hand h
open Go.RowKit
namespace Tm
def raw (v : Value) : Option (DataW Value × List MemPlace) := some (.held v, [])
abbrev Pr := List UInt8 × Value
abbrev Fn := List UInt8 → Option Value
def ent (p : Pr) : Lit × DataW Value := (.string p.1, .held p.2)
def datum (l : List Pr) : DataW Value := .map (l.map ent)
theorem same (a b : List UInt8) : Lit.sameKey (.string a) (.string b) = decide (a = b) := by
 show (a == b) = _
 rw [Bool.eq_iff_iff]; simp
def Tells (l : List Pr) (m : Fn) : Prop := ∀ k, (l.find? fun p => decide (p.1 = k)) = (m k).map fun v => (k, v)
def insP (x : Pr) : List Pr → List Pr
 | [] => [x]
 | y :: r => if bytesBefore x.1 y.1 = true then x :: y :: r else y :: insP x r
theorem insert_map (x : Pr) : ∀ l : List Pr, DataW.insert (ent x) (l.map ent) = (insP x l).map ent
 | [] => rfl
 | y :: l => by
  rw [List.map_cons]
  unfold DataW.insert insP
  have e : (ent x).1.before (ent y).1 = bytesBefore x.1 y.1 := rfl
  rw [e, insert_map x l]
  split <;> rfl
theorem insP_len (x : Pr) : ∀ l : List Pr, (insP x l).length = l.length + 1
 | [] => rfl
 | y :: l => by
  unfold insP
  split
  ·rfl
  ·rw [List.length_cons, insP_len x l, List.length_cons]
theorem insP_find (x : Pr) (q : List UInt8) : ∀ l : List Pr, (∀ p ∈ l, p.1 ≠ x.1) → (insP x l).find? (fun p => decide (p.1 = q)) = if q = x.1 then some x else l.find? fun p => decide (p.1 = q)
 | [], _ => by
  unfold insP
  rw [List.find?_cons]
  by_cases h : q = x.1
  ·rw [if_pos h]; simp [h]
  ·rw [if_neg h]
   have : decide (x.1 = q) = false := decide_eq_false (fun e => h e.symm)
   rw [this]
 | y :: l, hl => by
  have hy := hl y (by simp)
  have ih := insP_find x q l (fun p hp => hl p (List.mem_cons_of_mem _ hp))
  unfold insP
  split
  ·rw [List.find?_cons]
   by_cases h : q = x.1
   ·rw [if_pos h]; simp [h]
   ·rw [if_neg h]
    have : decide (x.1 = q) = false := decide_eq_false (fun e => h e.symm)
    rw [this]
  ·rw [List.find?_cons, ih]
   by_cases h : q = x.1
   ·rw [if_pos h, if_pos h]
    have : decide (y.1 = q) = false := decide_eq_false (fun e => hy (by rw [e, h]))
    rw [this]
   ·rw [if_neg h, if_neg h, List.find?_cons]
def set (m : Fn) (k : List UInt8) (v : Value) : Fn := fun q => if q = k then some v else m q
theorem filter_ent (l : List Pr) (k : List UInt8) : (l.map ent).filter (fun p => !p.1.sameKey (.string k)) = (l.filter fun p => decide (p.1 ≠ k)).map ent := by
 rw [List.filter_map]
 congr 1
 apply List.filter_congr
 intro x _
 show (!(Lit.sameKey (.string x.1) (.string k))) = _
 rw [same, decide_not]
theorem find_filter (l : List Pr) (k q : List UInt8) (h : q ≠ k) : (l.filter fun p => decide (p.1 ≠ k)).find? (fun p => decide (p.1 = q)) = l.find? fun p => decide (p.1 = q) := by
 rw [List.find?_filter]
 congr 1
 funext p
 by_cases e : p.1 = q
 ·simp [e, h]
 ·simp [e]
theorem Tells.put {l : List Pr} {m : Fn} (h : Tells l m) (k : List UInt8) (v : Value) : Tells (insP (k, v) (l.filter fun p => decide (p.1 ≠ k))) (set m k v) := by
 intro q
 rw [insP_find _ _ _ (fun p hp => by simpa using (List.mem_filter.1 hp).2)]
 unfold set
 by_cases e : q = k
 ·subst e
  simp
 ·rw [if_neg e, if_neg e, find_filter _ _ _ e]
  exact h q
theorem datum_put (l : List Pr) (k : List UInt8) (v : Value) : (datum l).put (.string k) (.held v) = datum (insP (k, v) (l.filter fun p => decide (p.1 ≠ k))) := by
 show DataW.map (DataW.insert (ent (k, v)) ((l.map ent).filter fun p => !p.1.sameKey (.string k))) = _
 rw [filter_ent, insert_map]
 rfl
theorem datum_at {l : List Pr} {m : Fn} (h : Tells l m) (k : List UInt8) (z : DataW Value) : (datum l).atKey (.string k) z = (match m k with | some v => .held v | none => z) := by
 have e : (l.map ent).find? (fun p => p.1.sameKey (.string k)) = (l.find? fun p => decide (p.1 = k)).map ent := by
  rw [List.find?_map]
  congr 2
  funext x
  exact same x.1 k
 unfold datum DataW.atKey
 simp only [e]
 rw [h k]
 cases m k <;> rfl
theorem datum_has {l : List Pr} {m : Fn} (h : Tells l m) (k : List UInt8) : Maps.has (datum l) (.string k) = (m k).isSome := by
 have h1 : (m k).isSome = (l.find? fun p => decide (p.1 = k)).isSome := by rw [h k]; cases m k <;> rfl
 rw [h1]
 unfold datum
 rw [Maps.has_eq, List.any_map]
 rw [Bool.eq_iff_iff, List.any_eq_true, List.find?_isSome]
 constructor
 ·rintro ⟨x, hx, h⟩
  have h : (Lit.sameKey (.string x.1) (.string k)) = true := h
  rw [same] at h
  exact ⟨x, hx, h⟩
 ·rintro ⟨x, hx, h⟩
  refine ⟨x, hx, ?_⟩
  show (Lit.sameKey (.string x.1) (.string k)) = true
  rw [same]; exact h
theorem keyed : Go.Maps.Keyed Tryz.prog 9 := Go.Maps.string_keyed Tryz.underlying9
theorem key {k : ByteArray} (h : k.size ≤ 9223372036854775807) : keyOf Tryz.prog 9 (.string k) = some (.string k.data.toList) := Go.WideMaps.keyOf_string_mk Tryz.underlying9 h
theorem zero (w : World) : (zeroValue 82).run Tryz.prog w = .ok (.slice none 0 0) w := by kernel_rfl
end Tm
def TmAt (w : World) (bm : Nat) (m : Tm.Fn) (n : Nat) : Prop := ∃ l, Tm.Tells l m ∧ l.length ≤ n ∧ w.ownsMap Tryz.prog 9 Tm.raw bm l.length (Tm.datum l)
section
variable {w w' : World} {bm n : Nat} {m : Tm.Fn} {F G : Nat → Prop}
theorem tm_tight {l : List Tm.Pr} {k : Nat} (h : w.ownsMap Tryz.prog 9 Tm.raw bm k (Tm.datum l)) : w.ownsMap Tryz.prog 9 Tm.raw bm l.length (Tm.datum l) := by
 obtain ⟨es, clock, hb, hf, hs, hD⟩ := h
 refine ⟨es, clock, hb, hf, ?_, hD⟩
 have h1 : Maps.size (Tm.datum l) = es.size := by rw [hD]; simp [Maps.size, length_sorted]
 have h2 : Maps.size (Tm.datum l) = l.length := by unfold Tm.datum; rw [Maps.size_eq, List.length_map]
 omega
theorem TmAt.lt (h : TmAt w bm m n) : bm < w.heap.size := by
 obtain ⟨l, -, -, h⟩ := h
 exact World.ownsMap.lt h
theorem TmAt.kept (h : TmAt w bm m n) (k : Kept G w w') (hd : ¬ G bm) : TmAt w' bm m n := by
 have hl := h.lt
 obtain ⟨l, h1, h2, es, clock, hb, r⟩ := h
 exact ⟨l, h1, h2, es, clock, (k.block bm hl hd).trans hb, r⟩
theorem TmAt.below (h : TmAt w bm m n) (k : Below w.heap.size w w') : TmAt w' bm m n := h.kept (Kept.ofBelow k (fun _ => False)) (fun h => h)
theorem TmAt.made (w : World) : TmAt (w.alloc (.map #[] 0)) w.heap.size (fun _ => none) 0 := ⟨[], fun _ => rfl, Nat.le_refl _, World.ownsMap_made w _ _ _⟩
theorem TmAt.look (h : TmAt w bm m n) {k : List UInt8} (hk : k.length ≤ 9223372036854775807) :
  (Instr.lookup 141 (.map (some bm)) (.string (mk k)) true).run Tryz.prog w = .ok (.tuple #[(match m k with | some v => v | none => .slice none 0 0), .bool (m k).isSome]) w := by
 obtain ⟨l, ht, -, h⟩ := h
 obtain ⟨v', ps, h1, h2⟩ := World.ownsMap.look_ok h Tm.keyed Tryz.underlying141 (Tm.zero w) (zd := .held (.slice none 0 0)) (zp := []) rfl (Tm.key (k := mk k) (by rw [mk_len]; exact hk))
 rw [mk_data, Tm.datum_has ht] at h1
 rw [h1]
 rw [mk_data, Tm.datum_at ht] at h2
 unfold Tm.raw at h2
 have e := congrArg Prod.fst (Option.some.inj h2)
 cases hg : m k with
 | none => rw [hg] at e; have e : DataW.held v' = .held _ := e; injection e with e; rw [e]
 | some v => rw [hg] at e; have e : DataW.held v' = .held _ := e; injection e with e; rw [e]
theorem TmAt.put (h : TmAt w bm m n) (hn : n < 1000000000) {k : List UInt8} (hk : k.length ≤ 9223372036854775807) (v : Value) :
  ∃ w', (Instr.mapUpdate 141 (.map (some bm)) (.string (mk k)) v).run Tryz.prog w = .ok () w' ∧ TmAt w' bm (Tm.set m k v) (n + 1) ∧ w.grownBy w' (some bm) := by
 obtain ⟨l, ht, hl, h⟩ := h
 obtain ⟨w', h1, h2, h3⟩ := World.ownsMap.update h Tm.keyed Tryz.underlying141 (by unfold maxLen; omega) (Tm.key (k := mk k) (by rw [mk_len]; exact hk)) (val := v) (d := .held v) (ps := []) rfl
 rw [mk_data, Tm.datum_put] at h2
 refine ⟨w', h1, ⟨_, ht.put k v, ?_, tm_tight h2⟩, h3⟩
 rw [Tm.insP_len]
 have := List.length_filter_le (fun p : Tm.Pr => decide (p.1 ≠ k)) l
 omega
end
open Go.RowKit
def Tm.val (m : Tm.Fn) (q : List UInt8) : Value := match m q with | some v => v | none => .slice none 0 0
def strLen : Value → Nat
 | .string s => s.size
 | _ => 0
theorem tell_any {w : World} {F : Nat → Prop} {bm B n : Nat} {m : Tm.Fn} {L : List UInt8 → List Sz.Rg} (hm : TmAt w bm m n) (hB : w.cell? ⟨B, 0, none⟩ = some (.map (some bm))) (hBl : B < w.heap.size)
  (hv : ∀ q v, m q = some v → Rgs w F v (L q)) (hn : ∀ q, m q = none → (q = [] → L [] = []) ∧ (q ≠ [] → L q = L (Pth.parent q))) (p : List UInt8) (hp : p.length ≤ 100000) :
  Calls Tryz.prog 119 #[.string (mk p), .pointer (some ⟨B, 0, none⟩)] w fun e w' => ∃ v, e = .returned v ∧ Rgs w' F v (L p) ∧ Below w.heap.size w w' := by
 have LK : Hid (∀ (W : World), Below w.heap.size w W → ∀ q : List UInt8, q.length ≤ 100000 → (Instr.lookup 141 (.map (some bm)) (.string (mk q)) true).run Tryz.prog W = .ok (.tuple #[Tm.val m q, .bool (m q).isSome]) W) := Lib.hid (fun W hW q hq => (hm.below hW).look (by omega))
 have CB : Hid (∀ (W : World), Below w.heap.size w W → W.cell? ⟨B, 0, none⟩ = some (.map (some bm))) := Lib.hid (fun W hW => (hW.cell (p := ⟨B, 0, none⟩) hBl).trans hB)
 have HV := Lib.hid hv
 have HN := Lib.hid hn
 have PA := Lib.hid (fun (q : List UInt8) (hq : q.length ≤ 100000) (W : World) => path_ok.parent q W hq)
 have hlook := LK.out w (Below.refl _ _) p hp
 clear hm hv hn hBl
 obtain ⟨ps, hps⟩ : ∃ ps, ps = mk p := ⟨_, rfl⟩
 rw [← hps] at hlook ⊢
 have Hps := Lib.hid hps
 clear hps
 generalize hx : Tm.val m p = x at hlook
 generalize hy : (m p).isSome = y at hlook
 have HX := Lib.hid hx
 have HY := Lib.hid hy
 clear hx hy
 go_enter Tryz.func119, Tryz.ntmps119
 go_wp2_with fail
 go_loopw [0, 4, 5, 20] (fun pv l has _ wr => ∃ q : List UInt8, q.length ≤ 100000 ∧ pv = .string (mk q) ∧ l = Tm.val m q ∧ has = .bool (m q).isSome ∧ Hid (L q = L p) ∧ Below w.heap.size w wr) (fun pv _ _ _ _ => strLen pv)
 case atStart => exact ⟨p, hp, by rw [Hps.out], HX.out.symm, by rw [HY.out], Lib.hid rfl, Below.refl _ _⟩
 case round =>
  obtain ⟨q, hq, rfl, rfl, rfl, hL, hbel⟩ := hrel
  have Hbel := Lib.hid hbel
  clear hlook
  cases hmq : m q with
  | some v =>
   have hval : Tm.val m q = v := by unfold Tm.val; rw [hmq]
   have hfin : Hid (Rgs wr F v (L p)) := Lib.hid (by rw [← hL.out]; exact (HV.out q v hmq).below hbel)
   rw [hval]
   clear hval hmq hbel hB
   go_wp2_with fail
   go_ret
   exact ⟨_, rfl, hfin.out, Hbel.out⟩
  | none =>
   have hval : Tm.val m q = .slice none 0 0 := by unfold Tm.val; rw [hmq]
   rw [hval]
   have ea := str_nil q
   have ia := str_empty q
   by_cases h0 : q = []
   ·have hfin : Hid (Rgs wr F (.slice none 0 0) (L p)) := Lib.hid (by rw [← hL.out, h0, (HN.out q hmq).1 h0]; exact Rws.none _ _ _)
    rw [decide_eq_true h0] at ea ia
    clear hval hmq hbel h0 hB
    generalize mk q = qs at *
    go_wp2_with fail
    go_ret
    exact ⟨_, rfl, hfin.out, Hbel.out⟩
   ·have hL2 : Hid (L (Pth.parent q) = L p) := Lib.hid (by rw [← hL.out]; exact ((HN.out q hmq).2 h0).symm)
    have hsh := Pth.parent_short h0
    have hpl : (Pth.parent q).length ≤ 100000 := by omega
    have PQ := Lib.hid (PA.out q hq)
    have hms : Hid (strLen (.string (mk (Pth.parent q))) < strLen (.string (mk q))) := Lib.hid (by show (mk (Pth.parent q)).size < (mk q).size; rw [mk_len, mk_len]; exact hsh)
    rw [decide_eq_false h0] at ea ia
    have LK2 := Lib.hid (fun W hW => LK.out W hW (Pth.parent q) hpl)
    have Hpl : Hid ((Pth.parent q).length ≤ 100000) := Lib.hid hpl
    generalize hpq : Pth.parent q = pq at *
    clear hval hmq hbel h0 hsh hpq hpl hB
    obtain ⟨qs, hqs⟩ : ∃ qs, qs = mk q := ⟨_, rfl⟩
    rw [← hqs] at ea ia PQ hms ⊢
    clear hqs
    go_wp2_with fail
    refine (PQ.out _).mono ?_
    rintro e w1 ⟨rfl, hb1⟩
    have HB1 := Lib.hid (Hbel.out.trans (hb1.mono Hbel.out.size))
    have hB := CB.out _ HB1.out
    have hlook := LK2.out _ HB1.out
    clear hb1
    generalize hx : Tm.val m pq = x at hlook
    generalize hy : (m pq).isSome = y at hlook
    have HX := Lib.hid hx
    have HY := Lib.hid hy
    clear hx hy
    obtain ⟨qs2, hqs2⟩ : ∃ qs, qs = mk pq := ⟨_, rfl⟩
    rw [← hqs2] at hlook hms ⊢
    have HQ2 := Lib.hid hqs2
    clear hqs2
    go_wp2_with fail
    exact ⟨⟨pq, Hpl.out, by rw [HQ2.out], HX.out.symm, by rw [HY.out], hL2, HB1.out⟩, hms.out⟩
end Go.Proofs.YtkcgmnhjofoeiaaGreat
