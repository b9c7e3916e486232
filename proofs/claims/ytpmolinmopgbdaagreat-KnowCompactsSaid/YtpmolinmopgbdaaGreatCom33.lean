import Derived.Test.YtpmolinmopgbdaaGreatCom20
import Derived.Test.YtpmolinmopgbdaaGreatCom15
import Derived.Test.YtpmolinmopgbdaaGreatCom31
import Derived.Test.YtpmolinmopgbdaaGreatCom5
import Derived.Test.YtpmolinmopgbdaaGreatCom21
import Derived.Test.YtpmolinmopgbdaaGreatCom11
import Derived.Test.YtpmolinmopgbdaaGreatCom13
import Derived.Test.YtpmolinmopgbdaaGreatCom3
import Derived.Test.YtpmolinmopgbdaaGreatCom12
import Derived.Test.YtpmolinmopgbdaaGreatCom18
set_option maxRecDepth 100000
set_option linter.unusedVariables false
set_option linter.unusedSimpArgs false
set_option maxHeartbeats 12800000
namespace Go.Proofs.YtpmolinmopgbdaaGreat
open Go.RowKit Go.Sort
theorem know_except1 {w : World} {i : Know.It} {item : Ver.V} {bi : Nat} (h65 : i.v.length = 65) (hbi : bi < w.heap.size) (c0 : w.cell? ⟨bi, 0, none⟩ = some (.int .i64 item.by_)) (c1 : w.cell? ⟨bi, 1, none⟩ = some (.int .i64 item.n)) :
  Calls Tryz.prog 54 #[.agg (itV i).toArray, .pointer (some ⟨bi, 0, none⟩)] w fun e w' => e = .returned (.bool (decide (i.item = item))) ∧ Below w.heap.size w w' := by
 have hbA : Below w.heap.size w (w.alloc (.cells (itV i).toArray 50)) := (Below.refl _ _).alloc (Nat.le_refl _) _
 have FB := ItAt.made w h65 50
 have a0 := FB.by_
 have a1 := FB.n0
 have c0 := (hbA.cell (p := ⟨bi, 0, none⟩) hbi).trans c0
 have c1 := (hbA.cell (p := ⟨bi, 1, none⟩) hbi).trans c1
 have HbA := Lib.hid hbA
 obtain ⟨⟨i1, i2⟩, iv⟩ := i
 obtain ⟨x1, x2⟩ := item
 simp only at a0 a1 c0 c1 ⊢
 clear FB hbA h65
 by_cases hE : i1 = x1 ∧ i2 = x2
 ·obtain ⟨rfl, rfl⟩ := hE
  have HD : Hid (decide ((⟨i1, i2⟩ : Ver.V) = ⟨i1, i2⟩) = true) := Lib.hid (by simp)
  go_enter Tryz.func54, Tryz.ntmps54
  go_wp2_with fail
  go_ret
  exact ⟨by first | rfl | ((rw [HD.out]) <;> rfl), HbA.out⟩
 ·have HD : Hid (decide ((⟨i1, i2⟩ : Ver.V) = ⟨x1, x2⟩) = false) := Lib.hid (decide_eq_false (fun h => hE (by injection h with h1 h2; exact ⟨h1, h2⟩)))
  by_cases h1 : i1 = x1
  ·have h2 : ¬ i2 = x2 := fun q => hE ⟨h1, q⟩
   subst h1
   clear hE
   go_enter Tryz.func54, Tryz.ntmps54
   go_wp2_with fail
   go_ret
   exact ⟨by first | rfl | ((rw [HD.out]) <;> rfl), HbA.out⟩
  ·clear hE
   go_enter Tryz.func54, Tryz.ntmps54
   go_wp2_with fail
   go_ret
   exact ⟨by first | rfl | ((rw [HD.out]) <;> rfl), HbA.out⟩
theorem done_more {g : Know.Fr → Know.Fr} {rs RS : List RFr} {n : Nat} {z r : RFr} (hn : n ≤ rs.length) (hl : RS.length = rs.length) (hm : RS.map (·.x) = (rs.take n).map (fun r => g r.x) ++ (rs.drop n).map (·.x)) (hz : rs[n]? = some z) (hr : r.x = g z.x) :
  (RS.set n r).length = rs.length ∧ (RS.set n r).map (·.x) = (rs.take (n + 1)).map (fun r => g r.x) ++ (rs.drop (n + 1)).map (·.x) := by
 refine ⟨by rw [List.length_set]; exact hl, ?_⟩
 rw [List.map_set, hm, List.set_append_right _ _ (by rw [List.length_map, List.length_take]; omega), List.length_map, List.length_take, Nat.min_eq_left hn, Nat.sub_self]
 obtain ⟨hh, e⟩ := List.getElem?_eq_some_iff.1 hz
 rw [List.drop_eq_getElem_cons hh, List.map_cons, List.set_cons_zero, List.take_succ_eq_append_getElem hh, List.map_append, List.append_assoc, e, hr]
 rfl
theorem done_at {g : Know.Fr → Know.Fr} {rs RS : List RFr} {n : Nat} {z r : RFr} (hn : n ≤ rs.length) (hm : RS.map (·.x) = (rs.take n).map (fun r => g r.x) ++ (rs.drop n).map (·.x)) (hz : rs[n]? = some z) (hr : RS[n]? = some r) : r.x = z.x := by
 have := congrArg (fun L => L[n]?) hm
 simp only [List.getElem?_map, hr, Option.map_some] at this
 rw [List.getElem?_append_right (by rw [List.length_map, List.length_take]; omega), List.length_map, List.length_take, Nat.min_eq_left hn, Nat.sub_self, List.getElem?_map, List.getElem?_drop, Nat.add_zero, hz] at this
 simpa using this
theorem know_except (V : VecOk) (I : IsetOk) (C : CoverOk) (Z : FilterOk) {w : World} {F : Nat → Prop} {v : Value} {k : Know.K} (item : Ver.V) (h : Kns w F v k) (hk : Know.Ok k) (hk2 : Know.Ok (Know.except k item)) :
  Calls Tryz.prog 21 #[v, verA item] w fun e w' => ∃ v' c, e = .returned v' ∧ Know.Canon (Know.except k item) c ∧ KnNew w v' c w' ∧ Below w.heap.size w w' := by
 have hz := knZero
 have hzf := frZero
 obtain ⟨y1, y2⟩ := item
 obtain ⟨a, b, rfl, ⟨rs, hrx, hrr, hri⟩, hi⟩ := h
 obtain ⟨A, ca, rfl, -⟩ := hrr.parts
 obtain ⟨B, cb, rfl, -⟩ := hi.1.parts
 obtain ⟨W0, hW0⟩ : ∃ W0, W0 = ((w.alloc (.cells #[.slice A rs.length ca, .slice B k.items.length cb] 25)).alloc (.cells #[.int .i64 y1, .int .i64 y2] 27)).alloc (.cells #[.slice none 0 0, .slice none 0 0] 25) := ⟨_, rfl⟩
 have hb0 : Below w.heap.size w W0 := by rw [hW0]; exact (((Below.refl _ _).alloc (Nat.le_refl _) _).alloc (by simp) _).alloc (by simp; omega) _
 have r0 : Row W0 w.heap.size 25 #[.slice A rs.length ca, .slice B k.items.length cb] := by rw [hW0]; exact ((Row.made w _ _).behindNew _).behindNew _
 have r1 : Row W0 (w.heap.size + 1) 27 #[.int .i64 y1, .int .i64 y2] := by
  rw [hW0]
  have := (Row.made (w.alloc (.cells #[.slice A rs.length ca, .slice B k.items.length cb] 25)) 27 #[.int .i64 y1, .int .i64 y2]).behindNew (.cells #[.slice none 0 0, .slice none 0 0] 25)
  rwa [World.size_alloc] at this
 have r2 : Row W0 (w.heap.size + 1 + 1) 25 #[.slice none 0 0, .slice none 0 0] := by
  rw [hW0]
  have := Row.made ((w.alloc (.cells #[.slice A rs.length ca, .slice B k.items.length cb] 25)).alloc (.cells #[.int .i64 y1, .int .i64 y2] 27)) 25 #[.slice none 0 0, .slice none 0 0]
  rwa [World.size_alloc, World.size_alloc] at this
 have XC := Lib.hid (fun (W : World) (h : InB W0 W) => (⟨(r0.below h.below r0.inHeap).at 0, (r0.below h.below r0.inHeap).at 1, (r1.below h.below r1.inHeap).at 0, (r1.below h.below r1.inHeap).at 1⟩ : W.cell? ⟨w.heap.size, 0, none⟩ = some (.slice A rs.length ca) ∧ W.cell? ⟨w.heap.size, 1, none⟩ = some (.slice B k.items.length cb) ∧ W.cell? ⟨w.heap.size + 1, 0, none⟩ = some (.int .i64 y1) ∧ W.cell? ⟨w.heap.size + 1, 1, none⟩ = some (.int .i64 y2)))
 have R2 := Lib.hid (fun (W : World) (h : InB W0 W) => (r2.below h.below r2.inHeap : Row W (w.heap.size + 1 + 1) 25 #[.slice none 0 0, .slice none 0 0]))
 have HS1 := Lib.hid r1.inHeap
 have HS2 := Lib.hid r2.inHeap
 have hl1 : rs.length ≤ 1000 := by have := hk.fr; rw [← hrx, List.length_map] at this; exact this
 have hno : ∀ r ∈ rs, r.x.no.length ≤ 1000 := fun r hr => hk.no r.x (by rw [← hrx]; exact List.mem_map.2 ⟨r, hr, rfl⟩)
 have CL := Lib.hid (it_clone (Rws.below hi.1 hb0) (fun x hx => it_len (hi.2 x hx)) (fun x _ => it_one x) (by have := hk.it; omega))
 have FC := Lib.hid (fun (W : World) (h : InB W0 W) => fr_clone (Rws.below (Rws.below hrr hb0) h.below) (fun r hr => rf_len (hri r hr).len) (fun r hr => (hri r hr).one) (by omega))
 have HI := Lib.hid (fun (W : World) (h : InB W0 W) (r : RFr) (hr : r ∈ rs) => ((hri r hr).below hb0).below h.below)
 have CA := Lib.hid (fun (W : World) (v' : Value) (h : Kns W AnyB v' (Know.except k ⟨y1, y2⟩)) => know_canon V I C Z h hk2)
 have HNo := Lib.hid hno
 have HX := Lib.hid hrx
 have HB0 := Lib.hid hb0
 have H65 := Lib.hid hi.2
 have HIt := Lib.hid hk.it
 have hlZ : (rs.length : Int) ≤ 1000 := by omega
 have c1 := (XC.out W0 (InB.refl W0)).2.1
 rw [hW0] at c1
 have hsf : ∀ (w : World) (a : Addr) (m : Mode) (fn : Fn) (fi ca : Array Value), (store a (.func fn fi ca) m).run Tryz.prog w = stored Tryz.prog w a (.func fn fi ca) m := fun w a m fn fi ca => run_store Tryz.prog w a _ m rfl
 clear hrr hri hi hk hk2 hb0 r0 r1 r2 hno hrx
 go_enter Tryz.func21, Tryz.ntmps21
 go_wp2_with fail
 rw [← hW0]
 clear hW0 c1
 refine (CL.out).mono ?_
 rintro e w1 ⟨v1, rfl, h1⟩
 have DL := Lib.hid (it_delete (pv := .pointer (some ⟨w.heap.size + 1, 0, none⟩)) (p := fun i => decide (i.item = (⟨y1, y2⟩ : Ver.V))) h1 (fun x hx => it_len (H65.out x hx)) (fun x _ => it_one x) (by have := HIt.out; omega) (fun W hW x hx => by
  have hown := fun g hg => (h1.1.lt g hg).1
  have hbl : w.heap.size + 1 < w1.heap.size := by have := h1.2.size; have := HS1.out; omega
  obtain ⟨-, -, q0, q1⟩ := XC.out w1 h1.2
  refine know_except1 (item := ⟨y1, y2⟩) (H65.out x hx) (Nat.lt_of_lt_of_le hbl hW.size) ?_ ?_
  ·exact (hW.cell (p := ⟨w.heap.size + 1, 0, none⟩) hbl (fun e => by have h := hown (w.heap.size + 1) e; have := HS1.out; omega)).trans q0
  ·exact (hW.cell (p := ⟨w.heap.size + 1, 1, none⟩) hbl (fun e => by have h := hown (w.heap.size + 1) e; have := HS1.out; omega)).trans q1))
 have H1 := Lib.hid h1
 clear h1 CL
 go_wp2_with fail
 refine (DL.out).mono ?_
 rintro e w2 ⟨v2, rfl, hv2, h2, k2⟩
 have hb2 : Below W0.heap.size W0 w2 := H1.out.2.trans (k2.below H1.out.2.size (fun i hi => (H1.out.1.lt i hi).1))
 have hfl : (k.items.filter fun x => !decide (x.item = (⟨y1, y2⟩ : Ver.V))) = (Know.except k ⟨y1, y2⟩).items := by
  show _ = k.items.filter _
  exact List.filter_congr (fun x _ => by simp)
 rw [hfl] at h2
 have hlen2 : ∀ x ∈ (Know.except k ⟨y1, y2⟩).items, x.v.length = 65 := fun x hx => H65.out x (List.mem_filter.1 hx).1
 obtain ⟨A2, cap2, e2, -⟩ := (h2.rows (fun x hx => it_len (hlen2 x hx))).parts
 subst e2
 have I2 : Hid (Its w2 AnyB (.slice A2 (Know.except k ⟨y1, y2⟩).items.length cap2) (Know.except k ⟨y1, y2⟩).items) := Lib.hid ⟨(h2.rows (fun x hx => it_len (hlen2 x hx))).mono (fun _ _ => trivial), hlen2⟩
 have c0 := (XC.out w2 hb2).1
 have FC2 := Lib.hid (FC.out w2 hb2)
 have HI2 := Lib.hid (HI.out w2 hb2)
 have HB2 : Hid (InB W0 w2) := Lib.hid hb2
 clear h2 k2 hb2 hv2 hfl hlen2 H1 DL
 generalize (Know.except k ⟨y1, y2⟩).items.length = m2 at *
 go_wp2_with fail
 refine (FC2.out).mono ?_
 rintro e w3 ⟨v3, rfl, h3⟩
 have F3 := Lib.hid (FOwn.of h3 HI2.out)
 obtain ⟨B3, cap3, e3, hcap3⟩ := F3.out.rws.parts
 subst e3
 clear h3 FC2 c0 FC HI
 go_wp2_with fail
 go_loopw [19] (fun i wr => ∃ n RS, n ≤ rs.length ∧ i = .int .i64 (n : Nat) ∧ Hid (RS.length = rs.length ∧ RS.map (·.x) = (rs.take n).map (fun r => (⟨r.x.f, r.x.v, Iset.put r.x.no ⟨y1, y2⟩⟩ : Know.Fr)) ++ (rs.drop n).map (·.x)) ∧ Hid (FOwn w2 RS (.slice B3 rs.length cap3) wr)) (fun i _ => rs.length - (intOf i).toNat)
 case atStart => exact ⟨0, rs, Nat.zero_le _, rfl, Lib.hid ⟨rfl, by simp⟩, F3⟩
 case round =>
  obtain ⟨n, RS, hn, rfl, hRS, hF⟩ := hrel
  by_cases hlt : n < rs.length
  ·obtain ⟨g, cap1, e, -, -⟩ := hF.out.own.1.form (by have := hRS.out.1; omega)
   injection e with e1 e2 e3
   subst e1 e3
   clear e2
   obtain ⟨r, hr⟩ : ∃ r, RS[n]? = some r := ⟨_, List.getElem?_eq_getElem (by have := hRS.out.1; omega)⟩
   obtain ⟨z, hzr⟩ : ∃ z, rs[n]? = some z := ⟨_, List.getElem?_eq_getElem hlt⟩
   have hrx := done_at (g := fun x => ⟨x.f, x.v, Iset.put x.no ⟨y1, y2⟩⟩) hn hRS.out.2 hzr hr
   have hIn := hF.out.ins r (List.mem_of_getElem? hr)
   have LE := Lib.hid (hF.out.at hr)
   have hone := Lib.hid hIn.one
   have hA : Below wr.heap.size wr (wr.alloc (.cells (rfV r).toArray 42)) := (Below.refl _ _).alloc (Nat.le_refl _) _
   have FB := FrAt.made wr hIn.len 42
   obtain ⟨A4, c4, eA, -⟩ := hIn.no.parts
   have n66 := FB.no0
   rw [eA] at n66
   have hbW : InB W0 (wr.alloc (.cells (rfV r).toArray 42)) := InB.trans (InB.trans HB2.out hF.out.size) hA
   obtain ⟨-, -, q0, q1⟩ := XC.out _ hbW
   have PU := Lib.hid (I.put (⟨y1, y2⟩ : Ver.V) (Rws.below hIn.no hA) (by have := HNo.out z (List.mem_of_getElem? hzr); rw [hrx]; omega))
   rw [eA] at PU
   have HS : Hid ((Tryz.prog.info? 42).map (·.size) = some (rfV r).length ∧ (rfV frZ).toArray.size = (rfV r).length) := Lib.hid ⟨frSize hIn.len, by rw [rf_len hIn.len]; exact frZ_size⟩
   have HF := hF
   have HIn := Lib.hid hIn
   have HR := Lib.hid hr
   have HRS := Lib.hid (fun (r' : RFr) (e : r'.x = ⟨z.x.f, z.x.v, Iset.put z.x.no ⟨y1, y2⟩⟩) => done_more (g := fun x => ⟨x.f, x.v, Iset.put x.no ⟨y1, y2⟩⟩) hn hRS.out.1 hRS.out.2 hzr e)
   have HRL := Lib.hid hRS.out.1
   have HRX := Lib.hid hrx
   have HA := Lib.hid hA
   have hn0 : (0 : Int) ≤ (n : Int) := by omega
   have hn1 : (n : Int) < (rs.length : Int) := by omega
   clear hr hzr hrx hIn hA FB hRS eA hF hbW
   go_wp2_with (first | refine wpList_mload (by rfl) _ (by rfl) (by rfl) LE.out.all ?_ | refine wpList_nstore (by rfl) _ _ (by rfl) (by rfl) (by rfl) HS.out.1 HS.out.2 hone.out ?_)
   refine (PU.out).mono ?_
   rintro e w9 ⟨v9, rfl, h9, b9⟩
   obtain ⟨A9, c9, e9, -⟩ := h9.parts
   subst e9
   have hb9 : Below wr.heap.size wr w9 := HA.out.trans (b9.mono HA.out.size)
   have F9 := HF.out.below hb9
   have hgl : g < wr.heap.size := (HF.out.own.1.lt g rfl).2
   have N9 : Vrs w9 (Off (.slice (some ⟨g, 0, none⟩) rs.length cap3)) (.slice A9 (Iset.put r.x.no ⟨y1, y2⟩).length c9) (Iset.put r.x.no ⟨y1, y2⟩) := h9.mono (fun i hi e => by have e : some g = some i := e; injection e with e; have := hi.1; have := HA.out.size; omega)
   have I9 := HIn.out.below hb9
   have T9 := F9.there HRL.out HR.out 66 1 (by decide) 0 (by decide)
   have c66 := (F9.at HR.out).no
   have f66 := T9.2
   rw [Nat.add_zero] at f66
   have F15 : Hid (FOwn w2 (RS.set n ⟨r.fv, .slice A9 (Iset.put r.x.no ⟨y1, y2⟩).length c9, ⟨r.x.f, r.x.v, Iset.put r.x.no ⟨y1, y2⟩⟩⟩) (.slice (some ⟨g, 0, none⟩) rs.length cap3) (w9.setCell ⟨g, n * 67 + 66, none⟩ (.slice A9 (Iset.put r.x.no ⟨y1, y2⟩).length c9))) := Lib.hid (F9.put (us := [.slice A9 (Iset.put r.x.no ⟨y1, y2⟩).length c9]) HRL.out HR.out (by show 66 + 1 ≤ 67; decide) (rf_setNo I9.len (.slice A9 (Iset.put r.x.no ⟨y1, y2⟩).length c9) (Iset.put r.x.no ⟨y1, y2⟩)) ⟨I9.f, N9, I9.len⟩)
   have HR15 := Lib.hid (HRS.out ⟨r.fv, .slice A9 (Iset.put r.x.no ⟨y1, y2⟩).length c9, ⟨r.x.f, r.x.v, Iset.put r.x.no ⟨y1, y2⟩⟩⟩ (by rw [← HRX.out]))
   clear h9 b9 hb9 F9 hgl N9 I9 T9 q0 q1 n66
   go_wp2_with fail
   exact ⟨⟨n + 1, _, by omega, by go_num, HR15, F15⟩, by show rs.length - ((n : Int) + 1).toNat < rs.length - (n : Int).toNat; omega⟩
  ·obtain rfl : n = rs.length := by omega
   have hM : RS.map (·.x) = (Know.except k ⟨y1, y2⟩).frags := by
    have := hRS.out.2
    rw [List.take_length, List.drop_length, List.map_nil, List.append_nil] at this
    rw [this]
    show _ = k.frags.map _
    rw [← HX.out, List.map_map]; rfl
   have hb5 := InB.trans HB2.out hF.out.size
   have HB5 : Hid (InB W0 wr) := Lib.hid hb5
   have CA2 := Lib.hid (CA.out wr (.agg #[.slice B3 rs.length cap3, .slice A2 m2 cap2]) ⟨_, _, rfl, hM ▸ hF.out.frs, I2.out.below hF.out.size⟩)
   clear hM hb5 hRS hF
   go_wp2_with fail
   refine (CA2.out).mono ?_
   rintro e w5 ⟨v5, c, rfl, hc, hk5, b5⟩
   obtain ⟨A5, m5, e5, B5, n5, d5, rfl⟩ := hk5.parts
   have S5 := InB.trans HB5.out b5
   have KE := kn_end (b := w.heap.size + 1 + 1) hk5 (R2.out w5 S5) (Nat.lt_of_lt_of_le HS2.out HB5.out.below.size) (HB0.out.trans (S5.below.mono HB0.out.size)) (Nat.le_succ_of_le (Nat.le_succ _))
   have T9 := Lib.hid KE.1
   have R9 := Lib.hid KE.2.1
   have K9 := Lib.hid KE.2.2.1
   have B9 := Lib.hid KE.2.2.2
   have HC := Lib.hid hc
   clear KE S5 b5 hk5 hc
   go_wp2_with (refine wpList_mstore (by rfl) (.tmp 4) (.tmp 36) (by rfl) (by rfl) (by rfl) T9.out (knSize _ _) (two_one rfl rfl) ?_)
   exact bodyPost_ret (v := .agg #[.slice A5 m5 e5, .slice B5 n5 d5]) (results_cell_row (by rfl) _ _ (w.heap.size + 1 + 1) 25 _ (0, 0) _ (by rfl) R9.out Tryz.underlying25 rfl (knSizeA _ _)) rfl ⟨_, _, rfl, HC.out, K9.out, B9.out⟩
end Go.Proofs.YtpmolinmopgbdaaGreat
namespace Go.Proofs.YtpmolinmopgbdaaGreat
open Go.RowKit Go.Sort
end Go.Proofs.YtpmolinmopgbdaaGreat
namespace Go.Proofs.YtpmolinmopgbdaaGreat
open Go.RowKit Go.Sort
theorem know_grant (V : VecOk) (I : IsetOk) (C : CoverOk) (Z : FilterOk) {w : World} {F G : Nat → Prop} {v : Value} {k : Know.K} {r : RFr} (h : Kns w F v k) (hr : r.In w G) (hk : Know.Ok (Know.union k ⟨[r.x], []⟩)) :
  Calls Tryz.prog 19 #[v, frA r] w fun e w' => ∃ v' c, e = .returned v' ∧ Know.Canon (Know.union k ⟨[r.x], []⟩) c ∧ KnNew w v' c w' ∧ Below w.heap.size w w' := by
 have hz := knZero
 obtain ⟨i1, hi1, hy0, hy1, hy2⟩ := ver_parts frInfo
 obtain ⟨a1, a2, rfl, hf, hi⟩ := h
 obtain ⟨A, ca, rfl, -⟩ := hf.parts
 obtain ⟨B, cb, rfl, -⟩ := hi.1.parts
 have hsz : (rfV r).length = 67 := rf_len hr.len
 obtain ⟨W0, hW0⟩ : ∃ W0, W0 = ((w.alloc (.cells #[.slice A k.frags.length ca, .slice B k.items.length cb] 25)).alloc (.cells (rfV r).toArray 42)).alloc (.cells #[.slice none 0 0, .slice none 0 0] 25) := ⟨_, rfl⟩
 have hb0 : Below w.heap.size w W0 := by rw [hW0]; exact (((Below.refl _ _).alloc (Nat.le_refl _) _).alloc (by simp) _).alloc (by simp; omega) _
 have r0 : Row W0 w.heap.size 25 #[.slice A k.frags.length ca, .slice B k.items.length cb] := by rw [hW0]; exact ((Row.made w _ _).behindNew _).behindNew _
 have r1 : Row W0 (w.heap.size + 1) 42 (rfV r).toArray := by
  rw [hW0]
  have := (Row.made (w.alloc (.cells #[.slice A k.frags.length ca, .slice B k.items.length cb] 25)) 42 (rfV r).toArray).behindNew (.cells #[.slice none 0 0, .slice none 0 0] 25)
  rwa [World.size_alloc] at this
 have r2 : Row W0 (w.heap.size + 1 + 1) 25 #[.slice none 0 0, .slice none 0 0] := by
  rw [hW0]
  have := Row.made ((w.alloc (.cells #[.slice A k.frags.length ca, .slice B k.items.length cb] 25)).alloc (.cells (rfV r).toArray 42)) 25 #[.slice none 0 0, .slice none 0 0]
  rwa [World.size_alloc, World.size_alloc] at this
 have R2 := Lib.hid (fun (W : World) (h : InB W0 W) => (r2.below h.below r2.inHeap : Row W (w.heap.size + 1 + 1) 25 #[.slice none 0 0, .slice none 0 0]))
 have HS2 := Lib.hid r2.inHeap
 have LR := Lib.hid (FrAt.row hr.len r1).all
 rw [hW0] at LR
 have hs0 : W0.heap.size = w.heap.size + 1 + 1 + 1 := by rw [hW0]; simp
 have hb1 : Below W0.heap.size W0 (W0.alloc (.cells (rfV r).toArray 42)) := (Below.refl _ _).alloc (Nat.le_refl _) _
 have HB1 : Hid (InB W0 (W0.alloc (.cells (rfV r).toArray 42))) := Lib.hid hb1
 have UN := Lib.hid (know_union V I C Z (a := k) (b := ⟨[r.x], []⟩) (w := W0.alloc (.cells (rfV r).toArray 42)) (F := AnyB) (G := AnyB) (v := .agg #[.slice A k.frags.length ca, .slice B k.items.length cb]) (u := .agg #[.slice (some ⟨W0.heap.size, 0, none⟩) 1 1, .slice none 0 0])
  ⟨_, _, rfl, ((hf.below hb0).below hb1).any, ((hi.below hb0).below hb1).any⟩ ⟨_, _, rfl, ⟨[r], rfl, (fr_made1 W0 42 r).mono (fun _ _ => trivial), fun x hx => by rw [List.mem_singleton.1 hx]; exact ((hr.below hb0).below hb1).any⟩, Its.empty _ _ _ _⟩ hk)
 rw [hs0] at UN
 have HB0 := Lib.hid hb0
 have q0 := r0.at 0
 have q1 := r0.at 1
 rw [hW0] at q0 q1
 simp only [List.getElem?_toArray, List.getElem?_cons_zero, List.getElem?_cons_succ] at q0 q1
 clear hf hi hr hk hb0 hb1 r0 r1 r2 hs0
 go_enter Tryz.func19, Tryz.ntmps19
 go_wp2_with (first | refine wpList_mload (by rfl) _ (by rfl) (by rfl) LR.out ?_ | refine wpList_build1 rfl 22 42 _ rfl (by rfl) Tryz.underlying22 hi1 hy0 hy1 hsz ?_)
 rw [← hW0]
 clear hW0 q0 q1 LR
 refine (UN.out).mono ?_
 rintro e w5 ⟨v5, c, rfl, hc, hk5, b5⟩
 obtain ⟨A5, m5, e5, B5, n5, d5, rfl⟩ := hk5.parts
 have S5 := InB.trans HB1.out b5
 have KE := kn_end (b := w.heap.size + 1 + 1) hk5 (R2.out w5 S5) (Nat.lt_of_lt_of_le HS2.out HB1.out.below.size) (HB0.out.trans (S5.below.mono HB0.out.size)) (Nat.le_succ_of_le (Nat.le_succ _))
 have T9 := Lib.hid KE.1
 have R9 := Lib.hid KE.2.1
 have K9 := Lib.hid KE.2.2.1
 have B9 := Lib.hid KE.2.2.2
 have HC := Lib.hid hc
 clear KE S5 b5 hk5 hc
 go_wp2_with (refine wpList_mstore (by rfl) (.tmp 4) (.tmp 9) (by rfl) (by rfl) (by rfl) T9.out (knSize _ _) (two_one rfl rfl) ?_)
 exact bodyPost_ret (v := .agg #[.slice A5 m5 e5, .slice B5 n5 d5]) (results_cell_row (by rfl) _ _ (w.heap.size + 1 + 1) 25 _ (0, 0) _ (by rfl) R9.out Tryz.underlying25 rfl (knSizeA _ _)) rfl ⟨_, _, rfl, HC.out, K9.out, B9.out⟩
end Go.Proofs.YtpmolinmopgbdaaGreat
namespace Go.Proofs.YtpmolinmopgbdaaGreat
open Go.RowKit Go.Sort
theorem know_same1 (Z : FilterOk) {w : World} {F G : Nat → Prop} {r s : RFr} (hr : r.In w F) (hs : s.In w G) (lr : r.x.no.length ≤ 100000) (ls : s.x.no.length ≤ 100000) (fr : r.x.f.length ≤ 100000) (fs : s.x.f.length ≤ 100000) :
  Calls Tryz.prog 48 #[frA r, frA s] w fun e w' => e = .returned (.bool (decide (Know.order r.x s.x = 0 ∧ r.x.f = s.x.f))) ∧ Below w.heap.size w w' := by
 obtain ⟨W, hW, f0, f1, hL⟩ := fr_two w hr.len hs.len
 have CO := Lib.hid (fun (W' : World) (h : Below w.heap.size w W') => know_order (hr.below h) (hs.below h) lr ls)
 have CE := Lib.hid (fun (W' : World) (h : Below w.heap.size w W') => Z.equal (Rws.below hr.f h) (Rws.below hs.f h) fr fs)
 have V0 := Lib.hid f0.all
 have V1 := Lib.hid f1.all
 have FA := Lib.hid (fun (W' : World) (h : Below W.heap.size W W') => And.intro (f0.below h (by rw [hW]; simp; omega)) (f1.below h (by rw [hW]; simp)))
 obtain ⟨B0, b0, e2, -⟩ := hr.f.parts
 obtain ⟨B1, b1, e3, -⟩ := hs.f.parts
 have HL := Lib.hid hL.below
 clear hr hs f0 f1 hL
 rw [e2, e3] at CE
 have N : Hid (∀ W', Below W.heap.size W W' → W'.cell? ⟨w.heap.size, 0, none⟩ = some (.slice B0 r.x.f.length b0) ∧ W'.cell? ⟨w.heap.size + 1, 0, none⟩ = some (.slice B1 s.x.f.length b1)) := Lib.hid (fun W' h => by
  have := FA.out W' h
  rw [← e2, ← e3]
  exact ⟨this.1.f, this.2.f⟩)
 have HW := Lib.hid hW
 have CO1 := Lib.hid (CO.out W HL.out)
 clear e2 e3 FA CO lr ls fr fs
 have EI : Hid (decide (Know.order r.x s.x = 0 ∧ r.x.f = s.x.f) = (decide (Know.order r.x s.x = 0) && decide (r.x.f = s.x.f))) := Lib.hid (by rw [Bool.eq_iff_iff]; simp)
 generalize Know.order r.x s.x = o at *
 generalize ht : decide (r.x.f = s.x.f) = t at *
 have HT := Lib.hid ht
 clear ht
 rw [hW] at V0 V1
 go_enter Tryz.func48, Tryz.ntmps48
 by_cases ho : o = 0
 ·subst ho
  go_wp2_with (first | refine wpList_mload (by rfl) _ (by rfl) (by rfl) V0.out ?_ | refine wpList_mload (by rfl) _ (by rfl) (by rfl) V1.out ?_)
  rw [← hW]
  clear hW V0 V1
  refine (CO1.out).mono ?_
  rintro e w1 ⟨rfl, h1⟩
  have hb1 : Below W.heap.size W w1 := h1.below
  obtain ⟨c2, c3⟩ := N.out _ hb1
  have H1 := Lib.hid (HL.out.trans (hb1.mono HL.out.size))
  clear h1 hb1
  go_wp2_with fail
  refine (CE.out _ H1.out).mono ?_
  rintro e w2 ⟨rfl, h2⟩
  have H2 := Lib.hid (H1.out.trans (h2.mono H1.out.size))
  clear h2 c2 c3
  go_wp2_with fail
  go_ret
  exact ⟨by (rw [HT.out]) <;> rfl, H2.out⟩
 ·have EO := Lib.hid (decide_eq_false ho)
  go_wp2_with (first | refine wpList_mload (by rfl) _ (by rfl) (by rfl) V0.out ?_ | refine wpList_mload (by rfl) _ (by rfl) (by rfl) V1.out ?_)
  rw [← hW]
  clear hW V0 V1
  refine (CO1.out).mono ?_
  rintro e w1 ⟨rfl, h1⟩
  have H1 := Lib.hid (HL.out.trans (h1.below.mono HL.out.size))
  clear h1
  go_wp2_with fail
  go_ret
  exact ⟨by first | rfl | ((rw [EI.out, EO.out]) <;> rfl), H1.out⟩
end Go.Proofs.YtpmolinmopgbdaaGreat
namespace Go.Proofs.YtpmolinmopgbdaaGreat
open Go.RowKit Go.Sort
def FrEq (r s : RFr) : Prop := Know.order r.x s.x = 0 ∧ r.x.f = s.x.f
def FrsEq (a b : List RFr) : Prop := a.length = b.length ∧ ∀ (i : Nat) (r s : RFr), a[i]? = some r → b[i]? = some s → FrEq r s
def Says (e : Ending) (p : Prop) : Prop := ∃ t : Bool, e = .returned (.bool t) ∧ (t = true ↔ p)
theorem Says.yes {p : Prop} (h : p) : Says (.returned (.bool true)) p := ⟨true, rfl, fun _ => h, fun _ => rfl⟩
theorem Says.no {p : Prop} (h : ¬ p) : Says (.returned (.bool false)) p := ⟨false, rfl, fun h => (by cases h), fun q => absurd q h⟩
theorem fr_equals (Z : FilterOk) {w : World} {F G : Nat → Prop} {u v : Value} {a b : List RFr} (ha : Rws 67 rfV w F u a) (hb : Rws 67 rfV w G v b) (hai : ∀ r ∈ a, r.In w AnyB) (hbi : ∀ r ∈ b, r.In w AnyB) (la : a.length ≤ 99999) (na : ∀ r ∈ a, r.x.no.length ≤ 100000) (nb : ∀ r ∈ b, r.x.no.length ≤ 100000) (fa : ∀ r ∈ a, r.x.f.length ≤ 100000) (fb : ∀ r ∈ b, r.x.f.length ≤ 100000) :
  Calls Tryz.prog 47 #[u, v, .func (.func 48) #[] #[]] w fun e w' => Says e (FrsEq a b) ∧ Below w.heap.size w w' := by
 have hz := frZero
 obtain ⟨A, ca, rfl, -⟩ := ha.parts
 obtain ⟨B, cb, rfl, -⟩ := hb.parts
 have HA := Lib.hid ha
 have HB := Lib.hid hb
 have HAI := Lib.hid hai
 have HBI := Lib.hid hbi
 have HN := Lib.hid (And.intro na nb)
 have HF := Lib.hid (And.intro fa fb)
 clear ha hb hai hbi na nb fa fb
 go_enter Tryz.func47, Tryz.ntmps47
 by_cases hlen : a.length = b.length
 ·rw [← hlen]
  have HL := Lib.hid hlen
  have hl0 : (a.length : Int) ≤ 99999 := by omega
  clear hlen la
  go_wp2_with fail
  go_loopw [17] (fun i wr => ∃ n : Nat, n ≤ a.length ∧ i = .int .i64 (n : Int) ∧ Hid (Below w.heap.size w wr) ∧ Hid (∀ (j : Nat) (r s : RFr), j < n → a[j]? = some r → b[j]? = some s → FrEq r s)) (fun i _ => a.length - (intOf i).toNat)
  case atStart => exact ⟨0, Nat.zero_le _, rfl, Lib.hid (Below.refl _ _), Lib.hid (fun j r s h => by omega)⟩
  case round =>
   obtain ⟨n, hn, rfl, hB, hE⟩ := hrel
   by_cases hlt : n < a.length
   ·obtain ⟨b1, o1, cap1, e, -, -, hb1⟩ := HA.out.block (by omega)
    injection e with e1 e2 e3
    subst e1 e3
    clear e2
    obtain ⟨b2, o2, cap2, e, -, -, hb2⟩ := HB.out.block (by have := HL.out; omega)
    injection e with e1 e2 e3
    subst e1 e3
    clear e2
    obtain ⟨r, hr⟩ : ∃ r, a[n]? = some r := ⟨_, List.getElem?_eq_getElem hlt⟩
    obtain ⟨s, hs⟩ : ∃ s, b[n]? = some s := ⟨_, List.getElem?_eq_getElem (by have := HL.out; omega)⟩
    have hIr := HAI.out r (List.mem_of_getElem? hr)
    have hIs := HBI.out s (List.mem_of_getElem? hs)
    have LE := Lib.hid ((FrAt.elem HA.out hr hIr.len).below hB.out hb1)
    have hbA : Below wr.heap.size wr (wr.alloc (.cells (rfV r).toArray 42)) := (Below.refl _ _).alloc (Nat.le_refl _) _
    have LE2 := Lib.hid (((FrAt.elem HB.out hs hIs.len).below hB.out hb2).below hbA (Nat.lt_of_lt_of_le hb2 hB.out.size))
    have oner := Lib.hid hIr.one
    have ones := Lib.hid hIs.one
    have HS : Hid ((Tryz.prog.info? 42).map (·.size) = some (rfV r).length ∧ (rfV frZ).toArray.size = (rfV r).length) := Lib.hid ⟨frSize hIr.len, by rw [rf_len hIr.len]; exact frZ_size⟩
    have HS2 : Hid ((Tryz.prog.info? 42).map (·.size) = some (rfV s).length ∧ (rfV frZ).toArray.size = (rfV s).length) := Lib.hid ⟨frSize hIs.len, by rw [rf_len hIs.len]; exact frZ_size⟩
    obtain ⟨W2, hW2, f0, f1, hL2⟩ := fr_two wr hIr.len hIs.len
    have V0 := Lib.hid f0.all
    have V1 := Lib.hid f1.all
    have hb3 := hB.out.trans (hL2.below.mono hB.out.size)
    have SM := Lib.hid (know_same1 Z (hIr.below hb3) (hIs.below hb3) (HN.out.1 r (List.mem_of_getElem? hr)) (HN.out.2 s (List.mem_of_getElem? hs)) (HF.out.1 r (List.mem_of_getElem? hr)) (HF.out.2 s (List.mem_of_getElem? hs)))
    have HB3 := Lib.hid hb3
    have HW2 := Lib.hid hW2
    rw [hW2] at V0 V1
    have HR := Lib.hid hr
    have HSs := Lib.hid hs
    have hn0 : (0 : Int) ≤ (n : Int) := by omega
    have hn1 : (n : Int) < (a.length : Int) := by omega
    have hn2 : (n : Int) ≤ 99999 := by omega
    clear hr hs hIr hIs hbA f0 f1 hL2 hb3
    by_cases hq : FrEq r s
    ·rw [show decide (Know.order r.x s.x = 0 ∧ r.x.f = s.x.f) = true from decide_eq_true hq] at SM
     have HE1 : Hid (∀ (j : Nat) (r s : RFr), j < n + 1 → a[j]? = some r → b[j]? = some s → FrEq r s) := Lib.hid (fun j r' s' hj h1 h2 => by
      rcases Nat.lt_or_ge j n with h | h
      ·exact hE.out j r' s' h h1 h2
      ·obtain rfl : j = n := by omega
       rw [HR.out] at h1; rw [HSs.out] at h2
       injection h1 with h1; injection h2 with h2
       rw [← h1, ← h2]; exact hq)
     clear hq
     go_wp2_with (first | refine wpList_mload (by rfl) _ (by rfl) (by rfl) LE.out.all ?_ | refine wpList_mload (by rfl) _ (by rfl) (by rfl) LE2.out.all ?_ | refine wpList_mload (by rfl) _ (by rfl) (by rfl) V0.out ?_ | refine wpList_mload (by rfl) _ (by rfl) (by rfl) V1.out ?_ | refine wpList_nstore (by rfl) _ _ (by rfl) (by rfl) (by rfl) HS.out.1 HS.out.2 oner.out ?_ | refine wpList_nstoreAt (g := wr.heap.size + 1) (by simp) (by rfl) _ _ (by rfl) (by rfl) (by rfl) HS2.out.1 HS2.out.2 ones.out ?_)
     rw [← hW2]
     clear hW2 V0 V1
     refine (SM.out).mono ?_
     rintro e w3 ⟨rfl, h3⟩
     have H3 := Lib.hid (HB3.out.trans (h3.mono HB3.out.size))
     clear h3
     go_wp2_with fail
     exact ⟨⟨n + 1, by omega, by go_num, H3, HE1⟩, by show a.length - ((n : Int) + 1).toNat < a.length - (n : Int).toNat; omega⟩
    ·rw [show decide (Know.order r.x s.x = 0 ∧ r.x.f = s.x.f) = false from decide_eq_false hq] at SM
     have HQ : Hid (¬ FrsEq a b) := Lib.hid (fun h => hq (h.2 n r s HR.out HSs.out))
     clear hq
     go_wp2_with (first | refine wpList_mload (by rfl) _ (by rfl) (by rfl) LE.out.all ?_ | refine wpList_mload (by rfl) _ (by rfl) (by rfl) LE2.out.all ?_ | refine wpList_mload (by rfl) _ (by rfl) (by rfl) V0.out ?_ | refine wpList_mload (by rfl) _ (by rfl) (by rfl) V1.out ?_ | refine wpList_nstore (by rfl) _ _ (by rfl) (by rfl) (by rfl) HS.out.1 HS.out.2 oner.out ?_ | refine wpList_nstoreAt (g := wr.heap.size + 1) (by simp) (by rfl) _ _ (by rfl) (by rfl) (by rfl) HS2.out.1 HS2.out.2 ones.out ?_)
     rw [← hW2]
     clear hW2 V0 V1
     refine (SM.out).mono ?_
     rintro e w3 ⟨rfl, h3⟩
     have H3 := Lib.hid (HB3.out.trans (h3.mono HB3.out.size))
     clear h3
     go_wp2_with fail
     go_ret
     exact ⟨Says.no HQ.out, H3.out⟩
   ·obtain rfl : n = a.length := by omega
    have HQ : Hid (FrsEq a b) := Lib.hid ⟨HL.out, fun i r s h1 h2 => hE.out i r s (List.getElem?_eq_some_iff.1 h1).1 h1 h2⟩
    clear hE
    go_wp2_with fail
    go_ret
    exact ⟨Says.yes HQ.out, hB.out⟩
 ·have hne : ¬ (a.length : Int) = (b.length : Int) := by omega
  have HQ : Hid (¬ FrsEq a b) := Lib.hid (fun h => hlen h.1)
  clear hlen la
  go_wp2_with fail
  go_ret
  exact ⟨Says.no HQ.out, Below.refl _ _⟩
end Go.Proofs.YtpmolinmopgbdaaGreat
namespace Go.Proofs.YtpmolinmopgbdaaGreat
open Go.RowKit Go.Sort
abbrev It65 : Type := {i : Know.It // i.v.length = 65}
instance : Inhabited It65 := ⟨⟨⟨⟨0, 0⟩, Vec.zeros⟩, Vec.zeros_len⟩⟩
theorem ver_equalIn (w : World) (x1 x2 y1 y2 : Int) : (Op.equalIn 9999 27 (.agg #[.int .i64 x1, .int .i64 x2]) (.agg #[.int .i64 y1, .int .i64 y2])).run Tryz.prog w = .ok (decide (x1 = y1 ∧ x2 = y2)) w := by
 have hS : Tryz.prog.underlying 27 = some (.struct (Tryz.prog.fieldsOf 27)) := by kernel_rfl
 have hp : Tryz.prog.stoodInHeld 27 = false := by kernel_rfl
 have u3 := Tryz.underlying3
 have a3 := Tryz.isAgg3
 have z3 := Tryz.sizeOf3
 rw [show (9999 : Nat) = 9998 + 1 from rfl, run_equalIn_agg w 9998 27 _ _ hS hp]
 simp only [Program.fieldsOf, Tryz.underlying27]
 have hT : ∀ (w : World) (a b : Int), (Op.equalIn 9998 3 (.int .i64 a) (.int .i64 b)).run Tryz.prog w = .ok (a == b) w := fun w a b => run_equalIn_int w 9997 3 _ _ a b u3
 simp only [Op.eqFields]
 generalize Op.equalIn 9998 = EQ at hT ⊢
 go_simp
 by_cases h0 : x1 = y1 <;> by_cases h1 : x2 = y2 <;> simp [h0, h1]
theorem it_part0 (x : It65) (w : World) : (part 27 (itV x.1).toArray 0).run Tryz.prog w = .ok (.agg #[.int .i64 x.1.item.by_, .int .i64 x.1.item.n]) w := by
 have z27 := Tryz.sizeOf27
 have a27 := Tryz.isAgg27
 have e : List.take 2 (itV x.1) = [.int .i64 x.1.item.by_, .int .i64 x.1.item.n] := rfl
 simp [part, a27, z27, e]
theorem it_part2 (x : It65) (w : World) : (part 39 (itV x.1).toArray 2).run Tryz.prog w = .ok (.agg (vecL x.1.v).toArray) w := by
 have z39 := Tryz.sizeOf39
 have a39 := Tryz.isAgg39
 have e : List.take 65 (List.drop 2 (itV x.1)) = vecL x.1.v := by
  show (vecL x.1.v).take 65 = _
  exact List.take_of_length_le (by rw [vecL_len, x.2]; exact Nat.le_refl _)
 simp [part, a39, z39, e]
theorem kn_neq : NeqAt Tryz.prog 50 (fun x : It65 => .agg (itV x.1).toArray) (fun x y => decide (x = y)) := by
 refine ⟨fun x y w => ?_, GuardAt.agg _ (by kernel_rfl)⟩
 have hS : Tryz.prog.underlying 50 = some (.struct (Tryz.prog.fieldsOf 50)) := by kernel_rfl
 have hp : Tryz.prog.stoodInHeld 50 = false := by kernel_rfl
 have u3 := Tryz.underlying3
 have hV : ∀ w, (Op.equalIn 9999 39 (.agg (vecL x.1.v).toArray) (.agg (vecL y.1.v).toArray)).run Tryz.prog w = .ok (decide (x.1.v = y.1.v)) w := fun w => vec_equalIn 9998 w x.2 y.2 (fun w a b => run_equalIn_int w 9997 3 _ _ a b u3)
 have hW := fun w => ver_equalIn w x.1.item.by_ x.1.item.n y.1.item.by_ y.1.item.n
 have px0 := it_part0 x
 have py0 := it_part0 y
 have px2 := it_part2 x
 have py2 := it_part2 y
 rw [run_neq_struct, show (10000 : Nat) = 9999 + 1 from rfl, run_equalIn_agg w 9999 50 _ _ hS hp]
 simp only [Program.fieldsOf, Tryz.underlying50]
 simp only [Op.eqFields]
 generalize Op.equalIn 9999 = EQ at hV hW ⊢
 have hxy : decide (x = y) = (decide (x.1.item.by_ = y.1.item.by_ ∧ x.1.item.n = y.1.item.n) && decide (x.1.v = y.1.v)) := by
  obtain ⟨⟨⟨x1, x2⟩, xv⟩, hx⟩ := x
  obtain ⟨⟨⟨y1, y2⟩, yv⟩, hy⟩ := y
  rw [Bool.eq_iff_iff]
  simp [and_assoc]
 rw [hxy]
 generalize decide (x.1.item.by_ = y.1.item.by_ ∧ x.1.item.n = y.1.item.n) = p at *
 generalize decide (x.1.v = y.1.v) = q at *
 generalize (itV x.1).toArray = X at *
 generalize (itV y.1).toArray = Y at *
 cases p <;> cases q <;> simp [px0, py0, px2, py2, hV, hW]
theorem ieq_all : ∀ (a b : List It65), Lib.allEq (fun x y : It65 => decide (x = y)) a b = decide (a = b)
 | [], [] => rfl
 | [], y :: b => by rw [Lib.allEq_len _ _ _ (by simp)]; simp
 | x :: a, [] => by rw [Lib.allEq_len _ _ _ (by simp)]; simp
 | x :: a, y :: b => by
  show (decide (x = y) && Lib.allEq (fun x y : It65 => decide (x = y)) a b) = _
  rw [ieq_all a b]
  simp
theorem ieq_len {A B : Option Addr} {n m c d : Nat} (h : n ≠ m) (w : World) : Calls Tryz.prog 46 #[.slice A n c, .slice B m d] w fun e w' => e = .returned (.bool false) ∧ w' = w := by
 have hn : ¬ (n : Int) = (m : Int) := by omega
 go_enter Tryz.func46, Tryz.ntmps46
 go_wp2_with fail
 go_ret
 exact ⟨rfl, rfl⟩
theorem ieq_none {A B : Option Addr} {c d : Nat} (w : World) : Calls Tryz.prog 46 #[.slice A 0 c, .slice B 0 d] w fun e w' => e = .returned (.bool true) ∧ w' = w := by
 go_enter Tryz.func46, Tryz.ntmps46
 go_wp2_with fail
 refine wp_loop_rounds 1 ?_
 rw [rounds_succ]
 go_wp2_with fail
 go_ret
 exact ⟨rfl, rfl⟩
theorem attach65 (l : List Know.It) (h : ∀ i ∈ l, i.v.length = 65) : ∃ l' : List It65, l'.map (·.1) = l := ⟨l.attachWith _ h, map_sub l h⟩
theorem map65 (l : List It65) (j : Nat) (hj : j < l.length) : (l.map (·.1))[j]? = some (l[j]!).1 := by
 rw [List.getElem?_map, List.getElem?_eq_getElem hj, getElem!_pos l j hj]; rfl
theorem it_equal {w : World} {F G : Nat → Prop} {u v : Value} {a b : List Know.It} (ha : Its w F u a) (hb : Its w G v b) (la : a.length ≤ 100000) (lb : b.length ≤ 100000) :
  Calls Tryz.prog 46 #[u, v] w fun e w' => e = .returned (.bool (decide (a = b))) ∧ Below w.heap.size w w' := by
 obtain ⟨⟨A, c, rfl, hc, hat⟩, ha65⟩ := ha
 obtain ⟨⟨B, d, rfl, hd, hbt⟩, hb65⟩ := hb
 by_cases hl : a.length = b.length
 ·by_cases h0 : 0 < a.length
  ·obtain ⟨b1, o1, rfl, -, -, hcl1⟩ := hat h0
   obtain ⟨b2, o2, rfl, -, -, hcl2⟩ := hbt (by omega)
   obtain ⟨a', rfl⟩ := attach65 a ha65
   obtain ⟨b', rfl⟩ := attach65 b hb65
   rw [List.length_map, List.length_map] at hl ⊢
   rw [List.length_map] at h0 la lb hc hd
   have hcon := AnyQ.slices_Equal Tryz.eqKn 67 Tryz.isAgg50 Tryz.sizeOf50 (fun x : It65 => itV x.1) (fun x => it_len x.2) _ kn_neq b1 o1 a'.length c b2 o2 b'.length d a' b' w (Nat.le_refl _) (Nat.le_refl _) (by omega) (by omega)
    (fun j hj i u hi => hcl1 j _ (map65 a' j hj) i u hi) (fun j hj i u hi => hcl2 j _ (map65 b' j hj) i u hi)
   rw [List.take_length, List.take_length, ieq_all] at hcon
   refine hcon.mono ?_
   rintro e w' ⟨rfl, q, rfl⟩
   refine ⟨?_, below_drews' _ q⟩
   congr 2
   rw [Bool.eq_iff_iff, decide_eq_true_iff, decide_eq_true_iff]
   exact ⟨fun h => by rw [h], fun h => List.map_inj_right (fun x y e => Subtype.ext e) |>.1 h⟩
  ·have ea : a = [] := List.eq_nil_of_length_eq_zero (by omega)
   have eb : b = [] := List.eq_nil_of_length_eq_zero (by omega)
   subst ea eb
   refine (ieq_none w).mono ?_
   rintro e w' ⟨rfl, rfl⟩
   exact ⟨rfl, Below.refl _ _⟩
 ·have hne : decide (a = b) = false := decide_eq_false (fun e => hl (by rw [e]))
  rw [hne]
  refine (ieq_len hl w).mono ?_
  rintro e w' ⟨rfl, rfl⟩
  exact ⟨rfl, Below.refl _ _⟩
end Go.Proofs.YtpmolinmopgbdaaGreat
