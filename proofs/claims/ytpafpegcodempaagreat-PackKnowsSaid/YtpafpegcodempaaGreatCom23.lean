import Derived.Test.YtpafpegcodempaaGreatCom12
import Derived.Test.YtpafpegcodempaaGreatCom21
import Derived.Test.YtpafpegcodempaaGreatCom22
import Derived.Test.YtpafpegcodempaaGreatCom13
set_option maxRecDepth 100000
set_option linter.all false
set_option maxHeartbeats 12800000
namespace Go.Proofs.YtpafpegcodempaaGreat
open Go.RowKit Go.Sort
namespace Pck
def fragR (x : Know.Fr) : List UInt8 := txt (lst clR x.f) ++ (txt (lst verR (Vec.ends x.v)) ++ txt (lst verR x.no))
def knownR (i : Know.It) : List UInt8 := verR i.item ++ txt (lst verR (Vec.ends i.v))
def knowR (k : Know.K) : List UInt8 := txt (lst fragR k.frags) ++ txt (lst knownR k.items)
def SmFr (x : Know.Fr) : Prop := BdFr x ∧ ∀ c ∈ x.f, SmC c
theorem fragR_len (x : Know.Fr) (h : SmFr x) : (fragR x).length ≤ 110000000 := by
 have a : (lst clR x.f).length ≤ 9 + x.f.length * (1027 + 9) := lst_le _ (fun c hc => clR_len c (h.2 c hc))
 have b : (lst verR (Vec.ends x.v)).length ≤ 9 + (Vec.ends x.v).length * (18 + 9) := lst_le _ (fun v _ => verR_len v)
 have c : (lst verR x.no).length ≤ 9 + x.no.length * (18 + 9) := lst_le _ (fun v _ => verR_len v)
 have a1 := txt_len (lst clR x.f)
 have b1 := txt_len (lst verR (Vec.ends x.v))
 have c1 := txt_len (lst verR x.no)
 have d := h.1.fl
 have d2 := h.1.nl
 have e := ends_le x.v
 unfold fragR
 simp only [List.length_append]
 omega
theorem knownR_len (i : Know.It) : (knownR i).length ≤ 2000 := by
 have b : (lst verR (Vec.ends i.v)).length ≤ 9 + (Vec.ends i.v).length * (18 + 9) := lst_le _ (fun v _ => verR_len v)
 have b1 := txt_len (lst verR (Vec.ends i.v))
 have a := verR_len i.item
 have e := ends_le i.v
 unfold knownR
 simp only [List.length_append]
 omega
theorem fragR_is {x : Know.Fr} (h : OkFrag x) (hb : BdFr x) : fragR x = frag x := by
 unfold fragR frag
 rw [show lst clR x.f = flt x.f from flat_same (fun c hc => clR_is (h.1.2 c hc)), show lst verR (Vec.ends x.v) = vec x.v from versR_is (ends_nn (fun n hn => (hb.vb n hn).2)), show lst verR x.no = vers x.no from versR_is (fun v hv => right_nnV (h.2.2.1 v hv) (hb.nb v hv))]
theorem knownR_is {i : Know.It} (h : OkKnown i) (hb : BdIt i) : knownR i = known i := by
 unfold knownR known
 rw [verR_is (right_nnV h.1 hb.ib), show lst verR (Vec.ends i.v) = vec i.v from versR_is (ends_nn (fun n hn => (hb.vb n hn).2))]
theorem knowR_is {k : Know.K} (h : OkKnow k) (hb : BdK k) : knowR k = know k := by
 unfold knowR know
 rw [show lst fragR k.frags = lst frag k.frags from flat_same (fun x hx => fragR_is (h.2.1 x hx) (hb.fb x hx)), show lst knownR k.items = lst known k.items from flat_same (fun i hi => knownR_is (h.2.2.2 i hi) (hb.ib i hi))]
theorem acc_map {α β : Type} (f : β → List UInt8) (g : α → β) (l : List α) (n : Nat) : acc (fun x => f (g x)) l n = acc f (l.map g) n := by
 unfold acc
 rw [List.length_map, ← List.map_take, List.flatMap_map]
end Pck
theorem ref_pknow {w : World} {F : Nat → Prop} {v : Value} {k : Know.K} (h : Kns w F v k) (hb : Pck.BdK k) (hs : ∀ x ∈ k.frags, Pck.SmFr x) :
  Calls Tryz.prog 28 #[v] w fun e w' => e = .returned (.string (mk (Pck.knowR k))) ∧ Below w.heap.size w w' := by
 have hz := frZero
 have mixed : Tryz.prog.follows .mixedOrders = true := by kernel_rfl
 obtain ⟨a, b, rfl, ⟨rs, hrx, hf, hfi⟩, hi, hil⟩ := h
 obtain ⟨A, ca, rfl, -⟩ := hf.parts
 obtain ⟨B, cb, rfl, -⟩ := hi.parts
 have hll : rs.length = k.frags.length := by have h1 := congrArg List.length hrx; rwa [List.length_map] at h1
 have hl1 : (rs.length : Int) ≤ 100000 := by have := hb.fl; omega
 have hl2 : (k.items.length : Int) ≤ 100000 := by have := hb.il; omega
 have SM := Lib.hid (fun (r : RFr) (hr : r ∈ rs) => hs r.x (by rw [← hrx]; exact List.mem_map_of_mem hr))
 have BI := Lib.hid hb.ib
 have I65 := Lib.hid hil
 have HF := Lib.hid (fun (W : World) (h : Below w.heap.size w W) => (⟨Rws.below hf h, fun r hr => (hfi r hr).below h⟩ : Rws 67 rfV W F (.slice A rs.length ca) rs ∧ ∀ r ∈ rs, r.In W F))
 have HI := Lib.hid (fun (W : World) (h : Below w.heap.size w W) => (Rws.below hi h : Rws 67 itV W F (.slice B k.items.length cb) k.items))
 have LN1 := Lib.hid (fun n : Nat => Pck.acc_len (f := fun r : RFr => Pck.fragR r.x) (l := rs) (m := 110000000) (k := 100000) (fun r hr => Pck.fragR_len r.x (SM.out r hr)) (by omega) n)
 have LN2 := Lib.hid (fun n : Nat => Pck.acc_len (f := Pck.knownR) (l := k.items) (m := 2000) (k := 100000) (fun i _ => Pck.knownR_len i) (by omega) n)
 have NU1 : Hid (∀ W : World, Calls Tryz.prog 68 #[.int .i64 (rs.length : Int)] W fun e w' => e = .returned (.string (mk (Pck.acc (fun r : RFr => Pck.fragR r.x) rs 0))) ∧ Below W.heap.size W w') := Lib.hid (fun W => by have := ref_num (rs.length : Int) ⟨by omega, by omega⟩ W; rwa [Pck.acc_zero (fun r : RFr => Pck.fragR r.x) rs] at this)
 have NU2 : Hid (∀ W : World, Calls Tryz.prog 68 #[.int .i64 (k.items.length : Int)] W fun e w' => e = .returned (.string (mk (Pck.acc Pck.knownR k.items 0))) ∧ Below W.heap.size W w') := Lib.hid (fun W => by have := ref_num (k.items.length : Int) ⟨by omega, by omega⟩ W; rwa [Pck.acc_zero Pck.knownR k.items] at this)
 have E1 : Hid (Pck.knowR k = Pck.txt (Pck.acc (fun r : RFr => Pck.fragR r.x) rs rs.length) ++ Pck.txt (Pck.acc Pck.knownR k.items k.items.length)) := Lib.hid (by
  rw [Pck.acc_map Pck.fragR (·.x) rs, hrx, hll, Pck.acc_all, Pck.acc_all]; rfl)
 rw [hll.symm] at *
 have hB0 : Below w.heap.size w (w.alloc (.cells #[.slice A rs.length ca, .slice B k.items.length cb] 28)) := (Below.refl _ _).alloc (Nat.le_refl _) _
 have RB := Row.made w 28 #[.slice A rs.length ca, .slice B k.items.length cb]
 have KB := Lib.hid (fun (W : World) (h : Below (w.alloc (.cells #[.slice A rs.length ca, .slice B k.items.length cb] 28)).heap.size (w.alloc (.cells #[.slice A rs.length ca, .slice B k.items.length cb] 28)) W) => (⟨(RB.below h RB.inHeap).at 0, (RB.below h RB.inHeap).at 1⟩ : W.cell? ⟨w.heap.size, 0, none⟩ = some (.slice A rs.length ca) ∧ W.cell? ⟨w.heap.size, 1, none⟩ = some (.slice B k.items.length cb)))
 have HB0 := Lib.hid hB0
 clear hf hfi hi hil hb hs hrx hll RB hB0
 obtain ⟨g0, g1⟩ := KB.out _ (Below.refl _ _)
 go_enter Tryz.func28, Tryz.ntmps28
 go_wp2_with fail
 refine (NU1.out _).mono ?_
 rintro e w1 ⟨rfl, b1⟩
 generalize w.alloc (.cells #[.slice A rs.length ca, .slice B k.items.length cb] 28) = W0 at *
 have B1 := Lib.hid b1
 clear b1 g0 g1
 go_wp2_with fail
 go_loopw [3, 4] (fun s i wr => ∃ n : Nat, n ≤ rs.length ∧ i = .int .i64 (n : Int) ∧ s = .string (mk (Pck.acc (fun r : RFr => Pck.fragR r.x) rs n)) ∧ Below W0.heap.size W0 wr) (fun _ i _ => rs.length - (intOf i).toNat)
 case atStart => exact ⟨0, Nat.zero_le _, rfl, rfl, B1.out⟩
 case round =>
  obtain ⟨n, hn, rfl, rfl, hbel⟩ := hrel
  obtain ⟨g0, g1⟩ := KB.out _ hbel
  by_cases hlt : n < rs.length
  ·have HWr := Lib.hid (HB0.out.trans (hbel.mono HB0.out.size))
   obtain ⟨be, oe, cap1, e, -, -, hb⟩ := (HF.out _ HWr.out).1.block (by omega)
   injection e with e1 e2 e3
   subst e1 e3
   clear e2 hb
   obtain ⟨x, hx⟩ : ∃ x, rs[n]? = some x := ⟨_, List.getElem?_eq_getElem hlt⟩
   have hxm := List.mem_of_getElem? hx
   have hxb := SM.out x hxm
   have hxi := (HF.out _ HWr.out).2 x hxm
   have LE := Lib.hid (FrAt.elem (HF.out _ HWr.out).1 hx hxi.len).all
   have hnn0 : (0 : Int) ≤ (n : Int) := by omega
   have hnn1 : (n : Int) < (rs.length : Int) := by omega
   have HSZ : Hid ((Tryz.prog.info? 91).map (·.size) = some (rfV x).length ∧ (rfV frZ).toArray.size = (rfV x).length) := Lib.hid ⟨frSize hxi.len, by rw [rf_len hxi.len]; exact frZ_size⟩
   have ONE := Lib.hid hxi.one
   have hb5 : Below wr.heap.size wr (wr.alloc (.cells (rfV x).toArray 91)) := (Below.refl _ _).alloc (Nat.le_refl _) _
   have fa := FrAt.made wr hxi.len 91
   have XC := Lib.hid (fun (W : World) (h : InB (wr.alloc (.cells (rfV x).toArray 91)) W) => (by have q := fa.below h.below (by simp); exact ⟨q.f, q.no0, q.v0⟩ : W.cell? ⟨wr.heap.size, 0, none⟩ = some x.fv ∧ W.cell? ⟨wr.heap.size, 66, none⟩ = some x.nv ∧ Lies 32 W wr.heap.size 1 (vecL x.x.v)))
   have HB5 := Lib.hid (HWr.out.trans (hb5.mono HWr.out.size))
   have HBL := Lib.hid (hbel.trans (hb5.mono hbel.size))
   have hlen1 : (Pck.acc (fun r : RFr => Pck.fragR r.x) rs n).length ≤ 9 + 100000 * (110000000 + 9) := LN1.out n
   have hnext : Hid (mk (Pck.acc (fun r : RFr => Pck.fragR r.x) rs n) ++ mk (Pck.txt (Pck.fragR x.x)) = mk (Pck.acc (fun r : RFr => Pck.fragR r.x) rs (n + 1))) := Lib.hid (by rw [mk_append, ← Pck.acc_next hx])
   have hxl := Pck.fragR_len x.x hxb
   have htl := Pck.txt_len (Pck.fragR x.x)
   have k1 : (Pck.lst Pck.clR x.x.f).length ≤ 9 + x.x.f.length * (1027 + 9) := Pck.lst_le _ (fun c hc => Pck.clR_len c (hxb.2 c hc))
   have k2 : (Pck.lst Pck.verR (Vec.ends x.x.v)).length ≤ 9 + (Vec.ends x.x.v).length * (18 + 9) := Pck.lst_le _ (fun v _ => Pck.verR_len v)
   have k3 : (Pck.lst Pck.verR x.x.no).length ≤ 9 + x.x.no.length * (18 + 9) := Pck.lst_le _ (fun v _ => Pck.verR_len v)
   have m1 := hxb.1.fl
   have m2 := Pck.ends_le x.x.v
   have m3 := hxb.1.nl
   have u1 := Pck.txt_len (Pck.lst Pck.clR x.x.f)
   have u2 := Pck.txt_len (Pck.lst Pck.verR (Vec.ends x.x.v))
   have u3 := Pck.txt_len (Pck.lst Pck.verR x.x.no)
   have FL := Lib.hid (fun (W : World) (h : Below w.heap.size w W) => ref_pflt ((HF.out _ h).2 x hxm).f hxb.1.fl hxb.2)
   have EN := Lib.hid (fun W => ref_vends W hxi.len)
   have VE := Lib.hid (fun (W : World) (G : Nat → Prop) (s : Value) (h : Vrs W G s (Vec.ends x.x.v)) => ref_pvers h (by omega) (fun y hy => Pck.nnV_bd (Pck.ends_nn (fun n hn => (hxb.1.vb n hn).2) y hy)))
   have VN := Lib.hid (fun (W : World) (h : Below w.heap.size w W) => ref_pvers ((HF.out _ h).2 x hxm).no (by omega) hxb.1.nb)
   have T1 := Lib.hid (fun W => ref_txt (Pck.lst Pck.clR x.x.f) (by omega) W)
   have T2 := Lib.hid (fun W => ref_txt (Pck.lst Pck.verR (Vec.ends x.x.v)) (by omega) W)
   have T3 := Lib.hid (fun W => ref_txt (Pck.lst Pck.verR x.x.no) (by omega) W)
   have T4 := Lib.hid (fun W => ref_txt (Pck.fragR x.x) (by omega) W)
   have hcat : mk (Pck.fragR x.x) = mk (Pck.txt (Pck.lst Pck.clR x.x.f)) ++ mk (Pck.txt (Pck.lst Pck.verR (Vec.ends x.x.v))) ++ mk (Pck.txt (Pck.lst Pck.verR x.x.no)) := by rw [mk_append, mk_append, List.append_assoc]; rfl
   rw [hcat] at T4
   rw [← mk_len] at hlen1 htl u1 u2 u3
   have hP := hxi.f.parts
   have hQ := hxi.no.parts
   have Hlt := Lib.hid hlt
   clear hcat hlt hn hx hxm hxi fa hb5 hbel hxb
   generalize mk (Pck.acc (fun r : RFr => Pck.fragR r.x) rs n) = acc at *
   generalize hz4 : mk (Pck.txt (Pck.fragR x.x)) = q4 at *
   generalize mk (Pck.txt (Pck.lst Pck.clR x.x.f)) = q1 at *
   generalize mk (Pck.txt (Pck.lst Pck.verR (Vec.ends x.x.v))) = q2 at *
   generalize mk (Pck.txt (Pck.lst Pck.verR x.x.no)) = q3 at *
   have n1 : ¬ 9223372036854775807 < q1.size + q2.size := by omega
   have n2 : ¬ 9223372036854775807 < q1.size + q2.size + q3.size := by omega
   have n3 : ¬ 9223372036854775807 < acc.size + q4.size := by omega
   clear hz4 hlen1 hxl htl k1 k2 k3 m1 m2 m3 u1 u2 u3
   generalize mk (Pck.lst Pck.clR x.x.f) = p1 at *
   generalize mk (Pck.lst Pck.verR (Vec.ends x.x.v)) = p2 at *
   generalize mk (Pck.lst Pck.verR x.x.no) = p3 at *
   obtain ⟨fv, nv, ⟨xf, xv, xno⟩⟩ := x
   dsimp only at XC FL EN VE VN hP hQ
   obtain ⟨A5, ca5, rfl, -⟩ := hP
   obtain ⟨A6, ca6, rfl, -⟩ := hQ
   go_wp2_with (first | refine wpList_mload (by rfl) _ (by rfl) (by rfl) LE.out ?_ | refine wpList_nstore (by rfl) _ _ (by rfl) (by rfl) (by rfl) HSZ.out.1 HSZ.out.2 ONE.out ?_)
   generalize wr.alloc (.cells (rfV _).toArray 91) = W5 at *
   refine wp_region_held_drew (S := (fun w' : World => InB W5 w')) (by kernel_rfl) ((InB.refl W5).drew) (fun hHeld => ?_)
   refine wpAnyH_td (i := 0) rfl ?_
   simp only [zz]
   refine wpAnyH_td (i := 1) rfl ?_
   simp only [zz]
   refine wpAnyH_tk (i := 2) (v := ?_) rfl (Or.inl ⟨by rfl, (by intro w hSw; obtain ⟨d0, d66, dv⟩ := XC.out _ hSw; go_simp; try with_reducible rfl)⟩) (by assumption) ?_
   simp only [zz]
   refine wpAnyH_td (i := 5) rfl ?_
   simp only [zz]
   refine wpAnyH_tk (i := 6) (v := .agg (vecL xv).toArray) rfl (Or.inl ⟨by rfl, (by intro w hSw; exact exec_mload (by rfl) (by rfl) (XC.out _ hSw).2.2)⟩) (by assumption) ?_
   simp only [zz]
   refine wpAnyH_td (i := 11) rfl ?_
   simp only [zz]
   refine wpAnyH_tk (i := 12) (v := ?_) rfl (Or.inl ⟨by rfl, (by intro w hSw; obtain ⟨d0, d66, dv⟩ := XC.out _ hSw; go_simp; try with_reducible rfl)⟩) (by assumption) ?_
   simp only [zz]
   refine wpAnyH_ready (rs := [3]) (by kernel_rfl) (by simp) ?_
   refine AllReadyH.cons rfl (fun K hK => ?_) AllReadyH.nil
   go_simp
   go_at_call 88
   refine (FL.out _ (HB5.out.trans (hHeld.below.mono HB5.out.size))).mono ?_
   rintro e w31 ⟨rfl, h8⟩
   have hL := InB.trans hHeld h8
   refine hK.out _ _ hL (fun hHeld => ?_)
   clear h8 hL
   clear hK K
   refine wpAnyH_ready (rs := [4]) (by kernel_rfl) (by simp) ?_
   refine AllReadyH.cons rfl (fun K hK => ?_) AllReadyH.nil
   go_simp
   go_at_call 69
   refine (T1.out _).mono ?_
   rintro e w32 ⟨rfl, h8⟩
   have hL := InB.trans hHeld h8
   refine hK.out _ _ hL (fun hHeld => ?_)
   clear h8 hL
   clear hK K
   refine wpAnyH_ready (rs := [7]) (by kernel_rfl) (by simp) ?_
   refine AllReadyH.cons rfl (fun K hK => ?_) AllReadyH.nil
   go_simp
   go_at_call 90
   refine (EN.out _).mono ?_
   rintro e w33 ⟨s5, rfl, h8⟩
   have hL := InB.trans hHeld h8.2
   have E5 := Lib.hid (h8.rows (fun _ _ => rfl))
   refine hK.out _ _ hL (fun hHeld => ?_)
   clear h8 hL
   clear hK K
   refine wpAnyH_ready (rs := [8]) (by kernel_rfl) (by simp) ?_
   refine AllReadyH.cons rfl (fun K hK => ?_) AllReadyH.nil
   go_simp
   go_at_call 89
   refine (VE.out _ _ _ E5.out).mono ?_
   rintro e w34 ⟨rfl, h8⟩
   have hL := InB.trans hHeld h8
   refine hK.out _ _ hL (fun hHeld => ?_)
   clear h8 hL
   clear hK K
   refine wpAnyH_ready (rs := [9]) (by kernel_rfl) (by simp) ?_
   refine AllReadyH.cons rfl (fun K hK => ?_) AllReadyH.nil
   go_simp
   go_at_call 69
   refine (T2.out _).mono ?_
   rintro e w35 ⟨rfl, h8⟩
   have hL := InB.trans hHeld h8
   refine hK.out _ _ hL (fun hHeld => ?_)
   clear h8 hL
   clear hK K
   refine wpAnyH_td (i := 10) rfl ?_
   simp only [zz]
   refine wpAnyH_ready (rs := [13]) (by kernel_rfl) (by simp) ?_
   refine AllReadyH.cons rfl (fun K hK => ?_) AllReadyH.nil
   go_simp
   go_at_call 89
   refine (VN.out _ (HB5.out.trans (hHeld.below.mono HB5.out.size))).mono ?_
   rintro e w36 ⟨rfl, h8⟩
   have hL := InB.trans hHeld h8
   refine hK.out _ _ hL (fun hHeld => ?_)
   clear h8 hL
   clear hK K
   refine wpAnyH_ready (rs := [14]) (by kernel_rfl) (by simp) ?_
   refine AllReadyH.cons rfl (fun K hK => ?_) AllReadyH.nil
   go_simp
   go_at_call 69
   refine (T3.out _).mono ?_
   rintro e w37 ⟨rfl, h8⟩
   have hL := InB.trans hHeld h8
   refine hK.out _ _ hL (fun hHeld => ?_)
   clear h8 hL
   clear hK K
   refine wpAnyH_td (i := 15) rfl ?_
   simp only [zz]
   refine wpAnyH_ready (rs := [16]) (by kernel_rfl) (by simp) ?_
   refine AllReadyH.cons rfl (fun K hK => ?_) AllReadyH.nil
   go_simp
   go_at_call 69
   refine (T4.out _).mono ?_
   rintro e w38 ⟨rfl, h8⟩
   have hL := InB.trans hHeld h8
   refine hK.out _ _ hL (fun hHeld => ?_)
   clear h8 hL
   clear hK K
   refine wpAnyH_td (i := 17) rfl ?_
   simp only [zz]
   refine wpAnyH_td (i := 18) rfl ?_
   simp only [zz]
   refine wpAnyH_done (by kernel_rfl) ?_ _
   have B9 := Lib.hid (HBL.out.trans (hHeld.below.mono HBL.out.size))
   clear hHeld
   go_wp2_with fail
   go_roundw
   case rel => exact ⟨n + 1, by have := Hlt.out; omega, by go_num, congrArg Value.string hnext.out, B9.out⟩
   case measure => (have := Hlt.out; simp [intOf]; omega)
  ·obtain rfl : n = rs.length := by omega
   have HBL := Lib.hid hbel
   have hlen1 : (Pck.acc (fun r : RFr => Pck.fragR r.x) rs rs.length).length ≤ 9 + 100000 * (110000000 + 9) := LN1.out _
   have htl := Pck.txt_len (Pck.acc (fun r : RFr => Pck.fragR r.x) rs rs.length)
   have TA := Lib.hid (fun W => ref_txt (Pck.acc (fun r : RFr => Pck.fragR r.x) rs rs.length) (by omega) W)
   have HS1 : Hid ((mk (Pck.txt (Pck.acc (fun r : RFr => Pck.fragR r.x) rs rs.length))).size ≤ 12000000000000) := Lib.hid (by rw [mk_len]; omega)
   have E2 : Hid (mk (Pck.knowR k) = mk (Pck.txt (Pck.acc (fun r : RFr => Pck.fragR r.x) rs rs.length)) ++ mk (Pck.txt (Pck.acc Pck.knownR k.items k.items.length))) := Lib.hid (by rw [E1.out, mk_append])
   clear hbel hlt hn htl hlen1
   generalize mk (Pck.txt (Pck.acc (fun r : RFr => Pck.fragR r.x) rs rs.length)) = ta at *
   generalize mk (Pck.acc (fun r : RFr => Pck.fragR r.x) rs rs.length) = acc at *
   go_wp2_with fail
   refine (NU2.out _).mono ?_
   rintro e w2 ⟨rfl, b2⟩
   have B2 := Lib.hid (HBL.out.trans (b2.mono HBL.out.size))
   clear b2 g0 g1
   go_wp2_with fail
   go_loopw [6, 7] (fun s i wr => ∃ n : Nat, n ≤ k.items.length ∧ i = .int .i64 (n : Int) ∧ s = .string (mk (Pck.acc Pck.knownR k.items n)) ∧ Below W0.heap.size W0 wr) (fun _ i _ => k.items.length - (intOf i).toNat)
   case atStart => exact ⟨0, Nat.zero_le _, rfl, rfl, B2.out⟩
   case round =>
   obtain ⟨n, hn, rfl, rfl, hbel⟩ := hrel
   obtain ⟨g0, g1⟩ := KB.out _ hbel
   by_cases hlt : n < k.items.length
   ·have HWr := Lib.hid (HB0.out.trans (hbel.mono HB0.out.size))
    obtain ⟨be, oe, cap1, e, -, -, hb⟩ := (HI.out _ HWr.out).block (by omega)
    injection e with e1 e2 e3
    subst e1 e3
    clear e2 hb
    obtain ⟨x, hx⟩ : ∃ x, k.items[n]? = some x := ⟨_, List.getElem?_eq_getElem hlt⟩
    have hxm := List.mem_of_getElem? hx
    have hxb := BI.out x hxm
    have hnn0 : (0 : Int) ≤ (n : Int) := by omega
    have hnn1 : (n : Int) < (k.items.length : Int) := by omega
    have XC := Lib.hid (fun (W : World) (h : InB wr W) => (by have q := ItAt.elem (HI.out _ (HWr.out.trans (h.below.mono HWr.out.size))) hx hxb.vl; exact ⟨(KB.out _ (hbel.trans (h.below.mono hbel.size))).2, q.by_, q.n, q.v⟩ : W.cell? ⟨w.heap.size, 1, none⟩ = some (.slice (some ⟨be, oe, none⟩) k.items.length cb) ∧ W.cell? ⟨be, oe + n * 67, none⟩ = some (.int .i64 x.item.by_) ∧ W.cell? ⟨be, oe + n * 67 + 1, none⟩ = some (.int .i64 x.item.n) ∧ Lies 32 W be (oe + n * 67 + 2) (vecL x.v)))
    have HBL := Lib.hid hbel
    have hlen1 : (Pck.acc Pck.knownR k.items n).length ≤ 9 + 100000 * (2000 + 9) := LN2.out n
    have hnext : Hid (mk (Pck.acc Pck.knownR k.items n) ++ mk (Pck.txt (Pck.knownR x)) = mk (Pck.acc Pck.knownR k.items (n + 1))) := Lib.hid (by rw [mk_append, Pck.acc_next hx])
    have hxl := Pck.knownR_len x
    have htl := Pck.txt_len (Pck.knownR x)
    have k2 : (Pck.lst Pck.verR (Vec.ends x.v)).length ≤ 9 + (Vec.ends x.v).length * (18 + 9) := Pck.lst_le _ (fun v _ => Pck.verR_len v)
    have m2 := Pck.ends_le x.v
    have u2 := Pck.txt_len (Pck.lst Pck.verR (Vec.ends x.v))
    have u1 := Pck.verR_len x.item
    have VR := Lib.hid (fun W => ref_pver x.item hxb.ib W)
    have EN := Lib.hid (fun W => ref_vends W hxb.vl)
    have VE := Lib.hid (fun (W : World) (G : Nat → Prop) (s : Value) (h : Vrs W G s (Vec.ends x.v)) => ref_pvers h (by omega) (fun y hy => Pck.nnV_bd (Pck.ends_nn (fun n hn => (hxb.vb n hn).2) y hy)))
    have T2 := Lib.hid (fun W => ref_txt (Pck.lst Pck.verR (Vec.ends x.v)) (by omega) W)
    have T4 := Lib.hid (fun W => ref_txt (Pck.knownR x) (by omega) W)
    have hcat : mk (Pck.knownR x) = mk (Pck.verR x.item) ++ mk (Pck.txt (Pck.lst Pck.verR (Vec.ends x.v))) := by rw [mk_append]; rfl
    rw [hcat] at T4
    rw [← mk_len] at hlen1 htl u1 u2
    have Hlt := Lib.hid hlt
    clear hcat hlt hn hx hxm hbel hxb
    generalize mk (Pck.acc Pck.knownR k.items n) = acc2 at *
    generalize hz4 : mk (Pck.txt (Pck.knownR x)) = q4 at *
    generalize mk (Pck.verR x.item) = q1 at *
    generalize mk (Pck.txt (Pck.lst Pck.verR (Vec.ends x.v))) = q2 at *
    have n1 : ¬ 9223372036854775807 < q1.size + q2.size := by omega
    have n3 : ¬ 9223372036854775807 < acc2.size + q4.size := by omega
    clear hz4 hlen1 hxl htl k2 m2 u1 u2
    generalize mk (Pck.lst Pck.verR (Vec.ends x.v)) = p2 at *
    obtain ⟨⟨x1, x2⟩, xv⟩ := x
    dsimp only [verA] at XC VR EN VE
    go_wp2_with fail
    refine wp_region_held_drew (S := (fun w' : World => InB wr w')) (by kernel_rfl) ((InB.refl wr).drew) (fun hHeld => ?_)
    refine wpAnyH_td (i := 0) rfl ?_
    simp only [zz]
    refine wpAnyH_td (i := 1) rfl ?_
    simp only [zz]
    refine wpAnyH_tk (i := 2) (v := ?_) rfl (Or.inl ⟨by rfl, (by intro w hSw; obtain ⟨f1, c0, c1, dv⟩ := XC.out _ hSw; go_simp; try with_reducible rfl)⟩) (by assumption) ?_
    simp only [zz]
    refine wpAnyH_td (i := 3) rfl ?_
    simp only [zz]
    refine wpAnyH_tk (i := 4) (v := ?_) rfl (Or.inl ⟨by rfl, (by intro w hSw; obtain ⟨f1, c0, c1, dv⟩ := XC.out _ hSw; go_simp; try with_reducible rfl)⟩) (by assumption) ?_
    simp only [zz]
    refine wpAnyH_td (i := 5) rfl ?_
    simp only [zz]
    refine wpAnyH_tk (i := 6) (v := ?_) rfl (Or.inl ⟨by rfl, (by intro w hSw; obtain ⟨f1, c0, c1, dv⟩ := XC.out _ hSw; go_simp; try with_reducible rfl)⟩) (by assumption) ?_
    simp only [zz]
    refine wpAnyH_td (i := 8) rfl ?_
    simp only [zz]
    refine wpAnyH_tk (i := 9) (v := ?_) rfl (Or.inl ⟨by rfl, (by intro w hSw; obtain ⟨f1, c0, c1, dv⟩ := XC.out _ hSw; go_simp; try with_reducible rfl)⟩) (by assumption) ?_
    simp only [zz]
    refine wpAnyH_td (i := 10) rfl ?_
    simp only [zz]
    refine wpAnyH_tk (i := 11) (v := ?_) rfl (Or.inl ⟨by rfl, (by intro w hSw; obtain ⟨f1, c0, c1, dv⟩ := XC.out _ hSw; go_simp; try with_reducible rfl)⟩) (by assumption) ?_
    simp only [zz]
    refine wpAnyH_td (i := 12) rfl ?_
    simp only [zz]
    refine wpAnyH_tk (i := 13) (v := .agg (vecL xv).toArray) rfl (Or.inl ⟨by rfl, (by intro w hSw; exact exec_mload (by rfl) (by rfl) (XC.out _ hSw).2.2.2)⟩) (by assumption) ?_
    simp only [zz]
    refine wpAnyH_ready (rs := [7]) (by kernel_rfl) (by simp) ?_
    refine AllReadyH.cons rfl (fun K hK => ?_) AllReadyH.nil
    go_simp
    go_at_call 91
    refine (VR.out _).mono ?_
    rintro e w31 ⟨rfl, h8⟩
    have hL := InB.trans hHeld h8
    refine hK.out _ _ hL (fun hHeld => ?_)
    clear h8 hL
    clear hK K
    refine wpAnyH_ready (rs := [14]) (by kernel_rfl) (by simp) ?_
    refine AllReadyH.cons rfl (fun K hK => ?_) AllReadyH.nil
    go_simp
    go_at_call 90
    refine (EN.out _).mono ?_
    rintro e w33 ⟨s5, rfl, h8⟩
    have hL := InB.trans hHeld h8.2
    have E5 := Lib.hid (h8.rows (fun _ _ => rfl))
    refine hK.out _ _ hL (fun hHeld => ?_)
    clear h8 hL
    clear hK K
    refine wpAnyH_ready (rs := [15]) (by kernel_rfl) (by simp) ?_
    refine AllReadyH.cons rfl (fun K hK => ?_) AllReadyH.nil
    go_simp
    go_at_call 89
    refine (VE.out _ _ _ E5.out).mono ?_
    rintro e w34 ⟨rfl, h8⟩
    have hL := InB.trans hHeld h8
    refine hK.out _ _ hL (fun hHeld => ?_)
    clear h8 hL
    clear hK K
    refine wpAnyH_ready (rs := [16]) (by kernel_rfl) (by simp) ?_
    refine AllReadyH.cons rfl (fun K hK => ?_) AllReadyH.nil
    go_simp
    go_at_call 69
    refine (T2.out _).mono ?_
    rintro e w35 ⟨rfl, h8⟩
    have hL := InB.trans hHeld h8
    refine hK.out _ _ hL (fun hHeld => ?_)
    clear h8 hL
    clear hK K
    refine wpAnyH_td (i := 17) rfl ?_
    simp only [zz]
    refine wpAnyH_ready (rs := [18]) (by kernel_rfl) (by simp) ?_
    refine AllReadyH.cons rfl (fun K hK => ?_) AllReadyH.nil
    go_simp
    go_at_call 69
    refine (T4.out _).mono ?_
    rintro e w38 ⟨rfl, h8⟩
    have hL := InB.trans hHeld h8
    refine hK.out _ _ hL (fun hHeld => ?_)
    clear h8 hL
    clear hK K
    refine wpAnyH_td (i := 19) rfl ?_
    simp only [zz]
    refine wpAnyH_td (i := 20) rfl ?_
    simp only [zz]
    refine wpAnyH_done (by kernel_rfl) ?_ _
    have B9 := Lib.hid (HBL.out.trans (hHeld.below.mono HBL.out.size))
    clear hHeld
    go_wp2_with fail
    go_roundw
    case rel => exact ⟨n + 1, by have := Hlt.out; omega, by go_num, congrArg Value.string hnext.out, B9.out⟩
    case measure => (have := Hlt.out; simp [intOf]; omega)
   ·obtain rfl : n = k.items.length := by omega
    have HBL := Lib.hid (HB0.out.trans (hbel.mono HB0.out.size))
    have hlen1 : (Pck.acc Pck.knownR k.items k.items.length).length ≤ 9 + 100000 * (2000 + 9) := LN2.out _
    have htl := Pck.txt_len (Pck.acc Pck.knownR k.items k.items.length)
    have TB := Lib.hid (fun W => ref_txt (Pck.acc Pck.knownR k.items k.items.length) (by omega) W)
    have hs1 := HS1.out
    rw [← mk_len] at htl
    clear hbel hlt hn
    generalize mk (Pck.txt (Pck.acc Pck.knownR k.items k.items.length)) = tb at *
    generalize mk (Pck.acc Pck.knownR k.items k.items.length) = accb at *
    have n1 : ¬ 9223372036854775807 < ta.size + tb.size := by omega
    clear hlen1 htl hs1
    go_wp2_with fail
    refine (TA.out _).mono ?_
    rintro e w3 ⟨rfl, b3⟩
    have B3 := Lib.hid (HBL.out.trans (b3.mono HBL.out.size))
    clear b3
    go_wp2_with fail
    refine (TB.out _).mono ?_
    rintro e w4 ⟨rfl, b4⟩
    have B4 := Lib.hid (B3.out.trans (b4.mono B3.out.size))
    clear b4
    go_wp2_with fail
    go_ret
    exact ⟨by rw [E2.out]; rfl, B4.out⟩
end Go.Proofs.YtpafpegcodempaaGreat
