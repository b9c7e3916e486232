import Derived.Test.YtkcgmnhjofoeiaaGreatCom15
import Derived.Test.YtkcgmnhjofoeiaaGreatCom11
import Derived.Test.YtkcgmnhjofoeiaaGreatCom18
import Derived.Test.YtkcgmnhjofoeiaaGreatCom5
set_option maxRecDepth 100000
set_option linter.all false
set_option maxHeartbeats 12800000
namespace Go.Proofs.YtkcgmnhjofoeiaaGreat
open Go.RowKit Go.Shelf Go.Lib Go.Sort
theorem joi_end {w1 wr : World} {ss : List RFr} {s3 : Value} (hst : (ss.length = 0 ∧ s3 = .slice none 0 0 ∧ Hid (Below w1.heap.size w1 wr)) ∨ ∃ (J0 : List RFr) (y : RFr) (g c : Nat), s3 = .slice (some ⟨g, 0, none⟩) (J0.length + 1) c ∧ Hid (JO w1 J0 y (.slice (some ⟨g, 0, none⟩) (J0.length + 1) c) wr) ∧ Hid ((J0 ++ [y]).map (·.x) = Know.joinAll ((ss.map (·.x)).take ss.length)))
  (HB : ∀ k, k ≤ (ss.map (·.x)).length → Know.many (Know.joinAll ((ss.map (·.x)).take k)) ≤ 100000 ∧ (Know.joinAll ((ss.map (·.x)).take k)).length ≤ k ∧ ∀ x ∈ Know.joinAll ((ss.map (·.x)).take k), Know.Sane x.f) (HSl : ss.length ≤ 100000) :
  Hid (∃ js, FOwn w1 js s3 wr ∧ js.length ≤ 100000 ∧ js.map (·.x) = Know.joinAll (ss.map (·.x))) := Lib.hid (by
 rcases hst with ⟨h0, rfl, hb⟩ | ⟨J0, y, g, c, rfl, hJ, hJx⟩
 ·have : ss = [] := List.eq_nil_of_length_eq_zero h0
  subst this
  exact ⟨[], FOwn.first hb.out, Nat.zero_le _, rfl⟩
 ·refine ⟨J0 ++ [y], hJ.out.fown, ?_, ?_⟩
  ·have h1 := (HB ss.length (by rw [List.length_map]; exact Nat.le_refl _)).2.1
   rw [← hJx.out, List.length_map] at h1
   exact Nat.le_trans h1 HSl
  ·have h1 := hJx.out
   rwa [List.take_of_length_le (by rw [List.length_map]; exact Nat.le_refl _)] at h1)
theorem know_joined (V : VecOk) (I : IsetOk) (Z : FilterOk) {w : World} {F : Nat → Prop} {v : Value} {l : List Know.Fr} (h : Frs w F v l) (hl : l.length ≤ 100000) (hn : ∀ x ∈ l, x.no.length ≤ 100000) (hm : Know.many l ≤ 100000) (hs : ∀ x ∈ l, Know.Sane x.f) :
  Calls Tryz.prog 69 #[v] w fun e w' => ∃ v' js S, e = .returned v' ∧ FOwn w js v' w' ∧ S.Perm (l.map Know.tidy) ∧ Know.Sorted S ∧ js.map (·.x) = (Know.joinAll S).map Know.normF := by
 have OD := Lib.hid (know_ordered V I h hl hn)
 obtain ⟨i0, hi0, hz0, hz1, hz2⟩ := info_parts clauseInfo
 obtain ⟨i1, hi1, hy0, hy1, hy2⟩ := ver_parts frInfo
 have hz := frZero
 have mixed : Tryz.prog.follows .mixedOrders = true := by kernel_rfl
 have HL := Lib.hid hl
 have HM := Lib.hid hm
 have HSa := Lib.hid hs
 have HN := Lib.hid hn
 clear h hl hm hs hn
 go_enter Tryz.func69, Tryz.ntmps69
 go_wp2_with fail
 refine (OD.out).mono ?_
 rintro e w1 ⟨v1, ss, rfl, hF, hP, hSr⟩
 obtain ⟨B, cap, rfl, hcap⟩ := hF.rws.parts
 have F1 := Lib.hid hF
 have HP := Lib.hid hP
 have HSr := Lib.hid hSr
 have HSl : Hid (ss.length ≤ 100000) := Lib.hid (by
  have := hP.length_eq
  rw [List.length_map, List.length_map] at this
  rw [this]; exact HL.out)
 have HB : Hid (∀ k, k ≤ (ss.map (·.x)).length → Know.many (Know.joinAll ((ss.map (·.x)).take k)) ≤ 100000 ∧ (Know.joinAll ((ss.map (·.x)).take k)).length ≤ k ∧ ∀ x ∈ Know.joinAll ((ss.map (·.x)).take k), Know.Sane x.f) := Lib.hid (fun k hk => by
  have hb := Know.join_bounds (S := ss.map (·.x)) (fun x hx => by
   obtain ⟨z, hz, rfl⟩ := List.mem_map.1 (hP.mem_iff.1 hx)
   exact HSa.out z hz) k hk
  rw [Know.many_perm hP, Know.many_tidy] at hb
  exact ⟨Nat.le_trans hb.1 HM.out, hb.2⟩)
 have HNo : Hid (∀ z ∈ ss, z.x.no.length ≤ 100000) := Lib.hid (fun z hz => by
  obtain ⟨y, hy, e⟩ := List.mem_map.1 (hP.mem_iff.1 (List.mem_map.2 ⟨z, hz, rfl⟩))
  rw [← e]
  exact Nat.le_trans (Ver.sort_len _) (HN.out y hy))
 have HZf : Hid (∀ z ∈ ss, z.x.f.length ≤ 100000) := Lib.hid (fun z hz => by
  have h1 := Know.many_mem (l := ss.map (·.x)) (x := z.x) (List.mem_map.2 ⟨z, hz, rfl⟩)
  rw [Know.many_perm hP, Know.many_tidy] at h1
  exact Nat.le_trans h1 HM.out)
 have hW1 := Lib.hid hF.size
 clear hF hP hSr OD
 go_wp2_with fail
 go_loopw [3, 12] (fun s3 s12 wr => ∃ k, k ≤ ss.length ∧ s12 = .int .i64 (k : Nat) ∧ ((k = 0 ∧ s3 = .slice none 0 0 ∧ Hid (Below w1.heap.size w1 wr)) ∨ ∃ (J0 : List RFr) (y : RFr) (g c : Nat), s3 = .slice (some ⟨g, 0, none⟩) (J0.length + 1) c ∧ Hid (JO w1 J0 y (.slice (some ⟨g, 0, none⟩) (J0.length + 1) c) wr) ∧ Hid ((J0 ++ [y]).map (·.x) = Know.joinAll ((ss.map (·.x)).take k)))) (fun _ s12 _ => ss.length - (intOf s12).toNat)
 case atStart => exact ⟨0, Nat.zero_le _, rfl, Or.inl ⟨rfl, rfl, Lib.hid (Below.refl _ _)⟩⟩
 case round =>
  obtain ⟨k, hk, rfl, hst⟩ := hrel
  by_cases hlt : k < ss.length
  ·obtain ⟨g1, cap1, e, -, -⟩ := F1.out.own.1.form (by omega)
   injection e with e1 e2 e3
   subst e1 e3
   clear e2
   obtain ⟨z, hzr⟩ : ∃ z, ss[k]? = some z := ⟨_, List.getElem?_eq_getElem hlt⟩
   have hzm := List.mem_of_getElem? hzr
   have hIn := F1.out.ins z hzm
   have hbr : Below w1.heap.size w1 wr := by
    rcases hst with ⟨-, -, h⟩ | ⟨J0, y, g, c, -, h, -⟩
    ·exact h.out
    ·exact h.out.own.2
   have LE := Lib.hid ((F1.out.at hzr).below hbr (F1.out.own.1.lt g1 rfl).2)
   have IZ := Lib.hid (hIn.below hbr)
   have IZ1 := Lib.hid hIn
   have hone := Lib.hid hIn.one
   have hz65 := Lib.hid hIn.len
   have HS : Hid ((Tryz.prog.info? 31).map (·.size) = some (rfV z).length ∧ (rfV frZ).toArray.size = (rfV z).length) := Lib.hid ⟨frSize hIn.len, by rw [rf_len hIn.len]; exact frZ_size⟩
   obtain ⟨W1, hW⟩ : ∃ W1, W1 = wr.alloc (.cells (rfV z).toArray 31) := ⟨_, rfl⟩
   have hbA : Below wr.heap.size wr W1 := by rw [hW]; exact (Below.refl _ _).alloc (Nat.le_refl _) _
   have HbA := Lib.hid hbA
   have RB : Hid (Row W1 wr.heap.size 31 (rfV z).toArray) := Lib.hid (by rw [hW]; exact Row.made wr _ _)
   have HWs : Hid (W1.heap.size = wr.heap.size + 1) := Lib.hid (by rw [hW]; simp)
   obtain ⟨Af, cf, eF, -⟩ := hIn.f.parts
   have CL := Lib.hid (fun (W : World) (h : Below W1.heap.size W1 W) => clone_any (Rws.below (Rws.below (Rws.below hIn.f hbr) hbA) h) (HZf.out z hzm))
   have ZF := Lib.hid (fun (W : World) (h : Below W1.heap.size W1 W) => Rws.below (Rws.below (Rws.below hIn.f hbr) hbA) h)
   rw [eF] at CL ZF
   have EF := Lib.hid eF
   have Hbr := Lib.hid hbr
   have HNX := Lib.hid (Know.join_take (ss.map (·.x)) k z.x (by rw [List.getElem?_map, hzr]; rfl))
   have HB1 := Lib.hid (HB.out (k + 1) (by rw [List.length_map]; omega))
   have hno := Lib.hid (HNo.out z hzm)
   have hk0 : (0 : Int) ≤ (k : Int) := by omega
   have hk1 : (k : Int) < (ss.length : Int) := by omega
   have HW := Lib.hid hW
   clear hzr hzm hIn hbr eF hbA
   rcases hst with ⟨hk00, rfl, hbb⟩ | ⟨J0, y, g, c, rfl, hJ, hJx⟩
   ·subst hk00
    have FO := Lib.hid (FOwn.first hbb.out)
    have HJL : Hid (([] : List RFr).length ≤ 100000) := Lib.hid (Nat.zero_le _)
    have HK2 : Hid ((0 : Int) ≤ 100000) := Lib.hid (by decide)
    go_wp2_with (first | refine wpList_mload (by rfl) _ (by rfl) (by rfl) LE.out.all ?_ | refine wpList_nstore (by rfl) _ _ (by rfl) (by rfl) (by rfl) HS.out.1 HS.out.2 hone.out ?_)
    rw [← hW]
    clear hW
    refine wp_region_below (by assumption) (by kernel_rfl) ?_
    repeat ((first
     | (refine wq_skip (by rfl) ?_)
     | (refine wq_td ?_)); (try simp only [zz]))
    refine wq_nil ?_
    intro wq hq
    have HQ := Lib.hid hq.below
    clear hq
    have RQ := Lib.hid (RB.out.below HQ.out RB.out.inHeap)
    have c0 := (FrAt.row hz65.out RQ.out).f
    rw [EF.out] at c0
    have hwq : Below wr.heap.size wr wq := HbA.out.trans (HQ.out.mono HbA.out.size)
    have hbq : wr.heap.size < wq.heap.size := by have := HWs.out; have := HQ.out.size; omega
    have Hwq := Lib.hid hwq
    have Hbq := Lib.hid hbq
    clear hwq hbq
    go_wp2_with fail
    refine (CL.out wq HQ.out).mono ?_
    rintro e w8 ⟨v8, rfl, h8⟩
    obtain ⟨A8, c8, e8, -⟩ := (h8.rows (fun _ _ => rfl)).parts
    subst e8
    have JN := joi_new FO.out Hbr.out Hwq.out Hbq.out h8 IZ1.out
    have RB8 := RQ.out.below h8.2 RQ.out.inHeap
    have f0 := RB8.free 0
    have c0 := (FrAt.row hz65.out RB8).f
    have RB9 : Row (w8.setCell ⟨wr.heap.size, 0, none⟩ (.slice A8 z.x.f.length c8)) wr.heap.size 31 (rfV ⟨.slice A8 z.x.f.length c8, z.nv, z.x⟩).toArray := by
     have h := RB8.stored 0 (.slice A8 z.x.f.length c8)
     rw [List.setIfInBounds_toArray] at h
     exact h
    have L9 := Lib.hid (FrAt.row (r := ⟨.slice A8 z.x.f.length c8, z.nv, z.x⟩) hz65.out RB9).all
    have JNH := Lib.hid JN
    have ONE : Hid (∀ u ∈ rfV ⟨.slice A8 z.x.f.length c8, z.nv, z.x⟩, u.oneCell' = true) := Lib.hid (fun u hu => by
     rcases List.mem_cons.1 hu with e | hu
     ·rw [e]; rfl
     ·exact hone.out u (List.mem_cons_of_mem _ hu))
    have hsz : (rfV ⟨.slice A8 z.x.f.length c8, z.nv, z.x⟩).length = 67 := rf_len hz65.out
    have OJ := JN.1.own.1
    have OR1 := fr_made1 (w8.setCell ⟨wr.heap.size, 0, none⟩ (.slice A8 z.x.f.length c8)) 31 ⟨.slice A8 z.x.f.length c8, z.nv, z.x⟩
    have hws : w1.heap.size ≤ (w8.setCell ⟨wr.heap.size, 0, none⟩ (.slice A8 z.x.f.length c8)).heap.size := Nat.le_trans Hbr.out.size JN.2.2.2.2.2.size
    have HJl := HB1.out.2.1
    clear JN RB9 h8 RB8
    go_wp2_with (first | refine wpList_mload (by rfl) _ (by rfl) (by rfl) L9.out ?_ | refine wpList_build1 rfl 22 31 _ rfl (by rfl) Tryz.underlying22 hi1 hy0 hy1 hsz ?_ | (at_builtin; refine wp_joins (f := rfV) (k := 67) rfl _ _ 22 rfl w1.heap.size 31 i1 (frA frZ) 568 Tryz.underlying22 hi1 hy0 hy1 hy2 frZ_size (by decide) rfl rfl (OJ.alloc _) OR1 ?d1 ?d2 ?d3 ?d4 ?d5 ?_))
    case d1 => (intro x hx; rw [List.mem_singleton.1 hx]; exact rf_len hz65.out)
    case d2 => (intro x hx; rw [List.mem_singleton.1 hx]; exact ONE.out)
    case d3 => (have h1 := HSl.out; unfold maxLen; rw [show ([(⟨.slice A8 z.x.f.length c8, z.nv, z.x⟩ : RFr)]).length = 1 from rfl]; have h2 := HJL.out; omega)
    case d4 => (have h1 := HSl.out; rw [show ([(⟨.slice A8 z.x.f.length c8, z.nv, z.x⟩ : RFr)]).length = 1 from rfl]; have h2 := HJL.out; omega)
    case d5 => (rw [World.size_alloc]; exact Nat.le_succ_of_le hws)
    intro v3 w3 own3 hg3 hn3
    have J3 := JO.push JNH.out.1 JNH.out.2.1 JNH.out.2.2.1 JNH.out.2.2.2.1 hz65.out JNH.out.2.2.2.2.1 (by simpa using own3) hg3 hn3
    obtain ⟨g3, c3, e3, -, -⟩ := J3.own.1.form (by simp)
    have e3 : v3 = .slice (some ⟨g3, 0, none⟩) (([] : List RFr).length + 1) c3 := by rw [e3, List.length_append]; rfl
    subst e3
    have HJ3 := Lib.hid J3
    clear own3 hg3 hn3 OJ OR1 J3
    have hk2 := HK2.out
    go_wp2_with fail
    exact ⟨⟨0 + 1, by omega, by go_num, Or.inr ⟨[], ⟨.slice A8 z.x.f.length c8, z.nv, z.x⟩, g3, c3, rfl, HJ3, Lib.hid (by
     rw [HNX.out, List.take_zero]
     rfl)⟩⟩, by show ss.length - (((0 : Nat) : Int) + 1).toNat < ss.length - (((0 : Nat) : Int)).toNat; omega⟩
   ·have FO := Lib.hid hJ.out.fown
    have hlast : (J0 ++ [y])[J0.length]? = some y := by rw [List.getElem?_append_right (Nat.le_refl _), Nat.sub_self]; rfl
    have HJA := Lib.hid (hJ.out.below HbA.out Hbr.out.size)
    have hgl := (hJ.out.own.1.lt g rfl).2
    have hcl : J0.length + 1 ≤ c := by
     obtain ⟨A', c', e, hc⟩ := FO.out.rws.parts
     injection e with e1 e2 e3
     rw [e3, e2]; exact hc
    have LY := Lib.hid (fun (W : World) (h : InB W1 W) => (((hJ.out.fown.below HbA.out).at hlast).all.below h.below (by have := HWs.out; omega) : Lies 31 W g (J0.length * 67) (rfV y)))
    have LZ := Lib.hid (fun (W : World) (h : InB W1 W) => ((FrAt.row hz65.out RB.out).all.below h.below RB.out.inHeap : Lies 31 W wr.heap.size 0 (rfV z)))
    have hyno : y.x.no.length ≤ 100000 := by
     have hmem : y.x ∈ Know.joinAll ((ss.map (·.x)).take k) := by rw [← hJx.out]; exact List.mem_map.2 ⟨y, by simp, rfl⟩
     have hjs := Know.joins_all (S := (ss.map (·.x)).take k) (List.Pairwise.sublist (List.take_sublist k _) (show (ss.map (·.x)).Pairwise (fun x y => ¬ Know.FLt y x) from HSr.out)) (fun x hx => by
      obtain ⟨r, hr, rfl⟩ := List.mem_map.1 (List.mem_of_mem_take hx)
      exact (F1.out.ins r hr).len)
     obtain ⟨t, ht, e⟩ := (hjs.mem _).1 hmem
     rw [e]
     obtain ⟨r, hr, rfl⟩ := List.mem_map.1 (List.mem_of_mem_take ht)
     exact HNo.out r hr
    have hy65 := hJ.out.len
    have OR := Lib.hid (fun (W : World) (h : InB W1 W) => know_order (r := y) (s := z) ((HJA.out.fown.ins y (by simp)).below h.below) ((IZ.out.below HbA.out).below h.below) hyno hno.out)
    have HK := Lib.hid (Know.order_spec (x := y.x) (y := z.x) (by rw [hy65, hz65.out])).2.1
    have hm0 : (0 : Int) ≤ (J0.length : Int) := by omega
    have hJL : J0.length + 1 ≤ 100000 := by
     have h1 := (HB.out k (by rw [List.length_map]; omega)).2.1
     rw [← hJx.out, List.length_map, List.length_append] at h1
     have h2 := HSl.out
     have h3 : [y].length = 1 := rfl
     omega
    have hm1 : (J0.length : Int) ≤ 99999 := by omega
    have hm2 : (J0.length : Int) < (J0.length : Int) + 1 := by omega
    have HJL : Hid ((J0 ++ [y]).length ≤ 100000) := Lib.hid (by rw [List.length_append]; exact hJL)
    clear hJL
    clear hgl hlast hyno hy65
    by_cases hkey : Know.order y.x z.x = 0
    ·rw [hkey] at OR
     have hkd := HK.out.1 hkey
     have HST : Hid ((J0 ++ [(⟨y.fv, y.nv, ⟨y.x.f ++ z.x.f, y.x.v, y.x.no⟩⟩ : RFr)]).map (·.x) = Know.joinAll ((ss.map (·.x)).take (k + 1))) := Lib.hid (by
      rw [HNX.out, ← hJx.out, List.map_append, List.map_append]
      exact (Know.step_same _ _ _ hkd).symm)
     have hbd : y.x.f.length + z.x.f.length ≤ 100000 := by
      have h1 := HB1.out.1
      rw [← HST.out] at h1
      have h2 := Know.many_mem (l := (J0 ++ [(⟨y.fv, y.nv, ⟨y.x.f ++ z.x.f, y.x.v, y.x.no⟩⟩ : RFr)]).map (·.x)) (x := ⟨y.x.f ++ z.x.f, y.x.v, y.x.no⟩) (by simp)
      rw [List.length_append] at h2
      omega
     clear hkey HK hkd
     go_wp2_with (first | refine wpList_mload (by rfl) _ (by rfl) (by rfl) LE.out.all ?_ | refine wpList_nstore (by rfl) _ _ (by rfl) (by rfl) (by rfl) HS.out.1 HS.out.2 hone.out ?_)
     rw [← hW]
     clear hW
     refine wp_region_below (by assumption) (by kernel_rfl) ?_
     repeat ((first
      | (refine wq_skip (by rfl) ?_)
      | (refine wq_mload (by kernel_rfl) _ (by rfl) (by rfl) LY.out ?_)
      | (refine wq_mload (by kernel_rfl) _ (by rfl) (by rfl) LZ.out ?_)
      | (refine wq_td ?_)
      | (refine wq_call (by kernel_rfl) ?hent (fun w hSw => inB_laid hSw (OR.out w hSw)) ?_; (case hent => (intro w hSw; go_simp; done)))); (try simp only [zz]))
     refine wq_nil ?_
     intro wq hq
     have HQ := Lib.hid hq.below
     have HJQ := Lib.hid (HJA.out.below HQ.out (Nat.le_trans Hbr.out.size HbA.out.size))
     clear hq
     go_wp2_with fail
     have hbx : Row wq wr.heap.size 31 (rfV z).toArray := RB.out.below HQ.out RB.out.inHeap
     have hwq : Below wr.heap.size wr wq := HbA.out.trans (HQ.out.mono HbA.out.size)
     have JR := hJ.out.reads Hbr.out.size hwq hbx hz65.out
     obtain ⟨Ay, cy, ey, -⟩ := (JR.1.fown.ins y (by simp)).f.parts
     have CR := Lib.hid (fun (W : World) (h : Kept (fun i => y.fv.ownBlock = some i) wq W) => ((⟨(JR.2 W h).1.trans (congrArg some ey), (JR.2 W h).2.trans (congrArg some EF.out)⟩) : W.cell? ⟨g, J0.length * 67, none⟩ = some (.slice Ay y.x.f.length cy) ∧ W.cell? ⟨wr.heap.size, 0, none⟩ = some (.slice Af z.x.f.length cf)))
     have hwb : w1.heap.size ≤ wq.drew.heap.size := Nat.le_trans Hbr.out.size hwq.size
     have HJD := Lib.hid (JR.1.below ((Below.refl wq.heap.size wq).drew) (Nat.le_trans Hbr.out.size hwq.size))
     have EY := Lib.hid ey
     have OYf := HJD.out.f
     rw [ey] at OYf
     have ZFD := ZF.out wq.drew (HQ.out.drew)
     clear ey hbx hwq JR
     refine wp_region_tail (n := 12) (S := (fun w' : World => Kept (fun i => y.fv.ownBlock = some i) wq w')) (by kernel_rfl) (by kernel_rfl) (by rfl) ((Kept.refl _ wq).drew) (fun hHeld => ?_)
     refine wpAnyH_td (i := 0) rfl ?_
     simp only [zz]
     refine wpAnyH_td (i := 1) rfl ?_
     simp only [zz]
     refine wpAnyH_td (i := 2) rfl ?_
     simp only [zz]
     refine wpAnyH_td (i := 3) rfl ?_
     simp only [zz]
     refine wpAnyH_td (i := 4) rfl ?_
     simp only [zz]
     refine wpAnyH_td (i := 5) rfl ?_
     simp only [zz]
     refine wpAnyH_tk (i := 6) (v := ?_) rfl (Or.inl ⟨by rfl, (by intro w hSw; have c6 := (CR.out _ hSw).1; go_simp; try with_reducible rfl)⟩) (by assumption) ?_
     simp only [zz]
     refine wpAnyH_td (i := 7) rfl ?_
     simp only [zz]
     refine wpAnyH_tk (i := 8) (v := ?_) rfl (Or.inl ⟨by rfl, (by intro w hSw; have c8 := (CR.out _ hSw).2; go_simp; try with_reducible rfl)⟩) (by assumption) ?_
     simp only [zz]
     refine wpAnyH_ready (rs := [9]) (by kernel_rfl) (by simp) ?_
     refine AllReadyH.cons rfl (fun K hK => ?_) AllReadyH.nil
     refine step_near (f := clV) (k := 3) rfl (.tmp 36) (.tmp 38) 26 (by rfl) w1.heap.size 87 i0 (.agg #[.string ⟨#[]⟩, .int .i64 0, .int .i64 0]) 32 Tryz.underlying26 hi0 hz0 hz1 hz2 rfl (by decide) (v := .slice Ay y.x.f.length cy) (xv := .slice Af z.x.f.length cf) (by kernel_rfl) (by kernel_rfl) OYf ZFD (fun _ _ => rfl) (fun x _ => cl_one x) (by unfold maxLen; omega) (by omega) hwb ?_
     intro v9 w9 o9 g9 n9
     rw [← EY.out] at g9 n9
     have JJ := HJD.out.joined (by simp) o9 g9 n9
     have S9 := (kept_of g9 : Kept (fun i => y.fv.ownBlock = some i) wq.drew w9)
     obtain ⟨J9, c9, f9⟩ := JJ
     obtain ⟨u9, c9⟩ := Option.isSome_iff_exists.1 c9
     obtain ⟨A9, k9, e9, -⟩ := (J9.fown.ins ⟨v9, y.nv, ⟨y.x.f ++ z.x.f, y.x.v, y.x.no⟩⟩ (by simp)).f.parts
     have e9 : v9 = .slice A9 (y.x.f.length + z.x.f.length) k9 := by rw [← List.length_append]; exact e9
     subst e9
     have J12 := Lib.hid J9
     clear J9
     refine hK.out _ _ ⟨S9.os, S9.tape, S9.output, S9.size, S9.block⟩ (fun hHeld => ?_)
     clear S9 o9 g9 n9
     clear hK K
     refine wpAnyH_td (i := 10) rfl ?_
     simp only [zz]
     refine wpAnyH_td (i := 11) rfl ?_
     simp only [zz]
     refine wpAnyH_done (by kernel_rfl) ?_ _
     refine wpAny_of_held (S := fun _ => True) _ _ _ _ ?_
     have hHeld : True := trivial
     refine wpAnyH_ready (rs := [12]) (by kernel_rfl) (by simp) ?_
     refine AllReadyH.cons rfl (fun K hK => ?_) AllReadyH.nil
     go_simp
     refine hK.out _ _ trivial (fun hHeld => ?_)
     clear hK K
     refine wpAnyH_done (by kernel_rfl) ?_ _
     have hk2 : (k : Int) ≤ 99999 := by have h := HSl.out; omega
     go_wp2_with fail
     exact ⟨⟨k + 1, by omega, by go_num, Or.inr ⟨J0, ⟨.slice A9 (y.x.f.length + z.x.f.length) k9, y.nv, ⟨y.x.f ++ z.x.f, y.x.v, y.x.no⟩⟩, g, c, rfl, J12, Lib.hid (by rw [← HST.out, List.map_append, List.map_append]; rfl)⟩⟩, by show ss.length - ((k : Int) + 1).toNat < ss.length - (k : Int).toNat; omega⟩
    ·have hkd : ¬ Know.Keyd y.x z.x := fun h => hkey (HK.out.2 h)
     have HST : Hid ((J0 ++ [y]).map (·.x) ++ [z.x] = Know.joinAll ((ss.map (·.x)).take (k + 1))) := Lib.hid (by
      rw [HNX.out, ← hJx.out, List.map_append]
      exact (Know.step_new _ _ _ hkd).symm)
     generalize Know.order y.x z.x = od at *
     clear HK hkd
     go_wp2_with (first | refine wpList_mload (by rfl) _ (by rfl) (by rfl) LE.out.all ?_ | refine wpList_nstore (by rfl) _ _ (by rfl) (by rfl) (by rfl) HS.out.1 HS.out.2 hone.out ?_)
     rw [← hW]
     clear hW
     refine wp_region_below (by assumption) (by kernel_rfl) ?_
     repeat ((first
      | (refine wq_skip (by rfl) ?_)
      | (refine wq_mload (by kernel_rfl) _ (by rfl) (by rfl) LY.out ?_)
      | (refine wq_mload (by kernel_rfl) _ (by rfl) (by rfl) LZ.out ?_)
      | (refine wq_td ?_)
      | (refine wq_call (by kernel_rfl) ?hent (fun w hSw => inB_laid hSw (OR.out w hSw)) ?_; (case hent => (intro w hSw; go_simp; done)))); (try simp only [zz]))
     refine wq_nil ?_
     intro wq hq
     have HK2 : Hid ((k : Int) ≤ 99999) := Lib.hid (by have h := HSl.out; omega)
     clear hm0 hm1 hm2 hk0 hk1
     have HQ := Lib.hid hq.below
     clear hq
     have RQ := Lib.hid (RB.out.below HQ.out RB.out.inHeap)
     have c0 := (FrAt.row hz65.out RQ.out).f
     rw [EF.out] at c0
     have hwq : Below wr.heap.size wr wq := HbA.out.trans (HQ.out.mono HbA.out.size)
     have hbq : wr.heap.size < wq.heap.size := by have := HWs.out; have := HQ.out.size; omega
     have Hwq := Lib.hid hwq
     have Hbq := Lib.hid hbq
     clear hwq hbq
     go_wp2_with fail
     refine (CL.out wq HQ.out).mono ?_
     rintro e w8 ⟨v8, rfl, h8⟩
     obtain ⟨A8, c8, e8, -⟩ := (h8.rows (fun _ _ => rfl)).parts
     subst e8
     have JN := joi_new FO.out Hbr.out Hwq.out Hbq.out h8 IZ1.out
     have RB8 := RQ.out.below h8.2 RQ.out.inHeap
     have f0 := RB8.free 0
     have c0 := (FrAt.row hz65.out RB8).f
     have RB9 : Row (w8.setCell ⟨wr.heap.size, 0, none⟩ (.slice A8 z.x.f.length c8)) wr.heap.size 31 (rfV ⟨.slice A8 z.x.f.length c8, z.nv, z.x⟩).toArray := by
      have h := RB8.stored 0 (.slice A8 z.x.f.length c8)
      rw [List.setIfInBounds_toArray] at h
      exact h
     have L9 := Lib.hid (FrAt.row (r := ⟨.slice A8 z.x.f.length c8, z.nv, z.x⟩) hz65.out RB9).all
     have JNH := Lib.hid JN
     have ONE : Hid (∀ u ∈ rfV ⟨.slice A8 z.x.f.length c8, z.nv, z.x⟩, u.oneCell' = true) := Lib.hid (fun u hu => by
      rcases List.mem_cons.1 hu with e | hu
      ·rw [e]; rfl
      ·exact hone.out u (List.mem_cons_of_mem _ hu))
     have hsz : (rfV ⟨.slice A8 z.x.f.length c8, z.nv, z.x⟩).length = 67 := rf_len hz65.out
     have OJ := JN.1.own.1
     have OR1 := fr_made1 (w8.setCell ⟨wr.heap.size, 0, none⟩ (.slice A8 z.x.f.length c8)) 31 ⟨.slice A8 z.x.f.length c8, z.nv, z.x⟩
     have hws : w1.heap.size ≤ (w8.setCell ⟨wr.heap.size, 0, none⟩ (.slice A8 z.x.f.length c8)).heap.size := Nat.le_trans Hbr.out.size JN.2.2.2.2.2.size
     have HJl := HB1.out.2.1
     clear JN RB9 h8 RB8
     go_wp2_with (first | refine wpList_mload (by rfl) _ (by rfl) (by rfl) L9.out ?_ | refine wpList_build1 rfl 22 31 _ rfl (by rfl) Tryz.underlying22 hi1 hy0 hy1 hsz ?_ | (at_builtin; refine wp_joins (f := rfV) (k := 67) rfl _ _ 22 rfl w1.heap.size 31 i1 (frA frZ) 568 Tryz.underlying22 hi1 hy0 hy1 hy2 frZ_size (by decide) rfl rfl (OJ.alloc _) OR1 ?d1 ?d2 ?d3 ?d4 ?d5 ?_))
     case d1 => (intro x hx; rw [List.mem_singleton.1 hx]; exact rf_len hz65.out)
     case d2 => (intro x hx; rw [List.mem_singleton.1 hx]; exact ONE.out)
     case d3 => (have h1 := HSl.out; unfold maxLen; rw [show ([(⟨.slice A8 z.x.f.length c8, z.nv, z.x⟩ : RFr)]).length = 1 from rfl]; have h2 := HJL.out; omega)
     case d4 => (have h1 := HSl.out; rw [show ([(⟨.slice A8 z.x.f.length c8, z.nv, z.x⟩ : RFr)]).length = 1 from rfl]; have h2 := HJL.out; omega)
     case d5 => (rw [World.size_alloc]; exact Nat.le_succ_of_le hws)
     intro v3 w3 own3 hg3 hn3
     have J3 := JO.push JNH.out.1 JNH.out.2.1 JNH.out.2.2.1 JNH.out.2.2.2.1 hz65.out JNH.out.2.2.2.2.1 (by simpa using own3) hg3 hn3
     obtain ⟨g3, c3, e3, -, -⟩ := J3.own.1.form (by simp)
     have e3 : v3 = .slice (some ⟨g3, 0, none⟩) ((J0 ++ [y] : List RFr).length + 1) c3 := by rw [e3, List.length_append]; rfl
     subst e3
     have HJ3 := Lib.hid J3
     clear own3 hg3 hn3 OJ OR1 J3
     have hk2 := HK2.out
     go_wp2_with fail
     exact ⟨⟨k + 1, by omega, by go_num, Or.inr ⟨J0 ++ [y], ⟨.slice A8 z.x.f.length c8, z.nv, z.x⟩, g3, c3, by first | rfl | simp, HJ3, Lib.hid (by rw [← HST.out, List.map_append (l₁ := J0 ++ [y])]; rfl)⟩⟩, by show ss.length - ((k : Int) + 1).toNat < ss.length - (k : Int).toNat; omega⟩
  ·obtain rfl : k = ss.length := by omega
   have hJall := joi_end hst HB.out HSl.out
   clear hst
   obtain ⟨js, hjs⟩ := hJall.out
   obtain ⟨hjF, hjl, hjx⟩ := hjs
   obtain ⟨C, cc, rfl, hcc⟩ := hjF.rws.parts
   have HJF := Lib.hid hjF
   have HJl := Lib.hid hjl
   have HJX := Lib.hid hjx
   have HJB : Hid (∀ x ∈ js, x.x.f.length ≤ 100000 ∧ Know.Sane x.x.f) := Lib.hid (fun x hx => by
    have hm : x.x ∈ Know.joinAll (ss.map (·.x)) := by rw [← hjx]; exact List.mem_map.2 ⟨x, hx, rfl⟩
    have h1 := HB.out ss.length (by rw [List.length_map]; exact Nat.le_refl _)
    rw [List.take_of_length_le (by rw [List.length_map]; exact Nat.le_refl _)] at h1
    exact ⟨Nat.le_trans (Know.many_mem hm) h1.1, h1.2.2 _ hm⟩)
   have hjl9 : (js.length : Int) ≤ 100000 := by omega
   clear hjF hjl hjx
   go_wp2_with fail
   go_loopw [53] (fun i W => ∃ m RS, m ≤ js.length ∧ i = .int .i64 (m : Nat) ∧ Hid (RS.length = js.length ∧ RS.map (·.x) = (js.take m).map (fun r => Know.normF r.x) ++ (js.drop m).map (·.x)) ∧ Hid (FOwn w1 RS (.slice C js.length cc) W)) (fun i _ => js.length - (intOf i).toNat)
   case atStart => exact ⟨0, js, Nat.zero_le _, rfl, Lib.hid ⟨rfl, by simp⟩, HJF⟩
   case round =>
    obtain ⟨m, RS, hm, rfl, hRS, hF⟩ := hrel
    by_cases hlt2 : m < js.length
    ·obtain ⟨g, cap2, e, -, -⟩ := hF.out.own.1.form (by have := hRS.out.1; omega)
     injection e with e1 e2 e3
     subst e1 e3
     clear e2
     obtain ⟨r, hr⟩ : ∃ r, RS[m]? = some r := ⟨_, List.getElem?_eq_getElem (by have := hRS.out.1; omega)⟩
     obtain ⟨z, hzr⟩ : ∃ z, js[m]? = some z := ⟨_, List.getElem?_eq_getElem hlt2⟩
     have hrx : r.x = z.x := by
      have := congrArg (fun L => L[m]?) hRS.out.2
      simp only [List.getElem?_map, hr, Option.map_some] at this
      rw [List.getElem?_append_right (by rw [List.length_map, List.length_take]; omega), List.length_map, List.length_take, Nat.min_eq_left hm, Nat.sub_self, List.getElem?_map, List.getElem?_drop, Nat.add_zero, hzr] at this
      simpa using this
     have hIn := hF.out.ins r (List.mem_of_getElem? hr)
     have hfb := HJB.out z (List.mem_of_getElem? hzr)
     rw [← hrx] at hfb
     have LE := Lib.hid (hF.out.at hr)
     have hone := Lib.hid hIn.one
     obtain ⟨W1, hW1⟩ : ∃ W1, W1 = wr.alloc (.cells (rfV r).toArray 31) := ⟨_, rfl⟩
     have hbA : Below wr.heap.size wr W1 := by rw [hW1]; exact (Below.refl _ _).alloc (Nat.le_refl _) _
     have FB : FrAt W1 wr.heap.size 0 r := by rw [hW1]; exact FrAt.made wr hIn.len _
     have hbx : wr.heap.size < W1.heap.size := by rw [hW1]; simp
     obtain ⟨A2, c2, eA, -⟩ := hIn.f.parts
     have c0 := FB.f
     have NF := Lib.hid (Z.norm (Rws.below hIn.f hbA) hfb.1 hfb.2 (fun c hc => Cov.right_bd (hfb.2 c hc)))
     rw [eA] at NF c0
     rw [hW1] at c0
     have HS : Hid ((Tryz.prog.info? 31).map (·.size) = some (rfV r).length ∧ (rfV frZ).toArray.size = (rfV r).length) := Lib.hid ⟨frSize hIn.len, by rw [rf_len hIn.len]; exact frZ_size⟩
     have FD := Lib.hid (hF.out.below hbA)
     have hx := Lib.hid hr
     have HRL := Lib.hid hRS.out.1
     have hgl : g < W1.heap.size := Nat.lt_of_lt_of_le (hF.out.own.1.lt g rfl).2 hbA.size
     have Hgl := Lib.hid hgl
     have hk0 : (0 : Int) ≤ (m : Int) := by omega
     have hk1 : (m : Int) < (js.length : Int) := by omega
     have HK1 : Hid (∀ fv nv, ((RS.set m ⟨fv, nv, Know.normF r.x⟩).length = js.length ∧ (RS.set m ⟨fv, nv, Know.normF r.x⟩).map (·.x) = (js.take (m + 1)).map (fun r => Know.normF r.x) ++ (js.drop (m + 1)).map (·.x))) := Lib.hid (fun fv nv => by
      refine ⟨by rw [List.length_set]; exact HRL.out, ?_⟩
      rw [List.map_set, hRS.out.2, List.set_append_right _ _ (by rw [List.length_map, List.length_take]; omega), List.length_map, List.length_take, Nat.min_eq_left hm, Nat.sub_self]
      obtain ⟨hh, e⟩ := List.getElem?_eq_some_iff.1 hzr
      rw [List.drop_eq_getElem_cons hh, List.map_cons, List.set_cons_zero, List.take_succ_eq_append_getElem hh, List.map_append, List.append_assoc, e, hrx]
      rfl)
     have HW1 := Lib.hid hW1
     clear hr hzr hrx hIn hfb hbA FB hbx hRS eA hF hgl
     go_wp2_with (first | refine wpList_mload (by rfl) _ (by rfl) (by rfl) LE.out.all ?_ | refine wpList_nstore (by rfl) _ _ (by rfl) (by rfl) (by rfl) HS.out.1 HS.out.2 hone.out ?_)
     refine (HW1.out ▸ NF.out).mono ?_
     rintro e w9 ⟨v9, rfl, h9, b9⟩
     have b9 : Below W1.heap.size W1 w9 := HW1.out ▸ b9
     have h9 : Cls w9 (NewIn W1 w9) v9 (Flt.norm r.x.f) := HW1.out ▸ h9
     obtain ⟨A9, c9, e9, -⟩ := h9.parts
     subst e9
     have F9 := FD.out.below b9
     have hx9 := F9.at hx.out
     have I9 := F9.ins r (List.mem_of_getElem? hx.out)
     have c9' := hx9.f
     have T9 := F9.there HRL.out hx.out 0 1 (by decide) 0 (by decide)
     have f9 := T9.2
     rw [Nat.add_zero] at f9
     have N9 : Cls w9 (Off (.slice (some ⟨g, 0, none⟩) js.length cc)) (.slice A9 (Flt.norm r.x.f).length c9) (Flt.norm r.x.f) := h9.mono (fun i hi e => by have e : some g = some i := e; injection e with e; have h1 := hi.1; have h2 := Hgl.out; omega)
     have F10 := F9.put (us := [.slice A9 (Flt.norm r.x.f).length c9]) (j := 0) HRL.out hx.out (by show 0 + 1 ≤ 67; decide) (rf_setF r (.slice A9 (Flt.norm r.x.f).length c9) (Flt.norm r.x.f)) ⟨N9, I9.no, I9.len⟩
     have F10 : Hid (FOwn w1 (RS.set m ⟨.slice A9 (Flt.norm r.x.f).length c9, r.nv, Know.normF r.x⟩) (.slice (some ⟨g, 0, none⟩) js.length cc) (w9.setCell ⟨g, m * 67, none⟩ (.slice A9 (Flt.norm r.x.f).length c9))) := Lib.hid F10
     clear h9 b9 F9 hx9 I9 T9 N9 c0
     go_wp2_with fail
     exact ⟨⟨m + 1, _, by omega, by go_num, Lib.hid (HK1.out _ _), F10⟩, by show js.length - ((m : Int) + 1).toNat < js.length - (m : Int).toNat; omega⟩
    ·obtain rfl : m = js.length := by omega
     have HM : Hid (RS.map (·.x) = (Know.joinAll (ss.map (·.x))).map Know.normF) := Lib.hid (by
      have h1 := hRS.out.2
      rw [List.take_length, List.drop_length, List.map_nil, List.append_nil] at h1
      rw [h1, ← HJX.out, List.map_map]; rfl)
     have HFin := Lib.hid (hF.out.since hW1.out)
     clear hRS hF
     go_wp2_with fail
     go_ret
     first | exact ⟨_, RS, ss.map (·.x), rfl, HFin.out, HP.out, HSr.out, HM.out⟩ | exact ⟨_, rfl, RS, HFin.out, ss.map (·.x), HP.out, HSr.out, HM.out⟩
end Go.Proofs.YtkcgmnhjofoeiaaGreat
