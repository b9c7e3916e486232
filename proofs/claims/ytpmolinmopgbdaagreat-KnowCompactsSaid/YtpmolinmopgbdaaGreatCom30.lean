import Derived.Test.YtpmolinmopgbdaaGreatCom12
import Derived.Test.YtpmolinmopgbdaaGreatCom26
import Derived.Test.YtpmolinmopgbdaaGreatCom20
import Derived.Test.YtpmolinmopgbdaaGreatCom29
set_option maxRecDepth 100000
set_option linter.unusedVariables false
set_option linter.unusedSimpArgs false
set_option maxHeartbeats 12800000
namespace Go.Proofs.YtpmolinmopgbdaaGreat
open List renaming getElem_toArray → z1, getElem_cons_zero → z2, getElem_cons_succ → z3, setIfInBounds_toArray → z4, set_cons_zero → z5, set_cons_succ → z6
open Go.RowKit Go.Sort
theorem ver_equalSelf (w : World) (x1 x2 : Int) : (Op.equalIn 9999 27 (.agg #[.int .i64 x1, .int .i64 x2]) (.agg #[.int .i64 x1, .int .i64 x2])).run Tryz.prog w = .ok true w := by
 have hS : Tryz.prog.underlying 27 = some (.struct (Tryz.prog.fieldsOf 27)) := by kernel_rfl
 have hp : Tryz.prog.stoodInHeld 27 = false := by kernel_rfl
 have u3 := Tryz.underlying3
 have a3 := Tryz.isAgg3
 have z3 := Tryz.sizeOf3
 rw [show (9999 : Nat) = 9998 + 1 from rfl, run_equalIn_agg w 9998 27 _ _ hS hp]
 simp only [Program.fieldsOf, Tryz.underlying27]
 have hT : ∀ (w : World) (a b : Int), (Op.equalIn 9998 3 (.int .i64 a) (.int .i64 b)).run Tryz.prog w = .ok (a == b) w := fun w a b => run_equalIn_int w 9997 3 _ _ a b u3
 simp only [Op.eqFields]
 generalize Op.equalIn 9998 = EQ at hT ⊢
 go_simp
theorem it_equalSelf {x : Know.It} (hx : x.v.length = 65) (w : World) : (Op.equalIn 10000 50 (.agg (itV x).toArray) (.agg (itV x).toArray)).run Tryz.prog w = .ok true w := by
 have hS : Tryz.prog.underlying 50 = some (.struct (Tryz.prog.fieldsOf 50)) := by kernel_rfl
 have hp : Tryz.prog.stoodInHeld 50 = false := by kernel_rfl
 have u3 := Tryz.underlying3
 have hV : ∀ w, (Op.equalIn 9999 39 (.agg (vecL x.v).toArray) (.agg (vecL x.v).toArray)).run Tryz.prog w = .ok true w := fun w => by
  have h := vec_equalIn 9998 w hx hx (fun w a b => run_equalIn_int w 9997 3 _ _ a b u3)
  rwa [decide_eq_true rfl] at h
 have hW := fun w => ver_equalSelf w x.item.by_ x.item.n
 have z27 := Tryz.sizeOf27
 have a27 := Tryz.isAgg27
 have z39 := Tryz.sizeOf39
 have a39 := Tryz.isAgg39
 have px0 : ∀ w, (part 27 (itV x).toArray 0).run Tryz.prog w = .ok (.agg #[.int .i64 x.item.by_, .int .i64 x.item.n]) w := fun w => by
  have e : List.take 2 (itV x) = [.int .i64 x.item.by_, .int .i64 x.item.n] := rfl
  simp [part, a27, z27, e]
 have px2 : ∀ w, (part 39 (itV x).toArray 2).run Tryz.prog w = .ok (.agg (vecL x.v).toArray) w := fun w => by
  have e : List.take 65 (List.drop 2 (itV x)) = vecL x.v := by
   show (vecL x.v).take 65 = _
   exact List.take_of_length_le (by rw [vecL_len, hx]; exact Nat.le_refl _)
  simp [part, a39, z39, e]
 rw [show (10000 : Nat) = 9999 + 1 from rfl, run_equalIn_agg w 9999 50 _ _ hS hp]
 simp only [Program.fieldsOf, Tryz.underlying50]
 simp only [Op.eqFields]
 generalize Op.equalIn 9999 = EQ at hV hW ⊢
 generalize (itV x).toArray = X at *
 simp [px0, px2, hV, hW]
theorem ref_ksame {w : World} {F G : Nat → Prop} {u v : Value} {k : Know.K} (ha : Kns w F u k) (hb : Kns w G v k) (hl : k.frags.length ≤ 99999) (hm : k.items.length ≤ 99999) (bd : ∀ x ∈ k.frags, FrBd x) :
  Calls Tryz.prog 15 #[u, v] w fun e w' => e = .returned (.bool true) ∧ Below w.heap.size w w' := by
 have mixed : Tryz.prog.follows .mixedOrders = true := by kernel_rfl
 obtain ⟨a1, a2, rfl, ⟨rs, hrx, hrr, hri⟩, hia⟩ := ha
 obtain ⟨b1, b2, rfl, ⟨ss, hsx, hss, hsi⟩, hib⟩ := hb
 obtain ⟨A, ca, rfl, -⟩ := hrr.parts
 obtain ⟨B, cb, rfl, -⟩ := hia.1.parts
 obtain ⟨D, cd, rfl, -⟩ := hss.parts
 obtain ⟨E, ce, rfl, -⟩ := hib.1.parts
 have hll : ss.length = rs.length := by have h1 := congrArg List.length hrx; have h2 := congrArg List.length hsx; rw [List.length_map] at h1 h2; omega
 have hrl : rs.length ≤ 99999 := by have h1 := congrArg List.length hrx; rw [List.length_map] at h1; omega
 rw [hll]
 obtain ⟨W0, hW0⟩ : ∃ W0, W0 = (w.alloc (.cells #[.slice A rs.length ca, .slice B k.items.length cb] 25)).alloc (.cells #[.slice D rs.length cd, .slice E k.items.length ce] 25) := ⟨_, rfl⟩
 have hb0 : Below w.heap.size w W0 := by rw [hW0]; exact ((Below.refl _ _).alloc (Nat.le_refl _) _).alloc (by simp) _
 have r0 : Row W0 w.heap.size 25 #[.slice A rs.length ca, .slice B k.items.length cb] := by rw [hW0]; exact (Row.made w _ _).behindNew _
 have r1 : Row W0 (w.heap.size + 1) 25 #[.slice D rs.length cd, .slice E k.items.length ce] := by
  rw [hW0]
  have := Row.made (w.alloc (.cells #[.slice A rs.length ca, .slice B k.items.length cb] 25)) 25 #[.slice D rs.length cd, .slice E k.items.length ce]
  rwa [World.size_alloc] at this
 have XC := Lib.hid (fun (W : World) (h : Below W0.heap.size W0 W) => (⟨(r0.below h r0.inHeap).at 0, (r0.below h r0.inHeap).at 1, (r1.below h r1.inHeap).at 0, (r1.below h r1.inHeap).at 1⟩ : W.cell? ⟨w.heap.size, 0, none⟩ = some (.slice A rs.length ca) ∧ W.cell? ⟨w.heap.size, 1, none⟩ = some (.slice B k.items.length cb) ∧ W.cell? ⟨w.heap.size + 1, 0, none⟩ = some (.slice D rs.length cd) ∧ W.cell? ⟨w.heap.size + 1, 1, none⟩ = some (.slice E k.items.length ce)))
 have HR := Lib.hid (fun (W : World) (h : Below W0.heap.size W0 W) => Rws.below (Rws.below hrr hb0) h)
 have HS := Lib.hid (fun (W : World) (h : Below W0.heap.size W0 W) => (hll ▸ Rws.below (Rws.below hss hb0) h : Rws 67 rfV W G (.slice D rs.length cd) ss))
 have HN := Lib.hid (fun (W : World) (h : Below W0.heap.size W0 W) (r : RFr) (hr : r ∈ rs) => ((hri r hr).below hb0).below h)
 have HM := Lib.hid (fun (W : World) (h : Below W0.heap.size W0 W) (r : RFr) (hr : r ∈ ss) => ((hsi r hr).below hb0).below h)
 have HI := Lib.hid (fun (W : World) (h : Below W0.heap.size W0 W) => (hia.below hb0).below h)
 have HJ := Lib.hid (fun (W : World) (h : Below W0.heap.size W0 W) => (hib.below hb0).below h)
 have HE := Lib.hid (fun (n : Nat) (r s : RFr) (h1 : rs[n]? = some r) (h2 : ss[n]? = some s) => (by
  have e1 : k.frags[n]? = some r.x := by rw [← hrx, List.getElem?_map, h1]; rfl
  have e2 : k.frags[n]? = some s.x := by rw [← hsx, List.getElem?_map, h2]; rfl
  rw [e1] at e2; injection e2 with e2
  exact ⟨e2, List.mem_of_getElem? e1⟩ : r.x = s.x ∧ r.x ∈ k.frags))
 have HBd := Lib.hid bd
 have HLL := Lib.hid hll
 have HB0 := Lib.hid hb0
 have hf0 : (rs.length : Int) ≤ 99999 := by omega
 have hi0 : (k.items.length : Int) ≤ 99999 := by omega
 obtain ⟨c0, c1, c2, c3⟩ := XC.out W0 (Below.refl _ _)
 clear hrr hri hss hsi hia hib hrx hsx bd hb0 r0 r1 hll hrl hl hm
 go_enter Tryz.func15, Tryz.ntmps15
 go_wp2_with fail
 rw [← hW0]
 clear hW0
 go_wp2_with fail
 go_loopw [5] (fun i wr => ∃ n : Nat, n ≤ rs.length ∧ i = .int .i64 (n : Int) ∧ Hid (Below W0.heap.size W0 wr)) (fun i _ => rs.length - (intOf i).toNat)
 case atStart => exact ⟨0, Nat.zero_le _, rfl, Lib.hid (Below.refl _ _)⟩
 case round =>
  clear c0 c1 c2 c3
  obtain ⟨n, hn, rfl, hb⟩ := hrel
  obtain ⟨c0, c1, c2, c3⟩ := XC.out _ hb.out
  by_cases hlt : n < rs.length
  ·obtain ⟨bk, o, cap1, e, -, -, hbk⟩ := (HR.out W0 (Below.refl _ _)).block (by omega)
   injection e with e1 e2 e3
   subst e1 e3
   clear e2
   obtain ⟨bk2, o2, cap2, e, -, -, hbk2⟩ := (HS.out W0 (Below.refl _ _)).block (by have := HLL.out; omega)
   injection e with e1 e2 e3
   subst e1 e3
   clear e2
   obtain ⟨r, hr⟩ : ∃ r, rs[n]? = some r := ⟨_, List.getElem?_eq_getElem hlt⟩
   obtain ⟨s, hs⟩ : ∃ s, ss[n]? = some s := ⟨_, List.getElem?_eq_getElem (by have := HLL.out; omega)⟩
   have hrm := List.mem_of_getElem? hr
   have hsm := List.mem_of_getElem? hs
   obtain ⟨hx, hxm⟩ := HE.out n r s hr hs
   have hr65 := (HN.out W0 (Below.refl _ _) r hrm).len
   have hs65 := (HM.out W0 (Below.refl _ _) s hsm).len
   have LR := Lib.hid (fun (W : World) (h : InB wr W) => FrAt.elem (HR.out W (hb.out.trans (h.below.mono hb.out.size))) hr hr65)
   have LS := Lib.hid (fun (W : World) (h : InB wr W) => FrAt.elem (HS.out W (hb.out.trans (h.below.mono hb.out.size))) hs hs65)
   have XD := Lib.hid (fun (W : World) (h : InB wr W) => XC.out W (hb.out.trans (h.below.mono hb.out.size)))
   obtain ⟨A1, a1, e1, -⟩ := (HN.out W0 (Below.refl _ _) r hrm).no.parts
   obtain ⟨A2, a2, e2, -⟩ := (HM.out W0 (Below.refl _ _) s hsm).no.parts
   obtain ⟨B1, b1, g1, -⟩ := (HN.out W0 (Below.refl _ _) r hrm).f.parts
   obtain ⟨B2, b2, g2, -⟩ := (HM.out W0 (Below.refl _ _) s hsm).f.parts
   have SM := Lib.hid (fun (W : World) (h : InB wr W) => ref_vsame (HN.out W (hb.out.trans (h.below.mono hb.out.size)) r hrm).no (HM.out W (hb.out.trans (h.below.mono hb.out.size)) s hsm).no (HBd.out r.x hxm).no (hx ▸ (HBd.out r.x hxm).no))
   have EQ := Lib.hid (fun (W : World) (h : InB wr W) => ref_fequal (HN.out W (hb.out.trans (h.below.mono hb.out.size)) r hrm).f (HM.out W (hb.out.trans (h.below.mono hb.out.size)) s hsm).f (Nat.le_trans (HBd.out r.x hxm).f (by decide)) (hx ▸ Nat.le_trans (HBd.out r.x hxm).f (by decide)))
   rw [decide_eq_true (congrArg Know.Fr.no hx), e1, e2] at SM
   rw [decide_eq_true (congrArg Know.Fr.f hx), g1, g2] at EQ
   have ve := fun w => vec_eqL hr65 hs65 w
   rw [decide_eq_true (congrArg Know.Fr.v hx)] at ve
   have XN := Lib.hid (fun (W : World) (h : InB wr W) => (⟨(LR.out W h).no.trans (congrArg some e1), (LS.out W h).no.trans (congrArg some e2), (LR.out W h).f.trans (congrArg some g1), (LS.out W h).f.trans (congrArg some g2)⟩ : _ ∧ _ ∧ _ ∧ _))
   have V1 := Lib.hid (fun (W : World) (h : InB wr W) => (LR.out W h).v)
   have V2 := Lib.hid (fun (W : World) (h : InB wr W) => (LS.out W h).v)
   have hn0 : (0 : Int) ≤ (n : Int) := by omega
   have hn1 : (n : Int) < (rs.length : Int) := by omega
   have hn2 : (n : Int) ≤ 99999 := by omega
   clear e1 e2 g1 g2 hr hs hrm hsm hx hxm hr65 hs65 LR LS
   go_wp2_with fail
   refine wp_region_below (by assumption) (by kernel_rfl) ?_
   refine wq_td ?_
   simp only [Act.put, z1, z2, z3, z4, z5, z6]
   (first | (refine wq_mload (by kernel_rfl) _ (by rfl) (by rfl) V1.out ?_) | (refine wq_mload (by kernel_rfl) _ (by rfl) (by rfl) V2.out ?_) | (refine wq_take (v := ?_) (by kernel_rfl) (by intro w hSw; have hXD := XD.out w hSw; have hXN := XN.out w hSw; go_simp; first | done | with_reducible rfl) ?_))
   simp only [Act.put, z1, z2, z3, z4, z5, z6]
   refine wq_td ?_
   simp only [Act.put, z1, z2, z3, z4, z5, z6]
   refine wq_td ?_
   simp only [Act.put, z1, z2, z3, z4, z5, z6]
   refine wq_td ?_
   simp only [Act.put, z1, z2, z3, z4, z5, z6]
   (first | (refine wq_mload (by kernel_rfl) _ (by rfl) (by rfl) V1.out ?_) | (refine wq_mload (by kernel_rfl) _ (by rfl) (by rfl) V2.out ?_) | (refine wq_take (v := ?_) (by kernel_rfl) (by intro w hSw; have hXD := XD.out w hSw; have hXN := XN.out w hSw; go_simp; first | done | with_reducible rfl) ?_))
   simp only [Act.put, z1, z2, z3, z4, z5, z6]
   refine wq_td ?_
   simp only [Act.put, z1, z2, z3, z4, z5, z6]
   (first | (refine wq_mload (by kernel_rfl) _ (by rfl) (by rfl) V1.out ?_) | (refine wq_mload (by kernel_rfl) _ (by rfl) (by rfl) V2.out ?_) | (refine wq_take (v := ?_) (by kernel_rfl) (by intro w hSw; have hXD := XD.out w hSw; have hXN := XN.out w hSw; go_simp; first | done | with_reducible rfl) ?_))
   simp only [Act.put, z1, z2, z3, z4, z5, z6]
   refine wq_td ?_
   simp only [Act.put, z1, z2, z3, z4, z5, z6]
   refine wq_td ?_
   simp only [Act.put, z1, z2, z3, z4, z5, z6]
   refine wq_td ?_
   simp only [Act.put, z1, z2, z3, z4, z5, z6]
   (first | (refine wq_mload (by kernel_rfl) _ (by rfl) (by rfl) V1.out ?_) | (refine wq_mload (by kernel_rfl) _ (by rfl) (by rfl) V2.out ?_) | (refine wq_take (v := ?_) (by kernel_rfl) (by intro w hSw; have hXD := XD.out w hSw; have hXN := XN.out w hSw; go_simp; first | done | with_reducible rfl) ?_))
   simp only [Act.put, z1, z2, z3, z4, z5, z6]
   refine wq_td ?_
   simp only [Act.put, z1, z2, z3, z4, z5, z6]
   refine wq_td ?_
   simp only [Act.put, z1, z2, z3, z4, z5, z6]
   refine wq_td ?_
   simp only [Act.put, z1, z2, z3, z4, z5, z6]
   (first | (refine wq_mload (by kernel_rfl) _ (by rfl) (by rfl) V1.out ?_) | (refine wq_mload (by kernel_rfl) _ (by rfl) (by rfl) V2.out ?_) | (refine wq_take (v := ?_) (by kernel_rfl) (by intro w hSw; have hXD := XD.out w hSw; have hXN := XN.out w hSw; go_simp; first | done | with_reducible rfl) ?_))
   simp only [Act.put, z1, z2, z3, z4, z5, z6]
   refine wq_td ?_
   simp only [Act.put, z1, z2, z3, z4, z5, z6]
   refine wq_td ?_
   simp only [Act.put, z1, z2, z3, z4, z5, z6]
   refine wq_td ?_
   simp only [Act.put, z1, z2, z3, z4, z5, z6]
   (first | (refine wq_mload (by kernel_rfl) _ (by rfl) (by rfl) V1.out ?_) | (refine wq_mload (by kernel_rfl) _ (by rfl) (by rfl) V2.out ?_) | (refine wq_take (v := ?_) (by kernel_rfl) (by intro w hSw; have hXD := XD.out w hSw; have hXN := XN.out w hSw; go_simp; first | done | with_reducible rfl) ?_))
   simp only [Act.put, z1, z2, z3, z4, z5, z6]
   refine wq_td ?_
   simp only [Act.put, z1, z2, z3, z4, z5, z6]
   (first | (refine wq_mload (by kernel_rfl) _ (by rfl) (by rfl) V1.out ?_) | (refine wq_mload (by kernel_rfl) _ (by rfl) (by rfl) V2.out ?_) | (refine wq_take (v := ?_) (by kernel_rfl) (by intro w hSw; have hXD := XD.out w hSw; have hXN := XN.out w hSw; go_simp; first | done | with_reducible rfl) ?_))
   simp only [Act.put, z1, z2, z3, z4, z5, z6]
   refine wq_td ?_
   simp only [Act.put, z1, z2, z3, z4, z5, z6]
   refine wq_td ?_
   simp only [Act.put, z1, z2, z3, z4, z5, z6]
   refine wq_td ?_
   simp only [Act.put, z1, z2, z3, z4, z5, z6]
   (first | (refine wq_mload (by kernel_rfl) _ (by rfl) (by rfl) V1.out ?_) | (refine wq_mload (by kernel_rfl) _ (by rfl) (by rfl) V2.out ?_) | (refine wq_take (v := ?_) (by kernel_rfl) (by intro w hSw; have hXD := XD.out w hSw; have hXN := XN.out w hSw; go_simp; first | done | with_reducible rfl) ?_))
   simp only [Act.put, z1, z2, z3, z4, z5, z6]
   (first | (refine wq_call (by kernel_rfl) ?hent (fun w hSw => inB_calls hSw (SM.out w hSw)) ?_; (case hent => (intro w hSw; go_simp; done))) | (refine wq_call (by kernel_rfl) ?hent (fun w hSw => inB_calls hSw (EQ.out w hSw)) ?_; (case hent => (intro w hSw; go_simp; done))))
   simp only [Act.put, z1, z2, z3, z4, z5, z6]
   refine wq_td ?_
   simp only [Act.put, z1, z2, z3, z4, z5, z6]
   refine wq_td ?_
   simp only [Act.put, z1, z2, z3, z4, z5, z6]
   refine wq_td ?_
   simp only [Act.put, z1, z2, z3, z4, z5, z6]
   refine wq_td ?_
   simp only [Act.put, z1, z2, z3, z4, z5, z6]
   (first | (refine wq_mload (by kernel_rfl) _ (by rfl) (by rfl) V1.out ?_) | (refine wq_mload (by kernel_rfl) _ (by rfl) (by rfl) V2.out ?_) | (refine wq_take (v := ?_) (by kernel_rfl) (by intro w hSw; have hXD := XD.out w hSw; have hXN := XN.out w hSw; go_simp; first | done | with_reducible rfl) ?_))
   simp only [Act.put, z1, z2, z3, z4, z5, z6]
   refine wq_td ?_
   simp only [Act.put, z1, z2, z3, z4, z5, z6]
   refine wq_td ?_
   simp only [Act.put, z1, z2, z3, z4, z5, z6]
   refine wq_td ?_
   simp only [Act.put, z1, z2, z3, z4, z5, z6]
   (first | (refine wq_mload (by kernel_rfl) _ (by rfl) (by rfl) V1.out ?_) | (refine wq_mload (by kernel_rfl) _ (by rfl) (by rfl) V2.out ?_) | (refine wq_take (v := ?_) (by kernel_rfl) (by intro w hSw; have hXD := XD.out w hSw; have hXN := XN.out w hSw; go_simp; first | done | with_reducible rfl) ?_))
   simp only [Act.put, z1, z2, z3, z4, z5, z6]
   refine wq_td ?_
   simp only [Act.put, z1, z2, z3, z4, z5, z6]
   (first | (refine wq_mload (by kernel_rfl) _ (by rfl) (by rfl) V1.out ?_) | (refine wq_mload (by kernel_rfl) _ (by rfl) (by rfl) V2.out ?_) | (refine wq_take (v := ?_) (by kernel_rfl) (by intro w hSw; have hXD := XD.out w hSw; have hXN := XN.out w hSw; go_simp; first | done | with_reducible rfl) ?_))
   simp only [Act.put, z1, z2, z3, z4, z5, z6]
   refine wq_td ?_
   simp only [Act.put, z1, z2, z3, z4, z5, z6]
   refine wq_td ?_
   simp only [Act.put, z1, z2, z3, z4, z5, z6]
   refine wq_td ?_
   simp only [Act.put, z1, z2, z3, z4, z5, z6]
   (first | (refine wq_mload (by kernel_rfl) _ (by rfl) (by rfl) V1.out ?_) | (refine wq_mload (by kernel_rfl) _ (by rfl) (by rfl) V2.out ?_) | (refine wq_take (v := ?_) (by kernel_rfl) (by intro w hSw; have hXD := XD.out w hSw; have hXN := XN.out w hSw; go_simp; first | done | with_reducible rfl) ?_))
   simp only [Act.put, z1, z2, z3, z4, z5, z6]
   (first | (refine wq_call (by kernel_rfl) ?hent (fun w hSw => inB_calls hSw (SM.out w hSw)) ?_; (case hent => (intro w hSw; go_simp; done))) | (refine wq_call (by kernel_rfl) ?hent (fun w hSw => inB_calls hSw (EQ.out w hSw)) ?_; (case hent => (intro w hSw; go_simp; done))))
   simp only [Act.put, z1, z2, z3, z4, z5, z6]
   refine wq_td ?_
   simp only [Act.put, z1, z2, z3, z4, z5, z6]
   refine wq_td ?_
   simp only [Act.put, z1, z2, z3, z4, z5, z6]
   refine wq_nil ?_
   intro wq hq
   have HQ1 := Lib.hid hq
   clear hq
   have HQ := Lib.hid (hb.out.trans (HQ1.out.below.mono hb.out.size))
   go_wp2_with fail
   exact ⟨⟨n + 1, by omega, by go_num, HQ⟩, by show rs.length - ((n : Int) + 1).toNat < rs.length - (n : Int).toNat; omega⟩
  ·obtain rfl : n = rs.length := by omega
   go_wp2_with fail
   go_loopw [6] (fun i W => ∃ m : Nat, m ≤ k.items.length ∧ i = .int .i64 (m : Int) ∧ Hid (Below W0.heap.size W0 W)) (fun i _ => k.items.length - (intOf i).toNat)
   case atStart => exact ⟨0, Nat.zero_le _, rfl, hb⟩
   case round =>
    clear c0 c1 c2 c3 hb
    obtain ⟨m, hm, rfl, hb⟩ := hrel
    obtain ⟨c0, c1, c2, c3⟩ := XC.out _ hb.out
    by_cases hlt2 : m < k.items.length
    ·obtain ⟨bk, o, cap1, e, -, -, hbk⟩ := (HI.out W0 (Below.refl _ _)).1.block (by omega)
     injection e with e1 e2 e3
     subst e1 e3
     clear e2
     obtain ⟨bk2, o2, cap2, e, -, -, hbk2⟩ := (HJ.out W0 (Below.refl _ _)).1.block (by omega)
     injection e with e1 e2 e3
     subst e1 e3
     clear e2
     obtain ⟨x, hx⟩ : ∃ x, k.items[m]? = some x := ⟨_, List.getElem?_eq_getElem hlt2⟩
     have hx65 := (HI.out W0 (Below.refl _ _)).2 x (List.mem_of_getElem? hx)
     have XD := Lib.hid (fun (W : World) (h : InB wr W) => XC.out W (hb.out.trans (h.below.mono hb.out.size)))
     have L1 := Lib.hid (fun (W : World) (h : InB wr W) => (ItAt.elem (HI.out W (hb.out.trans (h.below.mono hb.out.size))).1 hx hx65).all)
     have L2 := Lib.hid (fun (W : World) (h : InB wr W) => (ItAt.elem (HJ.out W (hb.out.trans (h.below.mono hb.out.size))).1 hx hx65).all)
     have ve := fun w => it_equalSelf hx65 w
     have hm0 : (0 : Int) ≤ (m : Int) := by omega
     have hm1 : (m : Int) < (k.items.length : Int) := by omega
     have hm2 : (m : Int) ≤ 99999 := by omega
     clear hx hx65
     go_wp2_with fail
     refine wp_region_below (by assumption) (by kernel_rfl) ?_
     refine wq_td ?_
     simp only [Act.put, z1, z2, z3, z4, z5, z6]
     (first | (refine wq_mload (by kernel_rfl) _ (by rfl) (by rfl) L1.out ?_) | (refine wq_mload (by kernel_rfl) _ (by rfl) (by rfl) L2.out ?_) | (refine wq_take (v := ?_) (by kernel_rfl) (by intro w hSw; have hXD := XD.out w hSw; go_simp; first | done | with_reducible rfl) ?_))
     simp only [Act.put, z1, z2, z3, z4, z5, z6]
     refine wq_td ?_
     simp only [Act.put, z1, z2, z3, z4, z5, z6]
     refine wq_td ?_
     simp only [Act.put, z1, z2, z3, z4, z5, z6]
     (first | (refine wq_mload (by kernel_rfl) _ (by rfl) (by rfl) L1.out ?_) | (refine wq_mload (by kernel_rfl) _ (by rfl) (by rfl) L2.out ?_) | (refine wq_take (v := ?_) (by kernel_rfl) (by intro w hSw; have hXD := XD.out w hSw; go_simp; first | done | with_reducible rfl) ?_))
     simp only [Act.put, z1, z2, z3, z4, z5, z6]
     refine wq_td ?_
     simp only [Act.put, z1, z2, z3, z4, z5, z6]
     (first | (refine wq_mload (by kernel_rfl) _ (by rfl) (by rfl) L1.out ?_) | (refine wq_mload (by kernel_rfl) _ (by rfl) (by rfl) L2.out ?_) | (refine wq_take (v := ?_) (by kernel_rfl) (by intro w hSw; have hXD := XD.out w hSw; go_simp; first | done | with_reducible rfl) ?_))
     simp only [Act.put, z1, z2, z3, z4, z5, z6]
     refine wq_td ?_
     simp only [Act.put, z1, z2, z3, z4, z5, z6]
     refine wq_td ?_
     simp only [Act.put, z1, z2, z3, z4, z5, z6]
     (first | (refine wq_mload (by kernel_rfl) _ (by rfl) (by rfl) L1.out ?_) | (refine wq_mload (by kernel_rfl) _ (by rfl) (by rfl) L2.out ?_) | (refine wq_take (v := ?_) (by kernel_rfl) (by intro w hSw; have hXD := XD.out w hSw; go_simp; first | done | with_reducible rfl) ?_))
     simp only [Act.put, z1, z2, z3, z4, z5, z6]
     refine wq_td ?_
     simp only [Act.put, z1, z2, z3, z4, z5, z6]
     refine wq_nil ?_
     intro wq hq
     have HQ1 := Lib.hid hq
     clear hq
     have HQ := Lib.hid (hb.out.trans (HQ1.out.below.mono hb.out.size))
     go_wp2_with fail
     exact ⟨⟨m + 1, by omega, by go_num, HQ⟩, by show k.items.length - ((m : Int) + 1).toNat < k.items.length - (m : Int).toNat; omega⟩
    ·obtain rfl : m = k.items.length := by omega
     have HE := Lib.hid (HB0.out.trans (hb.out.mono HB0.out.size))
     go_wp2_with fail
     go_ret
     exact ⟨rfl, HE.out⟩
end Go.Proofs.YtpmolinmopgbdaaGreat
namespace Go.Proofs.YtpmolinmopgbdaaGreat
open Go.RowKit Go.Sort
theorem kn_kept {W w1 : World} {v : Value} {c : Know.K} {b m e n d : Nat} {t : TypeId} {A B : Option Addr} (h : KnNew W v c w1) (hr : Row w1 b t #[.slice A m e, .slice B n d]) (hb : b < W.heap.size) (x y : Value) : KnNew W v c (w1.setCells b 0 [x, y]) := by
 have KE := put2_kept w1 b x y
 obtain ⟨p, q, rs, e1, e2, h1, h2, h3⟩ := h
 refine ⟨p, q, rs, e1, e2, h1.kept KE (fun i hi e => by rw [e] at hi; omega), fun r hx => ?_, ?_⟩
 ·exact ⟨((cls_away (h2 r hx).f hr).kept KE (fun i hi e => hi e)).mono (fun _ _ => trivial), ((vrs_away (h2 r hx).no hr).kept KE (fun i hi e => hi e)).mono (fun _ _ => trivial), (h2 r hx).len⟩
 ·exact ((its_away h3 hr).kept KE (fun i hi e => hi e)).any
theorem row_kept2 {w : World} {b b' : Nat} {t : TypeId} {cs : Array Value} (h : Row w b t cs) (hne : b' ≠ b) (x y : Value) : Row (w.setCells b' 0 [x, y]) b t cs := (h.storedElsewhere (p := ⟨b', 0, none⟩) hne x).storedElsewhere (p := ⟨b', 0 + 1, none⟩) hne y
end Go.Proofs.YtpmolinmopgbdaaGreat
namespace Go.Proofs.YtpmolinmopgbdaaGreat
open List renaming getElem_toArray → z1, getElem_cons_zero → z2, getElem_cons_succ → z3, setIfInBounds_toArray → z4, set_cons_zero → z5, set_cons_succ → z6
open Go.RowKit Go.Sort
theorem law_contains (K : KnowOk) {w : World} {F G : Nat → Prop} {v u : Value} {k : Know.K} {f : List Flt.Cl} (i x : Ver.V) (q : Bool) (hv : Kns w F v k) (hu : Cls w G u f) (ok : Know.Ok k) (of : Cov.Ok f) (hx : Ver.Bd x) (hq : q = true ↔ Know.Contains k i x f) :
  Calls Tryz.prog 13 #[v, verA i, verA x, u] w fun e w' => e = .returned (.bool q) ∧ Below w.heap.size w w' :=
 (K.contains i x hv hu ok of hx).mono fun e w' h => by
  obtain ⟨⟨b, e1, e2⟩, h2⟩ := h
  have : b = q := by rw [Bool.eq_iff_iff, e2, hq]
  rw [e1, this]; exact ⟨rfl, h2⟩
theorem law_refcon {w : World} {F G : Nat → Prop} {v u : Value} {k : Know.K} {f : List Flt.Cl} (i x : Ver.V) (q : Bool) (hv : Kns w F v k) (hu : Cls w G u f) (ok : Know.Ok k) (of : f.length ≤ 24 ∧ ∀ c ∈ f, Flt.Right c) (hq : q = true ↔ Know.Contains k i x f) :
  Calls Tryz.prog 10 #[v, verA i, verA x, u] w fun e w' => e = .returned (.bool q) ∧ Below w.heap.size w w' :=
 (ref_kcontains i x hv hu (ok_kbd ok) (Nat.le_trans of.1 (by decide)) (fun c hc => by have := Cov.pre_small (of.2 c hc); omega)).mono fun e w' h => by
  obtain ⟨e1, h2⟩ := h
  have : decide (Know.Contains k i x f) = q := by rw [Bool.eq_iff_iff, decide_eq_true_iff, hq]
  rw [e1, this]; exact ⟨rfl, h2⟩
theorem law_same (K : KnowOk) {w : World} {F G : Nat → Prop} {u v : Value} {a b : Know.K} (ha : Kns w F u a) (hb : Kns w G v b) (ka : Know.Ok a) (kb : Know.Ok b) (h : ∃ c, Know.Canon a c ∧ Know.Canon b c) : Calls Tryz.prog 16 #[u, v] w fun e w' => e = .returned (.bool true) ∧ Below w.heap.size w w' :=
 (K.same ha hb ka kb).mono fun e w' hh => by
  obtain ⟨⟨t, e1, e2⟩, h2⟩ := hh
  rw [e1, e2.2 h]; exact ⟨rfl, h2⟩
theorem saneF_ok (f : List Flt.Cl) : Cov.Ok (Know.saneF f) := Know.cov_ok (Know.saneF_fine f).1 (Know.saneF_fine f).2
theorem kcontains_walk (K : KnowOk) (V : VecOk) (Z : FilterOk) {w : World} {a b : Value} {rs : List RFr} {m : List Know.It} {item x : Ver.V} {c0 : Value} {f : List Flt.Cl} (hk : KnIn w a b rs m) (ha : AskIn w item x c0 f) :
  Calls Tryz.prog 3 #[.agg #[a, b], .agg (askV item x c0).toArray] w fun e w' => e = .returned (.bool true) ∧ Below w.heap.size w w' := by
 have mixed : Tryz.prog.follows .mixedOrders = true := by kernel_rfl
 have cut := kn_cut hk
 obtain ⟨A, ca, rfl, -⟩ := hk.rows.parts
 obtain ⟨B, cb, rfl, -⟩ := hk.its.parts
 obtain ⟨U, cu, rfl, -⟩ := ha.f.parts
 obtain ⟨x1, x2⟩ := x
 obtain ⟨y1, y2⟩ := item
 rw [show Value.agg (askV ⟨y1, y2⟩ ⟨x1, x2⟩ (.slice U f.length cu)).toArray = .agg #[.int .i64 y1, .int .i64 y2, .int .i64 x1, .int .i64 x2, .slice U f.length cu] from rfl]
 have AW := Lib.hid (fun W => know_awake K V Z W)
 generalize hkk : Know.cutK ⟨rs.map (·.x), m⟩ = k at *
 obtain ⟨W0, hW0⟩ : ∃ W0, W0 = (w.alloc (.cells #[.slice A rs.length ca, .slice B m.length cb] 25)).alloc (.cells #[.int .i64 y1, .int .i64 y2, .int .i64 x1, .int .i64 x2, .slice U f.length cu] 30) := ⟨_, rfl⟩
 have hb0 : Below w.heap.size w W0 := by rw [hW0]; exact ((Below.refl _ _).alloc (Nat.le_refl _) _).alloc (by simp) _
 have r0 : Row W0 w.heap.size 25 #[.slice A rs.length ca, .slice B m.length cb] := by rw [hW0]; exact (Row.made w _ _).behindNew _
 have r1 : Row W0 (w.heap.size + 1) 30 #[.int .i64 y1, .int .i64 y2, .int .i64 x1, .int .i64 x2, .slice U f.length cu] := by
  rw [hW0]
  have := Row.made (w.alloc (.cells #[.slice A rs.length ca, .slice B m.length cb] 25)) 30 #[.int .i64 y1, .int .i64 y2, .int .i64 x1, .int .i64 x2, .slice U f.length cu]
  rwa [World.size_alloc] at this
 have SAN := Lib.hid (law15_Sane (hk.below hb0))
 rw [hkk] at SAN
 have R0 := Lib.hid r0
 have R1 := Lib.hid r1
 have HB0 := Lib.hid hb0
 have Ask := Lib.hid ha
 have Cut := Lib.hid cut
 have HS0 : Hid (w.heap.size < W0.heap.size) := Lib.hid r0.inHeap
 have HFa := Lib.hid ((Rws.below ha.f hb0 : Cls W0 (fun i => i < w.heap.size) (.slice U f.length cu) f))
 have c0 := r0.at 0
 have c1 := r0.at 1
 simp only [List.getElem?_toArray, List.getElem?_cons_zero, List.getElem?_cons_succ] at c0 c1
 clear cut ha
 clear hk hb0 r0 r1 hkk
 go_enter Tryz.func3, Tryz.ntmps3
 go_wp2_with fail
 rw [← hW0]
 clear hW0
 go_wp2_with fail
 refine (SAN.out).mono ?_
 rintro e w1 ⟨v1, rfl, hk1, hb1⟩
 obtain ⟨A1, m1, cp1, B1, n1, cp2, rfl⟩ := hk1.parts
 have q0 : Row w1 w.heap.size 25 #[.slice A rs.length ca, .slice B m.length cb] := R0.out.below hb1 R0.out.inHeap
 have T1 := Lib.hid q0.there2
 have K2 := kn_kept hk1 q0 HS0.out (.slice A1 m1 cp1) (.slice B1 n1 cp2)
 have Q2 := Row.put2 q0 (.slice A1 m1 cp1) (.slice B1 n1 cp2)
 have kk := put2_kept w1 w.heap.size (.slice A1 m1 cp1) (.slice B1 n1 cp2)
 have P2 := (R1.out.below hb1 R1.out.inHeap).kept kk (by omega)
 have F2 : Cls (w1.setCells w.heap.size 0 [.slice A1 m1 cp1, .slice B1 n1 cp2]) AnyB (.slice U f.length cu) f := ((Rws.below HFa.out hb1).kept kk (fun i hi e => by have hi : i < w.heap.size := hi; have e : i = w.heap.size := e; omega)).mono (fun _ _ => trivial)
 have B2 := put2_below (HB0.out.trans (hb1.mono HB0.out.size)) (HB0.out.trans (hb1.mono HB0.out.size)).size (b := w.heap.size) (Nat.le_refl _) (.slice A1 m1 cp1) (.slice B1 n1 cp2)
 have d4 := P2.at 4
 simp only [List.getElem?_toArray, List.getElem?_cons_zero, List.getElem?_cons_succ] at d4
 have LS := Lib.hid (law15_sane F2 Ask.out.fl (fun c hc => (Ask.out.fi c hc).1))
 clear hb1 q0 kk hk1 c0 c1 SAN
 go_wp2_with (refine wpList_mstore (by rfl) (.tmp 2) (.tmp 9) (by rfl) (by rfl) (by rfl) T1.out (knSize _ _) (two_one rfl rfl) ?_)
 generalize w1.setCells w.heap.size 0 [.slice A1 m1 cp1, .slice B1 n1 cp2] = W2 at *
 clear T1 d4
 refine (LS.out).mono ?_
 rintro e w3 ⟨v3, rfl, h3⟩
 have F3 := h3.rows (fun _ _ => rfl)
 obtain ⟨A3, c3, e3, -⟩ := F3.parts
 subst e3
 have b3 : Below W2.heap.size W2 w3 := h3.2
 have HB3 := Lib.hid (B2.trans (b3.mono B2.size))
 have HK := Lib.hid (fun (W : World) (h : Below w3.heap.size w3 W) => ((K2.kns.below b3).below h : Kns W AnyB (.agg #[.slice A1 m1 cp1, .slice B1 n1 cp2]) k))
 have SF := Lib.hid (fun (W : World) (h : Below w3.heap.size w3 W) => ((Rws.below F3 h).mono (fun _ _ => trivial) : Cls W AnyB (.slice A3 (Know.saneF f).length c3) (Know.saneF f)))
 have XC := Lib.hid (fun (W : World) (h : Below w3.heap.size w3 W) => (⟨((Q2.below b3 Q2.inHeap).below h (Q2.below b3 Q2.inHeap).inHeap).at 0, ((Q2.below b3 Q2.inHeap).below h (Q2.below b3 Q2.inHeap).inHeap).at 1, ((P2.below b3 P2.inHeap).below h (P2.below b3 P2.inHeap).inHeap).at 0, ((P2.below b3 P2.inHeap).below h (P2.below b3 P2.inHeap).inHeap).at 1, ((P2.below b3 P2.inHeap).below h (P2.below b3 P2.inHeap).inHeap).at 2, ((P2.below b3 P2.inHeap).below h (P2.below b3 P2.inHeap).inHeap).at 3⟩ : W.cell? ⟨w.heap.size, 0, none⟩ = some (.slice A1 m1 cp1) ∧ W.cell? ⟨w.heap.size, 1, none⟩ = some (.slice B1 n1 cp2) ∧ W.cell? ⟨w.heap.size + 1, 0, none⟩ = some (.int .i64 y1) ∧ W.cell? ⟨w.heap.size + 1, 1, none⟩ = some (.int .i64 y2) ∧ W.cell? ⟨w.heap.size + 1, 2, none⟩ = some (.int .i64 x1) ∧ W.cell? ⟨w.heap.size + 1, 3, none⟩ = some (.int .i64 x2)))
 clear h3 F3 b3 K2 Q2 P2 F2 B2 LS
 obtain ⟨q, hq⟩ : ∃ q : Bool, q = true ↔ Know.Contains k ⟨y1, y2⟩ ⟨x1, x2⟩ (Know.saneF f) := ⟨decide (Know.Contains k ⟨y1, y2⟩ ⟨x1, x2⟩ (Know.saneF f)), decide_eq_true_iff⟩
 have RC := Lib.hid (law_refcon ⟨y1, y2⟩ ⟨x1, x2⟩ q (HK.out w3 (Below.refl _ _)) (SF.out w3 (Below.refl _ _)) Cut.out.ok (Know.saneF_fine f) hq)
 have CN := Lib.hid (fun (W : World) (h : Below w3.heap.size w3 W) => K.canon (HK.out W h) Cut.out.ok)
 obtain ⟨d0, d1, d2, d3, d4, d5⟩ := XC.out w3 (Below.refl _ _)
 have Hq := Lib.hid hq
 clear hq
 go_wp2_with fail
 refine (RC.out).mono ?_
 rintro e w4 ⟨rfl, h4⟩
 have B4 := Lib.hid h4
 clear h4 d0 d1 d2 d3 d4 d5
 obtain ⟨d0, d1, -⟩ := XC.out w4 B4.out
 go_wp2_with fail
 refine (CN.out w4 B4.out).mono ?_
 rintro e w5 ⟨v5, c, rfl, hc, hk5, b5⟩
 obtain ⟨p3, p4, rfl, hk5a, hk5b⟩ := hk5
 obtain ⟨P3, q3, rfl, -⟩ := hk5a.parts
 obtain ⟨P4, q4, rfl, -⟩ := hk5b.1.parts
 have hA5 : Below w5.heap.size w5 (w5.alloc (.cells #[.slice P3 c.frags.length q3, .slice P4 c.items.length q4] 25)) := (Below.refl _ _).alloc (Nat.le_refl _) _
 have r5 := Row.made w5 25 #[.slice P3 c.frags.length q3, .slice P4 c.items.length q4]
 have hb5 := B4.out.trans ((b5.trans (hA5.mono b5.size)).mono B4.out.size)
 have B5 := Lib.hid hb5
 have HC := Lib.hid (fun (W : World) (h : Below (w5.alloc (.cells #[.slice P3 c.frags.length q3, .slice P4 c.items.length q4] 25)).heap.size (w5.alloc (.cells #[.slice P3 c.frags.length q3, .slice P4 c.items.length q4] 25)) W) => ((⟨_, _, rfl, (hk5a.below hA5).below h, (hk5b.below hA5).below h⟩ : Kns W AnyB (.agg #[.slice P3 c.frags.length q3, .slice P4 c.items.length q4]) c)))
 have R5 := Lib.hid r5
 have HCc := Lib.hid hc
 clear d0 d1 b5 hA5 r5 hb5 hk5a hk5b hc
 go_wp2_with fail
 generalize w5.alloc (.cells #[.slice P3 c.frags.length q3, .slice P4 c.items.length q4] 25) = W at *
 have XE := Lib.hid (fun (W' : World) (h : Below W.heap.size W W') => And.intro (XC.out W' (B5.out.trans (h.mono B5.out.size))) (And.intro ((R5.out.below h R5.out.inHeap).at 0) ((R5.out.below h R5.out.inHeap).at 1)))
 have HO := Lib.hid (Know.canon_ok Cut.out.ok HCc.out)
 have HKw := Lib.hid (fun (W' : World) (h : Below W.heap.size W W') => HK.out W' (B5.out.trans (h.mono B5.out.size)))
 have SFw := Lib.hid (fun (W' : World) (h : Below W.heap.size W W') => SF.out W' (B5.out.trans (h.mono B5.out.size)))
 have C1 := Lib.hid (fun (W' : World) (h : Below W.heap.size W W') => law_contains K ⟨y1, y2⟩ ⟨x1, x2⟩ q (HKw.out W' h) (SFw.out W' h) Cut.out.ok (saneF_ok f) Ask.out.bv Hq.out)
 have FO := Lib.hid (fun (W' : World) (h : Below W.heap.size W W') => ref_kform (HC.out W' h) (canon_form Cut.out.ok HCc.out))
 have C2 := Lib.hid (fun (W' : World) (h : Below W.heap.size W W') => law_contains K ⟨y1, y2⟩ ⟨x1, x2⟩ q (HC.out W' h) (SFw.out W' h) HO.out (saneF_ok f) Ask.out.bv (Hq.out.trans (Know.canon_contains Cut.out.ok.sane HCc.out _ _ _).symm))
 have CC := Lib.hid (fun (W' : World) (h : Below W.heap.size W W') => K.canon (HC.out W' h) HO.out)
 have SM := Lib.hid (fun (W' : World) (v : Value) (h : Below W.heap.size W W') (hv : Kns W' AnyB v c) => ref_ksame hv (HC.out W' h) (Nat.le_trans HO.out.fr (by decide)) (Nat.le_trans HO.out.it (by decide)) (ok_bd HO.out))
 have KS := Lib.hid (fun (W' : World) (h : Below W.heap.size W W') => law_same K (HKw.out W' h) (HC.out W' h) Cut.out.ok HO.out ⟨c, HCc.out, Know.canon_self HCc.out⟩)
 refine wp_region_held_drew (S := (fun w' : World => Below W.heap.size W w')) (by kernel_rfl) ((Below.refl _ _).drew) (fun hHeld => ?_)
 refine wpAnyH_ready (rs := [0]) (by kernel_rfl) (by simp) ?_
 refine AllReadyH.cons rfl (fun K hK => ?_) AllReadyH.nil
 go_simp
 go_at_call 12
 refine (AW.out _).mono ?_
 rintro e wa ⟨rfl, hbN⟩
 have hhN := hHeld.trans (hbN.mono hHeld.size)
 clear hbN
 refine hK.out _ _ hhN (fun hHeld => ?_)
 clear hhN
 clear hK K
 refine wpAnyH_td (i := 1) rfl ?_
 simp only [Act.put, z1, z2, z3, z4, z5, z6]
 refine wpAnyH_tk (i := 2) (v := ?_) rfl (Or.inl ⟨by rfl, (by intro w hSw; obtain ⟨⟨d0, d1, d2, d3, d4, d5⟩, d6, d7⟩ := XE.out _ hSw; go_simp; try with_reducible rfl)⟩) (by assumption) ?_
 simp only [Act.put, z1, z2, z3, z4, z5, z6]
 refine wpAnyH_td (i := 3) rfl ?_
 simp only [Act.put, z1, z2, z3, z4, z5, z6]
 refine wpAnyH_tk (i := 4) (v := ?_) rfl (Or.inl ⟨by rfl, (by intro w hSw; obtain ⟨⟨d0, d1, d2, d3, d4, d5⟩, d6, d7⟩ := XE.out _ hSw; go_simp; try with_reducible rfl)⟩) (by assumption) ?_
 simp only [Act.put, z1, z2, z3, z4, z5, z6]
 refine wpAnyH_td (i := 5) rfl ?_
 simp only [Act.put, z1, z2, z3, z4, z5, z6]
 refine wpAnyH_tk (i := 6) (v := ?_) rfl (Or.inl ⟨by rfl, (by intro w hSw; obtain ⟨⟨d0, d1, d2, d3, d4, d5⟩, d6, d7⟩ := XE.out _ hSw; go_simp; try with_reducible rfl)⟩) (by assumption) ?_
 simp only [Act.put, z1, z2, z3, z4, z5, z6]
 refine wpAnyH_td (i := 7) rfl ?_
 simp only [Act.put, z1, z2, z3, z4, z5, z6]
 refine wpAnyH_td (i := 9) rfl ?_
 simp only [Act.put, z1, z2, z3, z4, z5, z6]
 refine wpAnyH_ready (rs := [8]) (by kernel_rfl) (by simp) ?_
 refine AllReadyH.cons rfl (fun K hK => ?_) AllReadyH.nil
 go_simp
 go_at_call 13
 refine (C1.out _ hHeld).mono ?_
 rintro e wb ⟨rfl, hbN⟩
 have hhN := hHeld.trans (hbN.mono hHeld.size)
 clear hbN
 refine hK.out _ _ hhN (fun hHeld => ?_)
 clear hhN
 clear hK K
 refine wpAnyH_td (i := 10) rfl ?_
 simp only [Act.put, z1, z2, z3, z4, z5, z6]
 refine wpAnyH_td (i := 11) rfl ?_
 simp only [Act.put, z1, z2, z3, z4, z5, z6]
 refine wpAnyH_td (i := 12) rfl ?_
 simp only [Act.put, z1, z2, z3, z4, z5, z6]
 refine wpAnyH_tk (i := 13) (v := ?_) rfl (Or.inl ⟨by rfl, (by intro w hSw; obtain ⟨⟨d0, d1, d2, d3, d4, d5⟩, d6, d7⟩ := XE.out _ hSw; go_simp; try with_reducible rfl)⟩) (by assumption) ?_
 simp only [Act.put, z1, z2, z3, z4, z5, z6]
 refine wpAnyH_ready (rs := [14]) (by kernel_rfl) (by simp) ?_
 refine AllReadyH.cons rfl (fun K hK => ?_) AllReadyH.nil
 go_simp
 go_at_call 14
 refine (FO.out _ hHeld).mono ?_
 rintro e wc ⟨rfl, hbN⟩
 have hhN := hHeld.trans (hbN.mono hHeld.size)
 clear hbN
 refine hK.out _ _ hhN (fun hHeld => ?_)
 clear hhN
 clear hK K
 refine wpAnyH_td (i := 15) rfl ?_
 simp only [Act.put, z1, z2, z3, z4, z5, z6]
 refine wpAnyH_td (i := 16) rfl ?_
 simp only [Act.put, z1, z2, z3, z4, z5, z6]
 refine wpAnyH_tk (i := 17) (v := ?_) rfl (Or.inl ⟨by rfl, (by intro w hSw; obtain ⟨⟨d0, d1, d2, d3, d4, d5⟩, d6, d7⟩ := XE.out _ hSw; go_simp; try with_reducible rfl)⟩) (by assumption) ?_
 simp only [Act.put, z1, z2, z3, z4, z5, z6]
 refine wpAnyH_td (i := 18) rfl ?_
 simp only [Act.put, z1, z2, z3, z4, z5, z6]
 refine wpAnyH_tk (i := 19) (v := ?_) rfl (Or.inl ⟨by rfl, (by intro w hSw; obtain ⟨⟨d0, d1, d2, d3, d4, d5⟩, d6, d7⟩ := XE.out _ hSw; go_simp; try with_reducible rfl)⟩) (by assumption) ?_
 simp only [Act.put, z1, z2, z3, z4, z5, z6]
 refine wpAnyH_td (i := 20) rfl ?_
 simp only [Act.put, z1, z2, z3, z4, z5, z6]
 refine wpAnyH_tk (i := 21) (v := ?_) rfl (Or.inl ⟨by rfl, (by intro w hSw; obtain ⟨⟨d0, d1, d2, d3, d4, d5⟩, d6, d7⟩ := XE.out _ hSw; go_simp; try with_reducible rfl)⟩) (by assumption) ?_
 simp only [Act.put, z1, z2, z3, z4, z5, z6]
 refine wpAnyH_td (i := 22) rfl ?_
 simp only [Act.put, z1, z2, z3, z4, z5, z6]
 refine wpAnyH_td (i := 24) rfl ?_
 simp only [Act.put, z1, z2, z3, z4, z5, z6]
 refine wpAnyH_ready (rs := [23]) (by kernel_rfl) (by simp) ?_
 refine AllReadyH.cons rfl (fun K hK => ?_) AllReadyH.nil
 go_simp
 go_at_call 13
 refine (C2.out _ hHeld).mono ?_
 rintro e wd ⟨rfl, hbN⟩
 have hhN := hHeld.trans (hbN.mono hHeld.size)
 clear hbN
 refine hK.out _ _ hhN (fun hHeld => ?_)
 clear hhN
 clear hK K
 refine wpAnyH_td (i := 25) rfl ?_
 simp only [Act.put, z1, z2, z3, z4, z5, z6]
 refine wpAnyH_td (i := 26) rfl ?_
 simp only [Act.put, z1, z2, z3, z4, z5, z6]
 refine wpAnyH_td (i := 27) rfl ?_
 simp only [Act.put, z1, z2, z3, z4, z5, z6]
 refine wpAnyH_tk (i := 28) (v := ?_) rfl (Or.inl ⟨by rfl, (by intro w hSw; obtain ⟨⟨d0, d1, d2, d3, d4, d5⟩, d6, d7⟩ := XE.out _ hSw; go_simp; try with_reducible rfl)⟩) (by assumption) ?_
 simp only [Act.put, z1, z2, z3, z4, z5, z6]
 refine wpAnyH_tk (i := 30) (v := ?_) rfl (Or.inl ⟨by rfl, (by intro w hSw; obtain ⟨⟨d0, d1, d2, d3, d4, d5⟩, d6, d7⟩ := XE.out _ hSw; go_simp; try with_reducible rfl)⟩) (by assumption) ?_
 simp only [Act.put, z1, z2, z3, z4, z5, z6]
 refine wpAnyH_ready (rs := [29]) (by kernel_rfl) (by simp) ?_
 refine AllReadyH.cons rfl (fun K hK => ?_) AllReadyH.nil
 go_simp
 go_at_call 11
 refine (CC.out _ hHeld).mono ?_
 rintro e we ⟨ve, ce, rfl, hce, hve, hbN⟩
 have ece := canon_same HCc.out hce
 subst ece
 obtain ⟨s3, s4, rfl, hve1, hve2⟩ := hve
 obtain ⟨S3, t3, rfl, -⟩ := hve1.parts
 obtain ⟨S4, t4, rfl, -⟩ := hve2.1.parts
 have hhN := hHeld.trans (hbN.mono hHeld.size)
 have SM1 := Lib.hid (SM.out we _ hhN ⟨_, _, rfl, hve1, hve2⟩)
 clear hbN hce hve1 hve2
 refine hK.out _ _ hhN (fun hHeld => ?_)
 clear hhN
 clear hK K
 refine wpAnyH_ready (rs := [31]) (by kernel_rfl) (by simp) ?_
 refine AllReadyH.cons rfl (fun K hK => ?_) AllReadyH.nil
 go_simp
 go_at_call 15
 refine (SM1.out).mono ?_
 rintro e wf ⟨rfl, hbN⟩
 have hhN := hHeld.trans (hbN.mono hHeld.size)
 clear hbN
 refine hK.out _ _ hhN (fun hHeld => ?_)
 clear hhN
 clear hK K
 refine wpAnyH_td (i := 32) rfl ?_
 simp only [Act.put, z1, z2, z3, z4, z5, z6]
 refine wpAnyH_td (i := 33) rfl ?_
 simp only [Act.put, z1, z2, z3, z4, z5, z6]
 refine wpAnyH_tk (i := 34) (v := ?_) rfl (Or.inl ⟨by rfl, (by intro w hSw; obtain ⟨⟨d0, d1, d2, d3, d4, d5⟩, d6, d7⟩ := XE.out _ hSw; go_simp; try with_reducible rfl)⟩) (by assumption) ?_
 simp only [Act.put, z1, z2, z3, z4, z5, z6]
 refine wpAnyH_tk (i := 35) (v := ?_) rfl (Or.inl ⟨by rfl, (by intro w hSw; obtain ⟨⟨d0, d1, d2, d3, d4, d5⟩, d6, d7⟩ := XE.out _ hSw; go_simp; try with_reducible rfl)⟩) (by assumption) ?_
 simp only [Act.put, z1, z2, z3, z4, z5, z6]
 refine wpAnyH_ready (rs := [36]) (by kernel_rfl) (by simp) ?_
 refine AllReadyH.cons rfl (fun K hK => ?_) AllReadyH.nil
 go_simp
 go_at_call 16
 refine (KS.out _ hHeld).mono ?_
 rintro e wg ⟨rfl, hbN⟩
 have hhN := hHeld.trans (hbN.mono hHeld.size)
 clear hbN
 refine hK.out _ _ hhN (fun hHeld => ?_)
 clear hhN
 clear hK K
 refine wpAnyH_td (i := 37) rfl ?_
 simp only [Act.put, z1, z2, z3, z4, z5, z6]
 refine wpAnyH_td (i := 38) rfl ?_
 simp only [Act.put, z1, z2, z3, z4, z5, z6]
 refine wpAnyH_done (by kernel_rfl) ?_ _
 have HE := Lib.hid (HB3.out.trans ((B5.out.trans (hHeld.mono B5.out.size)).mono HB3.out.size))
 clear hHeld
 go_wp2_with fail
 go_ret
 exact ⟨rfl, HE.out⟩
end Go.Proofs.YtpmolinmopgbdaaGreat
