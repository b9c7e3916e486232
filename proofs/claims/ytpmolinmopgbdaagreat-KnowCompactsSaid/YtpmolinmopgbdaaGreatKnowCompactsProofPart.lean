/- Compacted for a filter, knowledge contains what it did, and has no item's claim that is needless: KnowCompacts's statement holds. -/
import Derived.Test.YtpmolinmopgbdaaGreatCom30
import Derived.Test.YtpmolinmopgbdaaGreatCom41
import Derived.Test.YtpmolinmopgbdaaGreatCom20
set_option maxRecDepth 100000
set_option linter.unusedVariables false
set_option linter.unusedSimpArgs false
set_option maxHeartbeats 12800000
namespace Go.Proofs.YtpmolinmopgbdaaGreat
open List renaming getElem_toArray → xz1, getElem_cons_zero → xz2, getElem_cons_succ → xz3, setIfInBounds_toArray → xz4, set_cons_zero → xz5, set_cons_succ → xz6
open Go.RowKit Go.Sort
theorem compact_ok {k d c : Know.K} {f : List Flt.Cl} (hk : Know.Ok k) (hd : Know.Canon k d) (h : Know.Compact k f c) : Know.Ok c := by
 have ef : c.frags = d.frags := Know.order_one (fun _ _ => Know.flt_asymm) h.upF hd.upF (fun x => by rw [h.frags, hd.frags])
 have sub : ∀ i ∈ c.items, i ∈ d.items := fun i hi => (hd.items i).2 ((h.items i).1 hi).1
 have od := Know.canon_ok hk hd
 have hn : c.items.Nodup := h.upI.imp (fun {a b} hab e => by rw [e] at hab; exact Ver.before_irrefl _ hab)
 exact ⟨by rw [ef]; exact od.fr, Nat.le_trans (Know.len_le hn sub) od.it, by rw [ef]; exact od.cl, by rw [ef]; exact od.wt, fun x hx => od.sane x (by rw [← ef]; exact hx), fun x hx => od.len x (by rw [← ef]; exact hx), fun x hx => od.no x (by rw [← ef]; exact hx), fun i hi => od.lenI i (sub i hi), fun i hi => od.bd i (sub i hi), fun i hi => od.bdI i (sub i hi)⟩
theorem whole_con (l : List Know.Fr) (i y : Ver.V) (f : List Flt.Cl) : Know.Contains ⟨l, []⟩ i y f ↔ Know.ByWhole l i y f := ⟨fun h => h.resolve_left (fun ⟨j, hj, _⟩ => by cases hj), Or.inr⟩
theorem kcompacts_walk (K : KnowOk) (V : VecOk) (Z : FilterOk) {w : World} {a b : Value} {rs : List RFr} {m : List Know.It} {item x : Ver.V} {c0 : Value} {f : List Flt.Cl} (hk : KnIn w a b rs m) (ha : AskIn w item x c0 f) :
  Calls Tryz.prog 7 #[.agg #[a, b], .agg (askV item x c0).toArray] w fun e w' => e = .returned (.bool true) ∧ Below w.heap.size w w' := by
 have mixed : Tryz.prog.follows .mixedOrders = true := by kernel_rfl
 have hz := knZero
 have cut := kn_cut hk
 obtain ⟨A, ca, rfl, -⟩ := hk.rows.parts
 obtain ⟨B, cb, rfl, -⟩ := hk.its.parts
 obtain ⟨U, cu, rfl, -⟩ := ha.f.parts
 obtain ⟨x1, x2⟩ := x
 obtain ⟨y1, y2⟩ := item
 rw [show Value.agg (askV ⟨y1, y2⟩ ⟨x1, x2⟩ (.slice U f.length cu)).toArray = .agg #[.int .i64 y1, .int .i64 y2, .int .i64 x1, .int .i64 x2, .slice U f.length cu] from rfl]
 have AW := Lib.hid (fun W => know_awake K V Z W)
 generalize hkk : Know.cutK ⟨rs.map (·.x), m⟩ = k at *
 obtain ⟨W0, hW0⟩ : ∃ W0, W0 = (w.alloc (.cells #[.slice A rs.length ca, .slice B m.length cb] 25)).alloc (.cells #[.int .i64 y1, .int .i64 y2, .int .i64 x1, .int .i64 x2, .slice U f.length cu] 30) := ⟨_, rfl⟩
 have hb0 : Below w.heap.size w W0 := by rw [hW0]; exact ((Below.refl _ _).alloc (Nat.le_refl _) _).alloc (by simp) _
 have r0 : Row W0 w.heap.size 25 #[.slice A rs.length ca, .slice B m.length cb] := by rw [hW0]; exact (Row.made w _ _).behindNew _
 have r1 : Row W0 (w.heap.size + 1) 30 #[.int .i64 y1, .int .i64 y2, .int .i64 x1, .int .i64 x2, .slice U f.length cu] := by
  rw [hW0]
  have := Row.made (w.alloc (.cells #[.slice A rs.length ca, .slice B m.length cb] 25)) 30 #[.int .i64 y1, .int .i64 y2, .int .i64 x1, .int .i64 x2, .slice U f.length cu]
  rwa [World.size_alloc] at this
 have SAN := Lib.hid (law15_Sane (hk.below hb0))
 rw [hkk] at SAN
 have R0 := Lib.hid r0
 have R1 := Lib.hid r1
 have HB0 := Lib.hid hb0
 have Ask := Lib.hid ha
 have Cut := Lib.hid cut
 have HS0 : Hid (w.heap.size < W0.heap.size) := Lib.hid r0.inHeap
 have HFa := Lib.hid ((Rws.below ha.f hb0 : Cls W0 (fun i => i < w.heap.size) (.slice U f.length cu) f))
 have c0 := r0.at 0
 have c1 := r0.at 1
 simp only [List.getElem?_toArray, List.getElem?_cons_zero, List.getElem?_cons_succ] at c0 c1
 clear cut ha
 clear hk hb0 r0 r1 hkk
 go_enter Tryz.func7, Tryz.ntmps7
 go_wp2_with fail
 rw [← hW0]
 clear hW0
 go_wp2_with fail
 refine (SAN.out).mono ?_
 rintro e w1 ⟨v1, rfl, hk1, hb1⟩
 obtain ⟨A1, m1, cp1, B1, n1, cp2, rfl⟩ := hk1.parts
 have q0 : Row w1 w.heap.size 25 #[.slice A rs.length ca, .slice B m.length cb] := R0.out.below hb1 R0.out.inHeap
 have T1 := Lib.hid q0.there2
 have K2 := kn_kept hk1 q0 HS0.out (.slice A1 m1 cp1) (.slice B1 n1 cp2)
 have Q2 := Row.put2 q0 (.slice A1 m1 cp1) (.slice B1 n1 cp2)
 have kk := put2_kept w1 w.heap.size (.slice A1 m1 cp1) (.slice B1 n1 cp2)
 have P2 := (R1.out.below hb1 R1.out.inHeap).kept kk (by omega)
 have F2 : Cls (w1.setCells w.heap.size 0 [.slice A1 m1 cp1, .slice B1 n1 cp2]) AnyB (.slice U f.length cu) f := ((Rws.below HFa.out hb1).kept kk (fun i hi e => by have hi : i < w.heap.size := hi; have e : i = w.heap.size := e; omega)).mono (fun _ _ => trivial)
 have B2 := put2_below (HB0.out.trans (hb1.mono HB0.out.size)) (HB0.out.trans (hb1.mono HB0.out.size)).size (b := w.heap.size) (Nat.le_refl _) (.slice A1 m1 cp1) (.slice B1 n1 cp2)
 have d4 := P2.at 4
 simp only [List.getElem?_toArray, List.getElem?_cons_zero, List.getElem?_cons_succ] at d4
 have LS := Lib.hid (law15_sane F2 Ask.out.fl (fun c hc => (Ask.out.fi c hc).1))
 clear hb1 q0 kk hk1 c0 c1 SAN
 go_wp2_with (refine wpList_mstore (by rfl) (.tmp 2) (.tmp 13) (by rfl) (by rfl) (by rfl) T1.out (knSize _ _) (two_one rfl rfl) ?_)
 generalize w1.setCells w.heap.size 0 [.slice A1 m1 cp1, .slice B1 n1 cp2] = W2 at *
 clear T1 d4
 refine (LS.out).mono ?_
 rintro e w3 ⟨v3, rfl, h3⟩
 have F3 := h3.rows (fun _ _ => rfl)
 obtain ⟨A3, c3, e3, -⟩ := F3.parts
 subst e3
 have b3 : Below W2.heap.size W2 w3 := h3.2
 have HB3 := Lib.hid (B2.trans (b3.mono B2.size))
 have HK := Lib.hid (fun (W : World) (h : Below w3.heap.size w3 W) => ((K2.kns.below b3).below h : Kns W AnyB (.agg #[.slice A1 m1 cp1, .slice B1 n1 cp2]) k))
 have SF := Lib.hid (fun (W : World) (h : Below w3.heap.size w3 W) => ((Rws.below F3 h).mono (fun _ _ => trivial) : Cls W AnyB (.slice A3 (Know.saneF f).length c3) (Know.saneF f)))
 have XC := Lib.hid (fun (W : World) (h : Below w3.heap.size w3 W) => (⟨((Q2.below b3 Q2.inHeap).below h (Q2.below b3 Q2.inHeap).inHeap).at 0, ((Q2.below b3 Q2.inHeap).below h (Q2.below b3 Q2.inHeap).inHeap).at 1, ((P2.below b3 P2.inHeap).below h (P2.below b3 P2.inHeap).inHeap).at 0, ((P2.below b3 P2.inHeap).below h (P2.below b3 P2.inHeap).inHeap).at 1, ((P2.below b3 P2.inHeap).below h (P2.below b3 P2.inHeap).inHeap).at 2, ((P2.below b3 P2.inHeap).below h (P2.below b3 P2.inHeap).inHeap).at 3⟩ : W.cell? ⟨w.heap.size, 0, none⟩ = some (.slice A1 m1 cp1) ∧ W.cell? ⟨w.heap.size, 1, none⟩ = some (.slice B1 n1 cp2) ∧ W.cell? ⟨w.heap.size + 1, 0, none⟩ = some (.int .i64 y1) ∧ W.cell? ⟨w.heap.size + 1, 1, none⟩ = some (.int .i64 y2) ∧ W.cell? ⟨w.heap.size + 1, 2, none⟩ = some (.int .i64 x1) ∧ W.cell? ⟨w.heap.size + 1, 3, none⟩ = some (.int .i64 x2)))
 clear h3 F3 b3 K2 Q2 P2 F2 B2 LS
 obtain ⟨q, hq⟩ : ∃ q : Bool, q = true ↔ Know.Contains k ⟨y1, y2⟩ ⟨x1, x2⟩ (Know.saneF f) := ⟨decide (Know.Contains k ⟨y1, y2⟩ ⟨x1, x2⟩ (Know.saneF f)), decide_eq_true_iff⟩
 have CM := Lib.hid (K.compact (HK.out w3 (Below.refl _ _)) (SF.out w3 (Below.refl _ _)) Cut.out.ok (saneF_ok f))
 obtain ⟨d0, d1, d2, d3, d4, d5⟩ := XC.out w3 (Below.refl _ _)
 have Hq := Lib.hid hq
 clear hq
 go_wp2_with fail
 refine (CM.out).mono ?_
 rintro e w5 ⟨v5, c, rfl, hc, hk5, b5⟩
 obtain ⟨p3, p4, rfl, hk5a, hk5b⟩ := hk5
 obtain ⟨P3, q3, rfl, -⟩ := hk5a.parts
 obtain ⟨P4, q4, rfl, -⟩ := hk5b.1.parts
 have hA5 : Below w5.heap.size w5 (w5.alloc (.cells #[.slice P3 c.frags.length q3, .slice P4 c.items.length q4] 25)) := (Below.refl _ _).alloc (Nat.le_refl _) _
 have r5 := Row.made w5 25 #[.slice P3 c.frags.length q3, .slice P4 c.items.length q4]
 have hb5 := b5.trans (hA5.mono b5.size)
 have B5 := Lib.hid hb5
 have HCf := Lib.hid (fun (W : World) (h : Below (w5.alloc (.cells #[.slice P3 c.frags.length q3, .slice P4 c.items.length q4] 25)).heap.size (w5.alloc (.cells #[.slice P3 c.frags.length q3, .slice P4 c.items.length q4] 25)) W) => (hk5a.below hA5).below h)
 have HCi := Lib.hid (fun (W : World) (h : Below (w5.alloc (.cells #[.slice P3 c.frags.length q3, .slice P4 c.items.length q4] 25)).heap.size (w5.alloc (.cells #[.slice P3 c.frags.length q3, .slice P4 c.items.length q4] 25)) W) => (hk5b.below hA5).below h)
 have R5 := Lib.hid r5
 have HCc := Lib.hid hc
 have CN : Know.Canon k ⟨c.frags, Know.items_of k.items⟩ := ⟨hc.frags, Know.items_kept _, hc.upF, Know.items_up _⟩
 have HO := Lib.hid (compact_ok Cut.out.ok CN hc)
 have HFo := Lib.hid (compact_form Cut.out.ok CN hc)
 clear d0 d1 d2 d3 d4 d5 b5 hA5 r5 hb5 hk5a hk5b hc CM CN
 go_wp2_with fail
 generalize w5.alloc (.cells #[.slice P3 c.frags.length q3, .slice P4 c.items.length q4] 25) = W at *
 have XE := Lib.hid (fun (W' : World) (h : InB W W') => And.intro (XC.out W' (B5.out.trans (h.below.mono B5.out.size))) (And.intro ((R5.out.below h.below R5.out.inHeap).at 0) ((R5.out.below h.below R5.out.inHeap).at 1)))
 have FO := Lib.hid (fun (W' : World) (h : InB W W') => ref_kform (⟨_, _, rfl, HCf.out W' h, HCi.out W' h⟩ : Kns W' AnyB (.agg #[.slice P3 c.frags.length q3, .slice P4 c.items.length q4]) c) HFo.out)
 have C2 := Lib.hid (fun (W' : World) (h : InB W W') => law_contains K ⟨y1, y2⟩ ⟨x1, x2⟩ q (⟨_, _, rfl, HCf.out W' h, HCi.out W' h⟩ : Kns W' AnyB (.agg #[.slice P3 c.frags.length q3, .slice P4 c.items.length q4]) c) (SF.out W' (B5.out.trans (h.below.mono B5.out.size))) HO.out (saneF_ok f) Ask.out.bv (Hq.out.trans (Know.compact_contains Cut.out.sane HCc.out _ _).symm))
 have RC := Lib.hid (fun (W' : World) (h : InB W W') => law_refcon ⟨y1, y2⟩ ⟨x1, x2⟩ q (HK.out W' (B5.out.trans (h.below.mono B5.out.size))) (SF.out W' (B5.out.trans (h.below.mono B5.out.size))) Cut.out.ok (Know.saneF_fine f) Hq.out)
 refine wp_region_below (by assumption) (by kernel_rfl) ?_
 refine wq_take (v := ?_) (by kernel_rfl) (by intro w hSw; have hXE := XE.out w hSw; go_simp; first | done | with_reducible rfl) ?_
 simp only [Act.put, xz1, xz2, xz3, xz4, xz5, xz6]
 (first | (refine wq_call (by kernel_rfl) ?hent (fun w hSw => inB_calls hSw (FO.out w hSw)) ?_; (case hent => (intro w hSw; go_simp; done))) | (refine wq_call (by kernel_rfl) ?hent (fun w hSw => inB_calls hSw (C2.out w hSw)) ?_; (case hent => (intro w hSw; go_simp; done))) | (refine wq_call (by kernel_rfl) ?hent (fun w hSw => inB_calls hSw (RC.out w hSw)) ?_; (case hent => (intro w hSw; go_simp; done))))
 simp only [Act.put, xz1, xz2, xz3, xz4, xz5, xz6]
 refine wq_td ?_
 simp only [Act.put, xz1, xz2, xz3, xz4, xz5, xz6]
 refine wq_td ?_
 simp only [Act.put, xz1, xz2, xz3, xz4, xz5, xz6]
 refine wq_take (v := ?_) (by kernel_rfl) (by intro w hSw; have hXE := XE.out w hSw; go_simp; first | done | with_reducible rfl) ?_
 simp only [Act.put, xz1, xz2, xz3, xz4, xz5, xz6]
 refine wq_td ?_
 simp only [Act.put, xz1, xz2, xz3, xz4, xz5, xz6]
 refine wq_take (v := ?_) (by kernel_rfl) (by intro w hSw; have hXE := XE.out w hSw; go_simp; first | done | with_reducible rfl) ?_
 simp only [Act.put, xz1, xz2, xz3, xz4, xz5, xz6]
 refine wq_td ?_
 simp only [Act.put, xz1, xz2, xz3, xz4, xz5, xz6]
 refine wq_take (v := ?_) (by kernel_rfl) (by intro w hSw; have hXE := XE.out w hSw; go_simp; first | done | with_reducible rfl) ?_
 simp only [Act.put, xz1, xz2, xz3, xz4, xz5, xz6]
 refine wq_td ?_
 simp only [Act.put, xz1, xz2, xz3, xz4, xz5, xz6]
 (first | (refine wq_call (by kernel_rfl) ?hent (fun w hSw => inB_calls hSw (FO.out w hSw)) ?_; (case hent => (intro w hSw; go_simp; done))) | (refine wq_call (by kernel_rfl) ?hent (fun w hSw => inB_calls hSw (C2.out w hSw)) ?_; (case hent => (intro w hSw; go_simp; done))) | (refine wq_call (by kernel_rfl) ?hent (fun w hSw => inB_calls hSw (RC.out w hSw)) ?_; (case hent => (intro w hSw; go_simp; done))))
 simp only [Act.put, xz1, xz2, xz3, xz4, xz5, xz6]
 refine wq_take (v := ?_) (by kernel_rfl) (by intro w hSw; have hXE := XE.out w hSw; go_simp; first | done | with_reducible rfl) ?_
 simp only [Act.put, xz1, xz2, xz3, xz4, xz5, xz6]
 refine wq_td ?_
 simp only [Act.put, xz1, xz2, xz3, xz4, xz5, xz6]
 refine wq_take (v := ?_) (by kernel_rfl) (by intro w hSw; have hXE := XE.out w hSw; go_simp; first | done | with_reducible rfl) ?_
 simp only [Act.put, xz1, xz2, xz3, xz4, xz5, xz6]
 refine wq_td ?_
 simp only [Act.put, xz1, xz2, xz3, xz4, xz5, xz6]
 refine wq_take (v := ?_) (by kernel_rfl) (by intro w hSw; have hXE := XE.out w hSw; go_simp; first | done | with_reducible rfl) ?_
 simp only [Act.put, xz1, xz2, xz3, xz4, xz5, xz6]
 refine wq_td ?_
 simp only [Act.put, xz1, xz2, xz3, xz4, xz5, xz6]
 (first | (refine wq_call (by kernel_rfl) ?hent (fun w hSw => inB_calls hSw (FO.out w hSw)) ?_; (case hent => (intro w hSw; go_simp; done))) | (refine wq_call (by kernel_rfl) ?hent (fun w hSw => inB_calls hSw (C2.out w hSw)) ?_; (case hent => (intro w hSw; go_simp; done))) | (refine wq_call (by kernel_rfl) ?hent (fun w hSw => inB_calls hSw (RC.out w hSw)) ?_; (case hent => (intro w hSw; go_simp; done))))
 simp only [Act.put, xz1, xz2, xz3, xz4, xz5, xz6]
 refine wq_td ?_
 simp only [Act.put, xz1, xz2, xz3, xz4, xz5, xz6]
 refine wq_td ?_
 simp only [Act.put, xz1, xz2, xz3, xz4, xz5, xz6]
 refine wq_nil ?_
 intro wq hq
 have HQ1 := Lib.hid hq
 clear hq
 clear FO C2 RC Hq
 obtain ⟨-, e6, e7⟩ := XE.out _ HQ1.out
 go_wp2_with fail
 have hA6 : Below wq.heap.size wq (wq.alloc (.cells #[.slice P3 c.frags.length q3, .slice none 0 0] 25)) := (Below.refl _ _).alloc (Nat.le_refl _) _
 have r6 := Row.made wq 25 #[.slice P3 c.frags.length q3, .slice none 0 0]
 have B6 := Lib.hid (HQ1.out.below.trans (hA6.mono HQ1.out.below.size))
 have R6 := Lib.hid r6
 have hil : (c.items.length : Int) ≤ 99999 := by have := HO.out.it; omega
 clear hA6 r6 e6 e7
 generalize hwq : wq.heap.size = nq at *
 clear hwq
 generalize wq.alloc (.cells #[.slice P3 c.frags.length q3, .slice none 0 0] 25) = W6 at *
 clear HQ1
 have XF := Lib.hid (fun (W' : World) (h : Below W6.heap.size W6 W') => (⟨(R5.out.below (B6.out.trans (h.mono B6.out.size)) R5.out.inHeap).at 1, (R6.out.below h R6.out.inHeap).at 0, (R6.out.below h R6.out.inHeap).at 1⟩ : W'.cell? ⟨w5.heap.size, 1, none⟩ = some (.slice P4 c.items.length q4) ∧ W'.cell? ⟨nq, 0, none⟩ = some (.slice P3 c.frags.length q3) ∧ W'.cell? ⟨nq, 1, none⟩ = some (.slice none 0 0)))
 go_loopw [8] (fun i wr => ∃ n : Nat, n ≤ c.items.length ∧ i = .int .i64 (n : Int) ∧ Hid (Below W6.heap.size W6 wr)) (fun i _ => c.items.length - (intOf i).toNat)
 case atStart => exact ⟨0, Nat.zero_le _, rfl, Lib.hid (Below.refl _ _)⟩
 case round =>
  obtain ⟨n, hn, rfl, hb⟩ := hrel
  obtain ⟨e0, e1, e2⟩ := XF.out _ hb.out
  by_cases hlt : n < c.items.length
  ·obtain ⟨bk, o, cap1, e, -, -, hbk⟩ := (HCi.out _ (Below.refl _ _)).1.block (by omega)
   injection e with g1 g2 g3
   subst g1 g3
   clear g2
   obtain ⟨⟨⟨i1, i2⟩, iv⟩, hx⟩ : ∃ x, c.items[n]? = some x := ⟨_, List.getElem?_eq_getElem hlt⟩
   have hxm := List.mem_of_getElem? hx
   have h65 : iv.length = 65 := HO.out.lenI _ hxm
   have LX := Lib.hid (fun (W' : World) (h : Below wr.heap.size wr W') => ItAt.elem (HCi.out W' (B6.out.trans ((hb.out.trans (h.mono hb.out.size)).mono B6.out.size))).1 hx h65)
   have V0 := Lib.hid (LX.out wr (Below.refl _ _)).v
   have EN := Lib.hid (ref_vends wr h65)
   have hns := ((HCc.out.items _).1 hxm).2
   have HNs := Lib.hid hns
   have hel : (Vec.ends iv).length ≤ 65 := by rw [← Vec.endsK_all]; exact Vec.endsK_len iv 65
   have hn0 : (0 : Int) ≤ (n : Int) := by omega
   have hn1 : (n : Int) < (c.items.length : Int) := by omega
   have hn2 : (n : Int) ≤ 99999 := by omega
   clear hx hxm h65 hns
   go_wp2_with (refine wpList_mload (by rfl) _ (by rfl) (by rfl) V0.out ?_)
   refine (EN.out).mono ?_
   rintro e w7 ⟨s7, rfl, h7⟩
   have F7 := h7.rows (fun _ _ => rfl)
   obtain ⟨A7, c7, e7, -⟩ := F7.parts
   subst e7
   have HF7 := Lib.hid F7
   have B7 := Lib.hid h7.2
   have hel0 : ((Vec.ends iv).length : Int) ≤ 65 := by omega
   clear h7 F7 e0 e1 e2 V0 EN hel
   go_wp2_with fail
   go_loopw [9, 11] (fun s9 i W' => ∃ m : Nat, m ≤ (Vec.ends iv).length ∧ i = .int .i64 (m : Int) ∧ Hid (∃ t : Bool, s9 = .bool t ∧ (t = true ↔ ∀ j y, j < m → (Vec.ends iv)[j]? = some y → Know.ByWhole c.frags ⟨i1, i2⟩ y (Know.saneF f))) ∧ Hid (Below w7.heap.size w7 W')) (fun _ i _ => (Vec.ends iv).length - (intOf i).toNat)
   case atStart => exact ⟨0, Nat.zero_le _, rfl, Lib.hid ⟨true, rfl, ⟨fun _ j y h => absurd h (Nat.not_lt_zero j), fun _ => rfl⟩⟩, Lib.hid (Below.refl _ _)⟩
   case round =>
    obtain ⟨m, hm, rfl, hfd, hb8⟩ := hrel
    obtain ⟨t, rfl, hft⟩ := hfd.out
    have HFt := Lib.hid hft
    clear hfd hft
    by_cases hlt2 : m < (Vec.ends iv).length
    ·obtain ⟨b2, o2, cap2, e, -, -, hb2⟩ := HF7.out.block (by omega)
     injection e with g1 g2 g3
     subst g1 g3
     clear g2
     obtain ⟨⟨z1, z2⟩, hy⟩ : ∃ y, (Vec.ends iv)[m]? = some y := ⟨_, List.getElem?_eq_getElem hlt2⟩
     have hm0 : (0 : Int) ≤ (m : Int) := by omega
     have hm1 : (m : Int) < ((Vec.ends iv).length : Int) := by omega
     have hm2 : (m : Int) ≤ 99999 := by omega
     have HY := Lib.hid hy
     have HB8 := Lib.hid (B7.out.trans (hb8.out.mono B7.out.size))
     have B68 := Lib.hid (hb.out.trans (HB8.out.mono hb.out.size))
     have XY := Lib.hid (fun (W' : World) (h : InB wr W') => (⟨XF.out W' (B68.out.trans (h.below.mono B68.out.size)), (LX.out W' (HB8.out.trans (h.below.mono HB8.out.size))).by_, (LX.out W' (HB8.out.trans (h.below.mono HB8.out.size))).n, Vrs.at (Rws.below HF7.out (hb8.out.trans (h.below.mono hb8.out.size))) HY.out⟩ : _ ∧ _ ∧ _ ∧ _))
     clear hy
     cases t
     ·have HNt : Hid (∃ t' : Bool, Value.bool false = .bool t' ∧ (t' = true ↔ ∀ j y, j < m + 1 → (Vec.ends iv)[j]? = some y → Know.ByWhole c.frags ⟨i1, i2⟩ y (Know.saneF f))) := Lib.hid ⟨false, rfl, ⟨fun h => (by cases h), fun h => HFt.out.2 (fun j y hj hy => h j y (by omega) hy)⟩⟩
      go_wp2_with fail
      refine wp_region_below (by assumption) (by kernel_rfl) ?_
      refine wq_td ?_
      simp only [Act.put, xz1, xz2, xz3, xz4, xz5, xz6]
      refine wq_td ?_
      simp only [Act.put, xz1, xz2, xz3, xz4, xz5, xz6]
      refine wq_skip (by kernel_rfl) ?_
      simp only [Act.put, xz1, xz2, xz3, xz4, xz5, xz6]
      refine wq_skip (by kernel_rfl) ?_
      simp only [Act.put, xz1, xz2, xz3, xz4, xz5, xz6]
      refine wq_skip (by kernel_rfl) ?_
      simp only [Act.put, xz1, xz2, xz3, xz4, xz5, xz6]
      refine wq_skip (by kernel_rfl) ?_
      simp only [Act.put, xz1, xz2, xz3, xz4, xz5, xz6]
      refine wq_skip (by kernel_rfl) ?_
      simp only [Act.put, xz1, xz2, xz3, xz4, xz5, xz6]
      refine wq_skip (by kernel_rfl) ?_
      simp only [Act.put, xz1, xz2, xz3, xz4, xz5, xz6]
      refine wq_skip (by kernel_rfl) ?_
      simp only [Act.put, xz1, xz2, xz3, xz4, xz5, xz6]
      refine wq_skip (by kernel_rfl) ?_
      simp only [Act.put, xz1, xz2, xz3, xz4, xz5, xz6]
      refine wq_skip (by kernel_rfl) ?_
      simp only [Act.put, xz1, xz2, xz3, xz4, xz5, xz6]
      refine wq_skip (by kernel_rfl) ?_
      simp only [Act.put, xz1, xz2, xz3, xz4, xz5, xz6]
      refine wq_skip (by kernel_rfl) ?_
      simp only [Act.put, xz1, xz2, xz3, xz4, xz5, xz6]
      refine wq_skip (by kernel_rfl) ?_
      simp only [Act.put, xz1, xz2, xz3, xz4, xz5, xz6]
      refine wq_skip (by kernel_rfl) ?_
      simp only [Act.put, xz1, xz2, xz3, xz4, xz5, xz6]
      refine wq_td ?_
      simp only [Act.put, xz1, xz2, xz3, xz4, xz5, xz6]
      refine wq_td ?_
      simp only [Act.put, xz1, xz2, xz3, xz4, xz5, xz6]
      refine wq_nil ?_
      intro wq hq
      have HQ1 := Lib.hid hq
      clear hq
      have HQ := Lib.hid (hb8.out.trans (HQ1.out.below.mono hb8.out.size))
      go_wp2_with fail
      exact ⟨⟨m + 1, by omega, by go_num, HNt, HQ⟩, by show (Vec.ends iv).length - ((m : Int) + 1).toNat < (Vec.ends iv).length - (m : Int).toNat; omega⟩
     ·obtain ⟨p, hp⟩ : ∃ p : Bool, p = true ↔ Know.ByWhole c.frags ⟨i1, i2⟩ ⟨z1, z2⟩ (Know.saneF f) := ⟨decide (Know.ByWhole c.frags ⟨i1, i2⟩ ⟨z1, z2⟩ (Know.saneF f)), decide_eq_true_iff⟩
      have HNt : Hid (∃ t' : Bool, Value.bool p = .bool t' ∧ (t' = true ↔ ∀ j y, j < m + 1 → (Vec.ends iv)[j]? = some y → Know.ByWhole c.frags ⟨i1, i2⟩ y (Know.saneF f))) := Lib.hid ⟨p, rfl, by
       rw [hp]
       constructor
       ·intro h j y hj hy
        by_cases e : j = m
        ·subst e
         rw [HY.out] at hy
         injection hy with hy
         rw [← hy]; exact h
        ·exact HFt.out.1 rfl j y (by omega) hy
       ·exact fun h => h m _ (Nat.lt_succ_self _) HY.out⟩
      have RW := Lib.hid (fun (W' : World) (h : InB wr W') => law_refcon ⟨i1, i2⟩ ⟨z1, z2⟩ p (⟨_, _, rfl, HCf.out W' (B6.out.trans ((B68.out.trans (h.below.mono B68.out.size)).mono B6.out.size)), Its.empty _ _ _ _⟩ : Kns W' AnyB (.agg #[.slice P3 c.frags.length q3, .slice none 0 0]) ⟨c.frags, []⟩) (SF.out W' (B5.out.trans ((B6.out.trans ((B68.out.trans (h.below.mono B68.out.size)).mono B6.out.size)).mono B5.out.size))) (⟨HO.out.fr, Nat.zero_le _, HO.out.cl, HO.out.wt, HO.out.sane, HO.out.len, HO.out.no, fun i hi => (by cases hi), fun i hi => (by cases hi), fun i hi => (by cases hi)⟩ : Know.Ok ⟨c.frags, []⟩) (Know.saneF_fine f) (hp.trans (whole_con _ _ _ _).symm))
      clear hp
      go_wp2_with fail
      refine wp_region_below (by assumption) (by kernel_rfl) ?_
      refine wq_td ?_
      simp only [Act.put, xz1, xz2, xz3, xz4, xz5, xz6]
      refine wq_td ?_
      simp only [Act.put, xz1, xz2, xz3, xz4, xz5, xz6]
      refine wq_take (v := ?_) (by kernel_rfl) (by intro w hSw; have hXY := XY.out w hSw; go_simp; first | done | with_reducible rfl) ?_
      simp only [Act.put, xz1, xz2, xz3, xz4, xz5, xz6]
      refine wq_td ?_
      simp only [Act.put, xz1, xz2, xz3, xz4, xz5, xz6]
      refine wq_take (v := ?_) (by kernel_rfl) (by intro w hSw; have hXY := XY.out w hSw; go_simp; first | done | with_reducible rfl) ?_
      simp only [Act.put, xz1, xz2, xz3, xz4, xz5, xz6]
      refine wq_td ?_
      simp only [Act.put, xz1, xz2, xz3, xz4, xz5, xz6]
      refine wq_td ?_
      simp only [Act.put, xz1, xz2, xz3, xz4, xz5, xz6]
      refine wq_td ?_
      simp only [Act.put, xz1, xz2, xz3, xz4, xz5, xz6]
      refine wq_take (v := ?_) (by kernel_rfl) (by intro w hSw; have hXY := XY.out w hSw; go_simp; first | done | with_reducible rfl) ?_
      simp only [Act.put, xz1, xz2, xz3, xz4, xz5, xz6]
      refine wq_td ?_
      simp only [Act.put, xz1, xz2, xz3, xz4, xz5, xz6]
      refine wq_td ?_
      simp only [Act.put, xz1, xz2, xz3, xz4, xz5, xz6]
      refine wq_td ?_
      simp only [Act.put, xz1, xz2, xz3, xz4, xz5, xz6]
      refine wq_take (v := ?_) (by kernel_rfl) (by intro w hSw; have hXY := XY.out w hSw; go_simp; first | done | with_reducible rfl) ?_
      simp only [Act.put, xz1, xz2, xz3, xz4, xz5, xz6]
      refine wq_td ?_
      simp only [Act.put, xz1, xz2, xz3, xz4, xz5, xz6]
      refine wq_call (by kernel_rfl) ?hent (fun w hSw => inB_calls hSw (RW.out w hSw)) ?_; (case hent => (intro w hSw; go_simp; done))
      simp only [Act.put, xz1, xz2, xz3, xz4, xz5, xz6]
      refine wq_td ?_
      simp only [Act.put, xz1, xz2, xz3, xz4, xz5, xz6]
      refine wq_td ?_
      simp only [Act.put, xz1, xz2, xz3, xz4, xz5, xz6]
      refine wq_nil ?_
      intro wq hq
      have HQ1 := Lib.hid hq
      clear hq
      have HQ := Lib.hid (hb8.out.trans (HQ1.out.below.mono hb8.out.size))
      go_wp2_with fail
      exact ⟨⟨m + 1, by omega, by go_num, HNt, HQ⟩, by show (Vec.ends iv).length - ((m : Int) + 1).toNat < (Vec.ends iv).length - (m : Int).toNat; omega⟩
    ·obtain rfl : m = (Vec.ends iv).length := by omega
     have htf : t = false := by
      cases t with
      | false => rfl
      | true => exact absurd (fun y hy => (by
        obtain ⟨j, hj⟩ := List.getElem?_of_mem hy
        exact HFt.out.1 rfl j y (List.getElem?_eq_some_iff.1 hj).1 hj)) HNs.out
     subst htf
     have HQ := Lib.hid (hb.out.trans ((B7.out.trans (hb8.out.mono B7.out.size)).mono hb.out.size))
     go_wp2_with fail
     exact ⟨⟨n + 1, by omega, by go_num, HQ⟩, by show c.items.length - ((n : Int) + 1).toNat < c.items.length - (n : Int).toNat; omega⟩
  ·obtain rfl : n = c.items.length := by omega
   go_wp2_with fail
   refine (AW.out _).mono ?_
   rintro e w9 ⟨rfl, h9⟩
   have HE := Lib.hid (HB3.out.trans ((B5.out.trans ((B6.out.trans ((hb.out.trans (h9.mono hb.out.size)).mono B6.out.size)).mono B5.out.size)).mono HB3.out.size))
   clear h9 e0 e1 e2
   go_wp2_with fail
   go_ret
   exact ⟨rfl, HE.out⟩
end Go.Proofs.YtpmolinmopgbdaaGreat
namespace Go.Proofs.YtpmolinmopgbdaaGreat
open Go.RowKit
open Go.ChangeShapes Go.WideShapes Go.ChangeAt
open Go.ChangeMaps (open_string shut_string)
theorem knowCompacts_lifted (os : Os) (started : os.Started) (H : Type) (enc : TypeId × Value → H) :
  ReturnsInHanded {} Tryz.checked os 7 .any (Rows.knowCompactsSpec.pre6 enc Tryz.prog Tryz.f7 Rows.knowCompactsRow.domain false) (Rows.knowCompactsSpec.post enc Tryz.prog Tryz.f7 false true false false) := by
 refine returnsInHanded_of_change_sized (C := Tryz.checked) own started (by kernel_rfl) Tryz.func7
  (ChangeSpec.witness6 (enc := enc) (C := Tryz.checked) false ⟨#[], #[.agg #[.slice none 0 0, .slice none 0 0], .agg #[.int .i64 0, .int .i64 0, .int .i64 0, .int .i64 0, .slice none 0 0]], []⟩ 8 (by kernel_rfl) (by kernel_rfl) (by kernel_rfl) (by kernel_rfl)) ?_
 intro W base args ds gs before hval0 hW _ hsz _
 have hval : ∀ (j : Nat) t v, Tryz.f7.params[j]? = some t → args[j]? = some v → Value.okWide Tryz.prog W .any base t v := hval0
 have hW0 := hW
 obtain ⟨p, q, hA0, hV, _, _, _⟩ := hW
 have hA : DataW.TrodAll enc Tryz.prog W 0 (fun _ => true) true Tryz.f7.params.toList args.toList ds p := hA0
 rw [Tryz.params7] at hA hval hsz
 obtain ⟨v0, vs0, d0, ds0, p0, q0, hargs, rfl, rfl, h0, r0⟩ := trodAll_cons hA
 obtain ⟨v1, vs1, d1, ds1, p1, q1, rfl, rfl, rfl, h1, r1⟩ := trodAll_cons r0
 obtain ⟨rfl, rfl, rfl⟩ := trodAll_nil r1
 obtain rfl : args = #[v0, v1] := by cases args; simp_all
 obtain ⟨ka, kb, krs, km, rfl, hk⟩ := open_know (okWide_struct Tryz.underlying25 (hval 0 25 v0 rfl rfl)) h0
 obtain ⟨ai, av, ac, af, rfl, ha⟩ := open_ask (okWide_struct Tryz.underlying30 (hval 1 30 v1 rfl rfl)) h1
 obtain ⟨rfl, rfl⟩ := trodVars_none hV
 refine (kcompacts_walk know_ok vec_ok filter_ok hk ha).mono fun e W' ⟨he, hg⟩ => ?_
 subst he
 exact ⟨_, rfl, law_done (by kernel_rfl) rfl hW0 rfl (by rw [Tryz.params7]; decide +kernel) hg⟩
theorem knowCompacts_over : Rows.knowCompactsRow.holds Tryz.pinned (OpenSpec.ofChange Rows.knowCompactsSpec) :=
 OpenClaim.holds_of_wide 7 Tryz.f7 rfl rfl rfl rfl rfl rfl rfl ⟨rfl, rfl, rfl, rfl, rfl⟩ rfl rfl rfl rfl rfl (by kernel_rfl) Tryz.func7 (by kernel_rfl)
  (of_decide_eq_true (by kernel_rfl)) (by unfold Func.isWrapper; first | (rw [if_pos (by decide +kernel)]; kernel_rfl) | (rw [if_neg (by decide +kernel)]; exact ⟨rfl, rfl⟩))
  (fun os started H enc _ => knowCompacts_lifted os started H enc)
theorem knowCompacts_holds : Rows.KnowCompactsSaid := knowCompacts_over
#print axioms knowCompacts_holds
end Go.Proofs.YtpmolinmopgbdaaGreat
