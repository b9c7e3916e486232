/- Behind an item is excepted nothing of it is contained, and of others what was: KnowExcept's statement holds. -/
import Derived.Test.YtpmolinmopgbdaaGreatCom31
import Derived.Test.YtpmolinmopgbdaaGreatCom42
import Derived.Test.YtpmolinmopgbdaaGreatCom21
set_option maxRecDepth 100000
set_option linter.unusedVariables false
set_option linter.unusedSimpArgs false
set_option maxHeartbeats 12800000
namespace Go.Proofs.YtpmolinmopgbdaaGreat
open List renaming getElem_toArray → z1, getElem_cons_zero → z2, getElem_cons_succ → z3, setIfInBounds_toArray → z4, set_cons_zero → z5, set_cons_succ → z6
open Go.RowKit Go.Sort
theorem kexcept_walk (K : KnowOk) (V : VecOk) (Z : FilterOk) {w : World} {a b : Value} {rs : List RFr} {m : List Know.It} {it item x : Ver.V} {c0 : Value} {f : List Flt.Cl} (hk : KnIn w a b rs m) (ha : AskIn w item x c0 f) :
    Calls Tryz.prog 5 #[.agg #[a, b], verA it, .agg (askV item x c0).toArray] w fun e w' => e = .returned (.bool true) ∧ Below w.heap.size w w' := by
  have mixed : Tryz.prog.follows .mixedOrders = true := by kernel_rfl
  have cut := kn_cut hk
  obtain ⟨A, ca, rfl, -⟩ := hk.rows.parts
  obtain ⟨B, cb, rfl, -⟩ := hk.its.parts
  obtain ⟨U, cu, rfl, -⟩ := ha.f.parts
  obtain ⟨x1, x2⟩ := x
  obtain ⟨y1, y2⟩ := item
  obtain ⟨z1, z2⟩ := it
  rw [show Value.agg (askV ⟨y1, y2⟩ ⟨x1, x2⟩ (.slice U f.length cu)).toArray = .agg #[.int .i64 y1, .int .i64 y2, .int .i64 x1, .int .i64 x2, .slice U f.length cu] from rfl]
  have AW := Lib.hid (fun W => know_awake K V Z W)
  generalize hkk : Know.cutK ⟨rs.map (·.x), m⟩ = k at *
  obtain ⟨W0, hW0⟩ : ∃ W0, W0 = ((w.alloc (.cells #[.slice A rs.length ca, .slice B m.length cb] 25)).alloc (.cells #[.int .i64 z1, .int .i64 z2] 27)).alloc (.cells #[.int .i64 y1, .int .i64 y2, .int .i64 x1, .int .i64 x2, .slice U f.length cu] 30) := ⟨_, rfl⟩
  have hb0 : Below w.heap.size w W0 := by rw [hW0]; exact (((Below.refl _ _).alloc (Nat.le_refl _) _).alloc (by simp) _).alloc (by simp; omega) _
  have r0 : Row W0 w.heap.size 25 #[.slice A rs.length ca, .slice B m.length cb] := by rw [hW0]; exact ((Row.made w _ _).behindNew _).behindNew _
  have rI : Row W0 (w.heap.size + 1) 27 #[.int .i64 z1, .int .i64 z2] := by
    rw [hW0]
    have := (Row.made (w.alloc (.cells #[.slice A rs.length ca, .slice B m.length cb] 25)) 27 #[.int .i64 z1, .int .i64 z2]).behindNew (.cells #[.int .i64 y1, .int .i64 y2, .int .i64 x1, .int .i64 x2, .slice U f.length cu] 30)
    rwa [World.size_alloc] at this
  have r1 : Row W0 (w.heap.size + 1 + 1) 30 #[.int .i64 y1, .int .i64 y2, .int .i64 x1, .int .i64 x2, .slice U f.length cu] := by
    rw [hW0]
    have := Row.made ((w.alloc (.cells #[.slice A rs.length ca, .slice B m.length cb] 25)).alloc (.cells #[.int .i64 z1, .int .i64 z2] 27)) 30 #[.int .i64 y1, .int .i64 y2, .int .i64 x1, .int .i64 x2, .slice U f.length cu]
    rwa [World.size_alloc, World.size_alloc] at this
  have SAN := Lib.hid (law15_Sane (hk.below hb0))
  rw [hkk] at SAN
  have I := Lib.hid rI
  have R0 := Lib.hid r0
  have R1 := Lib.hid r1
  have HB0 := Lib.hid hb0
  have Ask := Lib.hid ha
  have Cut := Lib.hid cut
  have HS0 : Hid (w.heap.size < W0.heap.size) := Lib.hid r0.inHeap
  have HFa := Lib.hid ((Rws.below ha.f hb0 : Cls W0 (fun i => i < w.heap.size) (.slice U f.length cu) f))
  have c0 := r0.at 0
  have c1 := r0.at 1
  simp only [List.getElem?_toArray, List.getElem?_cons_zero, List.getElem?_cons_succ] at c0 c1
  clear cut ha
  clear hk hb0 r0 r1 hkk rI
  go_enter Tryz.func5, Tryz.ntmps5
  go_wp2_with fail
  rw [← hW0]
  clear hW0
  go_wp2_with fail
  refine (SAN.out).mono ?_
  rintro e w1 ⟨v1, rfl, hk1, hb1⟩
  obtain ⟨A1, m1, cp1, B1, n1, cp2, rfl⟩ := hk1.parts
  have q0 : Row w1 w.heap.size 25 #[.slice A rs.length ca, .slice B m.length cb] := R0.out.below hb1 R0.out.inHeap
  have T1 := Lib.hid q0.there2
  have K2 := kn_kept hk1 q0 HS0.out (.slice A1 m1 cp1) (.slice B1 n1 cp2)
  have Q2 := Row.put2 q0 (.slice A1 m1 cp1) (.slice B1 n1 cp2)
  have kk := put2_kept w1 w.heap.size (.slice A1 m1 cp1) (.slice B1 n1 cp2)
  have P2 := (R1.out.below hb1 R1.out.inHeap).kept kk (by omega)
  have F2 : Cls (w1.setCells w.heap.size 0 [.slice A1 m1 cp1, .slice B1 n1 cp2]) AnyB (.slice U f.length cu) f := ((Rws.below HFa.out hb1).kept kk (fun i hi e => by have hi : i < w.heap.size := hi; have e : i = w.heap.size := e; omega)).mono (fun _ _ => trivial)
  have B2 := put2_below (HB0.out.trans (hb1.mono HB0.out.size)) (HB0.out.trans (hb1.mono HB0.out.size)).size (b := w.heap.size) (Nat.le_refl _) (.slice A1 m1 cp1) (.slice B1 n1 cp2)
  have d4 := P2.at 4
  simp only [List.getElem?_toArray, List.getElem?_cons_zero, List.getElem?_cons_succ] at d4
  have I2 := (I.out.below hb1 I.out.inHeap).kept kk (by omega)
  have LS := Lib.hid (law15_sane F2 Ask.out.fl (fun c hc => (Ask.out.fi c hc).1))
  clear hb1 q0 kk hk1 c0 c1 SAN
  go_wp2_with (refine wpList_mstore (by rfl) (.tmp 3) (.tmp 11) (by rfl) (by rfl) (by rfl) T1.out (knSize _ _) (two_one rfl rfl) ?_)
  generalize w1.setCells w.heap.size 0 [.slice A1 m1 cp1, .slice B1 n1 cp2] = W2 at *
  clear T1 d4
  refine (LS.out).mono ?_
  rintro e w3 ⟨v3, rfl, h3⟩
  have F3 := h3.rows (fun _ _ => rfl)
  obtain ⟨A3, c3, e3, -⟩ := F3.parts
  subst e3
  have b3 : Below W2.heap.size W2 w3 := h3.2
  have HB3 := Lib.hid (B2.trans (b3.mono B2.size))
  have HK := Lib.hid (fun (W : World) (h : Below w3.heap.size w3 W) => ((K2.kns.below b3).below h : Kns W AnyB (.agg #[.slice A1 m1 cp1, .slice B1 n1 cp2]) k))
  have SF := Lib.hid (fun (W : World) (h : Below w3.heap.size w3 W) => ((Rws.below F3 h).mono (fun _ _ => trivial) : Cls W AnyB (.slice A3 (Know.saneF f).length c3) (Know.saneF f)))
  have XC := Lib.hid (fun (W : World) (h : Below w3.heap.size w3 W) => (⟨((Q2.below b3 Q2.inHeap).below h (Q2.below b3 Q2.inHeap).inHeap).at 0, ((Q2.below b3 Q2.inHeap).below h (Q2.below b3 Q2.inHeap).inHeap).at 1, ((P2.below b3 P2.inHeap).below h (P2.below b3 P2.inHeap).inHeap).at 0, ((P2.below b3 P2.inHeap).below h (P2.below b3 P2.inHeap).inHeap).at 1, ((P2.below b3 P2.inHeap).below h (P2.below b3 P2.inHeap).inHeap).at 2, ((P2.below b3 P2.inHeap).below h (P2.below b3 P2.inHeap).inHeap).at 3⟩ : W.cell? ⟨w.heap.size, 0, none⟩ = some (.slice A1 m1 cp1) ∧ W.cell? ⟨w.heap.size, 1, none⟩ = some (.slice B1 n1 cp2) ∧ W.cell? ⟨w.heap.size + 1 + 1, 0, none⟩ = some (.int .i64 y1) ∧ W.cell? ⟨w.heap.size + 1 + 1, 1, none⟩ = some (.int .i64 y2) ∧ W.cell? ⟨w.heap.size + 1 + 1, 2, none⟩ = some (.int .i64 x1) ∧ W.cell? ⟨w.heap.size + 1 + 1, 3, none⟩ = some (.int .i64 x2)))
  have I3 := Lib.hid (fun (W : World) (h : Below w3.heap.size w3 W) => (I2.below b3 I2.inHeap).below h (I2.below b3 I2.inHeap).inHeap)
  clear h3 F3 b3 K2 Q2 P2 F2 B2 LS I2
  obtain ⟨q, hq⟩ : ∃ q : Bool, q = true ↔ Know.Contains (Know.except k ⟨z1, z2⟩) ⟨y1, y2⟩ ⟨x1, x2⟩ (Know.saneF f) := ⟨decide (Know.Contains (Know.except k ⟨z1, z2⟩) ⟨y1, y2⟩ ⟨x1, x2⟩ (Know.saneF f)), decide_eq_true_iff⟩
  have EX := Lib.hid (K.except ⟨z1, z2⟩ (HK.out w3 (Below.refl _ _)) Cut.out.ok (Cut.out.except _).ok)
  obtain ⟨d0, d1, d2, d3, d4, d5⟩ := XC.out w3 (Below.refl _ _)
  have i0 := (I3.out w3 (Below.refl _ _)).at 0
  have i1 := (I3.out w3 (Below.refl _ _)).at 1
  simp only [List.getElem?_toArray, List.getElem?_cons_zero, List.getElem?_cons_succ] at i0 i1
  have Hq := Lib.hid hq
  clear hq
  go_wp2_with fail
  refine (EX.out).mono ?_
  rintro e w5 ⟨v5, c, rfl, hc, hk5, b5⟩
  obtain ⟨p3, p4, rfl, hk5a, hk5b⟩ := hk5
  obtain ⟨P3, q3, rfl, -⟩ := hk5a.parts
  obtain ⟨P4, q4, rfl, -⟩ := hk5b.1.parts
  have hA5 : Below w5.heap.size w5 (w5.alloc (.cells #[.slice P3 c.frags.length q3, .slice P4 c.items.length q4] 25)) := (Below.refl _ _).alloc (Nat.le_refl _) _
  have r5 := Row.made w5 25 #[.slice P3 c.frags.length q3, .slice P4 c.items.length q4]
  have hb5 := b5.trans (hA5.mono b5.size)
  have B5 := Lib.hid hb5
  have HC := Lib.hid (fun (W : World) (h : Below (w5.alloc (.cells #[.slice P3 c.frags.length q3, .slice P4 c.items.length q4] 25)).heap.size (w5.alloc (.cells #[.slice P3 c.frags.length q3, .slice P4 c.items.length q4] 25)) W) => ((⟨_, _, rfl, (hk5a.below hA5).below h, (hk5b.below hA5).below h⟩ : Kns W AnyB (.agg #[.slice P3 c.frags.length q3, .slice P4 c.items.length q4]) c)))
  have R5 := Lib.hid r5
  have HCc := Lib.hid hc
  have HO := Lib.hid (Know.canon_ok (Cut.out.except _).ok hc)
  obtain ⟨e0, e1, e2, e3, e4, e5⟩ := XC.out _ hb5
  have e6 := r5.at 0
  have e7 := r5.at 1
  simp only [List.getElem?_toArray, List.getElem?_cons_zero, List.getElem?_cons_succ] at e6 e7
  have C1 := Lib.hid (law_contains K ⟨y1, y2⟩ ⟨x1, x2⟩ q (HC.out _ (Below.refl _ _)) (SF.out _ hb5) HO.out (saneF_ok f) Ask.out.bv (Hq.out.trans (Know.canon_contains (Cut.out.except _).sane hc _ _ _).symm))
  clear d0 d1 d2 d3 d4 d5 i0 i1 b5 hA5 r5 hb5 hk5a hk5b hc EX
  go_wp2_with fail
  generalize w5.alloc (.cells #[.slice P3 c.frags.length q3, .slice P4 c.items.length q4] 25) = W5 at *
  refine (C1.out).mono ?_
  rintro e w6 ⟨rfl, h6⟩
  have B6 := Lib.hid h6
  have B36 := Lib.hid (B5.out.trans (h6.mono B5.out.size))
  clear h6 e0 e1 e2 e3 e4 e5 e6 e7 C1
  obtain ⟨e0, e1, e2, e3, e4, e5⟩ := XC.out _ B36.out
  have i0 := (I3.out w6 B36.out).at 0
  have i1 := (I3.out w6 B36.out).at 1
  simp only [List.getElem?_toArray, List.getElem?_cons_zero, List.getElem?_cons_succ] at i0 i1
  have FO := Lib.hid (fun (W : World) (h : Below W5.heap.size W5 W) => ref_kform (HC.out W h) (canon_form (Cut.out.except _).ok HCc.out))
  have X5 := Lib.hid (fun (W : World) (h : Below W5.heap.size W5 W) => (⟨(R5.out.below h R5.out.inHeap).at 0, (R5.out.below h R5.out.inHeap).at 1⟩ : W.cell? ⟨w5.heap.size, 0, none⟩ = some (.slice P3 c.frags.length q3) ∧ W.cell? ⟨w5.heap.size, 1, none⟩ = some (.slice P4 c.items.length q4)))
  by_cases hE : y1 = z1 ∧ y2 = z2
  · obtain ⟨rfl, rfl⟩ := hE
    have hqf : q = false := by
      cases q with
      | false => rfl
      | true => exact absurd (Hq.out.1 rfl) (Know.except_none k _ _ _)
    subst hqf
    go_wp2_with fail
    refine (AW.out _).mono ?_
    rintro e w7 ⟨rfl, h7⟩
    have B7 := Lib.hid (B6.out.trans (h7.mono B6.out.size))
    obtain ⟨t0, t1⟩ := X5.out _ B7.out
    clear h7 e0 e1 e2 e3 e4 e5 i0 i1
    go_wp2_with fail
    refine (FO.out _ B7.out).mono ?_
    rintro e w8 ⟨rfl, h8⟩
    have HE := Lib.hid (HB3.out.trans ((B5.out.trans ((B7.out.trans (h8.mono B7.out.size)).mono B5.out.size)).mono HB3.out.size))
    clear h8 t0 t1
    go_wp2_with fail
    go_ret
    exact ⟨rfl, HE.out⟩
  · have hne : (⟨y1, y2⟩ : Ver.V) ≠ ⟨z1, z2⟩ := fun h => hE (by injection h with h1 h2; exact ⟨h1, h2⟩)
    have RC := Lib.hid (fun (W : World) (h : Below w3.heap.size w3 W) => law_refcon ⟨y1, y2⟩ ⟨x1, x2⟩ q (HK.out W h) (SF.out W h) Cut.out.ok (Know.saneF_fine f) (Hq.out.trans (Know.except_other Cut.out.sane hne _ _)))
    clear hne
    by_cases h1 : y1 = z1
    · have h2 : ¬ y2 = z2 := fun h => hE ⟨h1, h⟩
      subst h1
      clear hE
      go_wp2_with fail
      refine (AW.out _).mono ?_
      rintro e w7 ⟨rfl, h7⟩
      have B7 := Lib.hid (B6.out.trans (h7.mono B6.out.size))
      obtain ⟨t0, t1⟩ := X5.out _ B7.out
      clear h7 e0 e1 e2 e3 e4 e5 i0 i1
      go_wp2_with fail
      refine (FO.out _ B7.out).mono ?_
      rintro e w8 ⟨rfl, h8⟩
      have B8 := Lib.hid (B5.out.trans ((B7.out.trans (h8.mono B7.out.size)).mono B5.out.size))
      obtain ⟨e0, e1, e2, e3, e4, e5⟩ := XC.out _ B8.out
      clear h8 t0 t1
      go_wp2_with fail
      refine (RC.out _ B8.out).mono ?_
      rintro e w9 ⟨rfl, h9⟩
      have HE := Lib.hid (HB3.out.trans ((B8.out.trans (h9.mono B8.out.size)).mono HB3.out.size))
      clear h9 e0 e1 e2 e3 e4 e5
      go_wp2_with fail
      go_ret
      exact ⟨by simp, HE.out⟩
    · clear hE
      go_wp2_with fail
      refine (AW.out _).mono ?_
      rintro e w7 ⟨rfl, h7⟩
      have B7 := Lib.hid (B6.out.trans (h7.mono B6.out.size))
      obtain ⟨t0, t1⟩ := X5.out _ B7.out
      clear h7 e0 e1 e2 e3 e4 e5 i0 i1
      go_wp2_with fail
      refine (FO.out _ B7.out).mono ?_
      rintro e w8 ⟨rfl, h8⟩
      have B8 := Lib.hid (B5.out.trans ((B7.out.trans (h8.mono B7.out.size)).mono B5.out.size))
      obtain ⟨e0, e1, e2, e3, e4, e5⟩ := XC.out _ B8.out
      clear h8 t0 t1
      go_wp2_with fail
      refine (RC.out _ B8.out).mono ?_
      rintro e w9 ⟨rfl, h9⟩
      have HE := Lib.hid (HB3.out.trans ((B8.out.trans (h9.mono B8.out.size)).mono HB3.out.size))
      clear h9 e0 e1 e2 e3 e4 e5
      go_wp2_with fail
      go_ret
      exact ⟨by simp, HE.out⟩
end Go.Proofs.YtpmolinmopgbdaaGreat
namespace Go.Proofs.YtpmolinmopgbdaaGreat
open Go.RowKit
open Go.ChangeShapes Go.WideShapes Go.ChangeAt
open Go.ChangeMaps (open_string shut_string)
theorem knowExcept_lifted (os : Os) (started : os.Started) (H : Type) (enc : TypeId × Value → H) :
    ReturnsInHanded {} Tryz.checked os 5 .any (Rows.knowExceptSpec.pre6 enc Tryz.prog Tryz.f5 Rows.knowExceptRow.domain false) (Rows.knowExceptSpec.post enc Tryz.prog Tryz.f5 false true false false) := by
  refine returnsInHanded_of_change_sized (C := Tryz.checked) own started (by kernel_rfl) Tryz.func5
    (ChangeSpec.witness6 (enc := enc) (C := Tryz.checked) false ⟨#[], #[.agg #[.slice none 0 0, .slice none 0 0], .agg #[.int .i64 0, .int .i64 0], .agg #[.int .i64 0, .int .i64 0, .int .i64 0, .int .i64 0, .slice none 0 0]], []⟩ 8 (by kernel_rfl) (by kernel_rfl) (by kernel_rfl) (by kernel_rfl)) ?_
  intro W base args ds gs before hval0 hW _ hsz _
  have hval : ∀ (j : Nat) t v, Tryz.f5.params[j]? = some t → args[j]? = some v → Value.okWide Tryz.prog W .any base t v := hval0
  have hW0 := hW
  obtain ⟨p, q, hA0, hV, _, _, _⟩ := hW
  have hA : DataW.TrodAll enc Tryz.prog W 0 (fun _ => true) true Tryz.f5.params.toList args.toList ds p := hA0
  rw [Tryz.params5] at hA hval hsz
  obtain ⟨v0, vs0, d0, ds0, p0, q0, hargs, rfl, rfl, h0, r0⟩ := trodAll_cons hA
  obtain ⟨v1, vs1, d1, ds1, p1, q1, rfl, rfl, rfl, h1, r1⟩ := trodAll_cons r0
  obtain ⟨v2, vs2, d2, ds2, p2, q2, rfl, rfl, rfl, h2, r2⟩ := trodAll_cons r1
  obtain ⟨rfl, rfl, rfl⟩ := trodAll_nil r2
  obtain rfl : args = #[v0, v1, v2] := by cases args; simp_all
  obtain ⟨ka, kb, krs, km, rfl, hk⟩ := open_know (okWide_struct Tryz.underlying25 (hval 0 25 v0 rfl rfl)) h0
  obtain ⟨xx, rfl, xbd⟩ := open_ver (okWide_struct Tryz.underlying27 (hval 1 27 v1 rfl rfl)) h1
  obtain ⟨ai, av, ac, af, rfl, ha⟩ := open_ask (okWide_struct Tryz.underlying30 (hval 2 30 v2 rfl rfl)) h2
  obtain ⟨rfl, rfl⟩ := trodVars_none hV
  refine (kexcept_walk know_ok vec_ok filter_ok (it := xx) hk ha).mono fun e W' ⟨he, hg⟩ => ?_
  subst he
  exact ⟨_, rfl, law_done (by kernel_rfl) rfl hW0 rfl (by rw [Tryz.params5]; decide +kernel) hg⟩
theorem knowExcept_over : Rows.knowExceptRow.holds Tryz.pinned (OpenSpec.ofChange Rows.knowExceptSpec) :=
  OpenClaim.holds_of_wide 5 Tryz.f5 rfl rfl rfl rfl rfl rfl rfl ⟨rfl, rfl, rfl, rfl, rfl⟩ rfl rfl rfl rfl rfl (by kernel_rfl) Tryz.func5 (by kernel_rfl)
    (of_decide_eq_true (by kernel_rfl)) (by unfold Func.isWrapper; first | (rw [if_pos (by decide +kernel)]; kernel_rfl) | (rw [if_neg (by decide +kernel)]; exact ⟨rfl, rfl⟩))
    (fun os started H enc _ => knowExcept_lifted os started H enc)
theorem knowExcept_holds : Rows.KnowExceptSaid := knowExcept_over
#print axioms knowExcept_holds
end Go.Proofs.YtpmolinmopgbdaaGreat
