import Derived.Test.YtkcgmnhjofoeiaaGreatCom30
set_option maxRecDepth 100000
set_option linter.all false
set_option maxHeartbeats 102400000
namespace Go.Proofs.YtkcgmnhjofoeiaaGreat
open Go.RowKit Go.Sort
theorem take12 {k : Nat} {α : Type} {f : α → List Value} {w : World} {F : Nat → Prop} {A : Option Addr} {c : Nat} {l : List α} (h : Rws k f w F (.slice A l.length c) l) (hm : min l.length 12 ≤ c) : Rws k f w F (.slice A (min l.length 12) c) (l.take 12) := by
 have h1 := h.take rfl (min l.length 12) (Nat.min_le_left _ _) c hm
 have e : l.take (min l.length 12) = l.take 12 := by
  by_cases hl : l.length ≤ 12
  ·rw [Nat.min_eq_left hl, List.take_length, List.take_of_length_le hl]
  ·rw [Nat.min_eq_right (by omega)]
 rwa [e] at h1
theorem lies_row {ty : TypeId} {w : World} {b : Nat} {cs : List Value} (h : Row w b ty cs.toArray) (hs : (Tryz.prog.info? ty).map (·.size) = some cs.length) (hr : ∃ d, Tryz.prog.underlying ty = some d ∧ d.isRow = true := by exact ⟨_, Tryz.underlying31, rfl⟩) : Lies ty w b 0 cs := by
 have g := range_row h
 rw [← List.append_nil cs] at g
 exact lies_mid (p := []) g hr hs rfl
theorem kadds_walk (KO : KnowOk) (V : VecOk) (Z : FilterOk) {w : World} {a b : Value} {rs : List RFr} {m : List Know.It} {r : RFr} {bi bv : Ver.V} {bc : Value} {bf : List Flt.Cl} {item x : Ver.V} {ac : Value} {f : List Flt.Cl} (hk : KnIn w a b rs m) (hr : FrIn w r) (hb : AskIn w bi bv bc bf) (ha : AskIn w item x ac f) :
  Calls Tryz.prog 3 #[.agg ([a, b] ++ (rfV r ++ (askV bi bv bc ++ askV item x ac))).toArray] w fun e w' => e = .returned (.bool true) ∧ Below w.heap.size w w' := by
 have mixed : Tryz.prog.follows .mixedOrders = true := by kernel_rfl
 have cut := kn_cut hk
 obtain ⟨A, ca, rfl, -⟩ := hk.rows.parts
 obtain ⟨B, cb, rfl, -⟩ := hk.its.parts
 obtain ⟨U, cu, rfl, -⟩ := ha.f.parts
 obtain ⟨U2, cu2, rfl, -⟩ := hb.f.parts
 obtain ⟨b1, b2⟩ := bi
 obtain ⟨t1, t2⟩ := bv
 obtain ⟨y1, y2⟩ := item
 obtain ⟨x1, x2⟩ := x
 obtain ⟨rfv, rnv, rx⟩ := r
 obtain ⟨Af, cf, ef, -⟩ := hr.rin.f.parts
 have ef : rfv = .slice Af rx.f.length cf := ef
 subst ef
 obtain ⟨An, cn, en, hcn⟩ := hr.rin.no.parts
 have en : rnv = .slice An rx.no.length cn := en
 subst en
 have hcn : rx.no.length ≤ cn := hcn
 have AW := Lib.hid (fun W => know_awake KO V Z W)
 generalize hkk : Know.cutK ⟨rs.map (·.x), m⟩ = k at *
 obtain ⟨LST, hL⟩ : ∃ L, L = [Value.slice A rs.length ca, .slice B m.length cb] ++ (rfV ⟨.slice Af rx.f.length cf, .slice An rx.no.length cn, rx⟩ ++ (askV ⟨b1, b2⟩ ⟨t1, t2⟩ (.slice U2 bf.length cu2) ++ askV ⟨y1, y2⟩ ⟨x1, x2⟩ (.slice U f.length cu))) := ⟨_, rfl⟩
 obtain ⟨W0, hW0⟩ : ∃ W0, W0 = w.alloc (.cells LST.toArray 37) := ⟨_, rfl⟩
 have hb0 : Below w.heap.size w W0 := by rw [hW0]; exact (Below.refl _ _).alloc (Nat.le_refl _) _
 have r0 : Row W0 w.heap.size 37 LST.toArray := by rw [hW0]; exact Row.made w _ _
 have hrl : (rfV ⟨.slice Af rx.f.length cf, .slice An rx.no.length cn, rx⟩).length = 67 := rf_len hr.rin.len
 have XB := Lib.hid (fun (W : World) (h : Below W0.heap.size W0 W) => (by
  have g := range_row (r0.below h r0.inHeap)
  rw [hL] at g
  refine ⟨g 0 _ rfl, g 1 _ rfl, lies_mid (p := [Value.slice A rs.length ca, .slice B m.length cb]) g ⟨_, Tryz.underlying31, rfl⟩ (frSize hr.rin.len) rfl, ?_, ?_⟩
  ·rw [← List.append_assoc] at g
   exact lies_mid g ⟨_, Tryz.underlying35, rfl⟩ (askSize _ _ _) (by rw [List.length_append, hrl]; rfl)
  ·rw [← List.append_assoc, ← List.append_assoc] at g
   rw [← List.append_nil (askV ⟨y1, y2⟩ ⟨x1, x2⟩ (.slice U f.length cu))] at g
   exact lies_mid g ⟨_, Tryz.underlying35, rfl⟩ (askSize _ _ _) (by rw [List.length_append, List.length_append, hrl]; rfl) : W.cell? ⟨w.heap.size, 0, none⟩ = some (.slice A rs.length ca) ∧ W.cell? ⟨w.heap.size, 1, none⟩ = some (.slice B m.length cb) ∧ Lies 31 W w.heap.size 2 (rfV ⟨.slice Af rx.f.length cf, .slice An rx.no.length cn, rx⟩) ∧ Lies 35 W w.heap.size 69 (askV ⟨b1, b2⟩ ⟨t1, t2⟩ (.slice U2 bf.length cu2)) ∧ Lies 35 W w.heap.size 74 (askV ⟨y1, y2⟩ ⟨x1, x2⟩ (.slice U f.length cu))))
 have HB0 := Lib.hid hb0
 have HRL := Lib.hid hrl
 have HKw := Lib.hid hk
 have HRw := Lib.hid hr
 have H65 : Hid (rx.v.length = 65) := Lib.hid hr.rin.len
 have hnol : (rx.no.length : Int) ≤ 9223372036854775807 := by have h1 := hr.nl; have h2 : rx.no.length ≤ 9223372036854775807 := h1; omega
 have hmin0 : (0 : Int) ≤ ((min rx.no.length 12 : Nat) : Int) := by omega
 have hmin1 : ((min rx.no.length 12 : Nat) : Int) ≤ (cn : Int) := by omega
 have hmin2 : min rx.no.length 12 ≤ cn := by omega
 have Hrone := Lib.hid hr.rin.one
 have Cut := Lib.hid cut
 have BAsk := Lib.hid hb
 have Ask := Lib.hid ha
 have Hkk := Lib.hid hkk
 have HWs : Hid (w.heap.size < W0.heap.size) := Lib.hid r0.inHeap
 rw [← hL]
 clear hk hr hb ha hb0 r0 hrl cut hkk hL hcn
 go_enter Tryz.func3, Tryz.ntmps3
 go_wp2_with fail
 rw [← hW0]
 clear hW0
 refine wp_region_held_drew (S := (fun w' : World => Below W0.heap.size W0 w')) (by kernel_rfl) ((Below.refl _ _).drew) (fun hHeld => ?_)
 refine wpAnyH_td (i := 0) rfl ?_
 simp only [zz]
 refine wpAnyH_tk (i := 1) (v := ?_) rfl (Or.inl ⟨by rfl, (by intro w hSw; obtain ⟨c0, c1, -⟩ := XB.out _ hSw; go_simp; try with_reducible rfl)⟩) (by assumption) ?_
 simp only [zz]
 refine wpAnyH_td (i := 2) rfl ?_
 simp only [zz]
 refine wpAnyH_tk (i := 3) (v := .agg (rfV ⟨.slice Af rx.f.length cf, .slice An rx.no.length cn, rx⟩).toArray) rfl (Or.inl ⟨by rfl, (by intro w hSw; exact exec_mload (by rfl) (by rfl) ((XB.out _ hSw).2.2.1))⟩) (by assumption) ?_
 simp only [zz]
 refine wpAnyH_td (i := 4) rfl ?_
 simp only [zz]
 refine wpAnyH_tk (i := 5) (v := .agg (askV ⟨b1, b2⟩ ⟨t1, t2⟩ (.slice U2 bf.length cu2)).toArray) rfl (Or.inl ⟨by rfl, (by intro w hSw; exact exec_mload (by rfl) (by rfl) ((XB.out _ hSw).2.2.2.1))⟩) (by assumption) ?_
 simp only [zz]
 refine wpAnyH_td (i := 6) rfl ?_
 simp only [zz]
 refine wpAnyH_tk (i := 7) (v := .agg (askV ⟨y1, y2⟩ ⟨x1, x2⟩ (.slice U f.length cu)).toArray) rfl (Or.inl ⟨by rfl, (by intro w hSw; exact exec_mload (by rfl) (by rfl) ((XB.out _ hSw).2.2.2.2))⟩) (by assumption) ?_
 simp only [zz]
 refine wpAnyH_named (fun G hG1 hG2 => ?_)
 intro fr
 have T8_9_10_11 : ∀ (g3 : Nat) (g4 : Nat) (g5 : Nat) (g6 : Nat) (wL : World) (hH : Hid (Below W0.heap.size W0 wL)) (V3 : Hid (∀ W : World, Below wL.heap.size wL W → Row W g3 25 #[.slice none 0 0, .slice none 0 0])) (G3 : Hid (∀ W : World, Below wL.heap.size wL W → W0.heap.size ≤ g3)) (V4 : Hid (∀ W : World, Below wL.heap.size wL W → Row W g4 31 (rfV frZ).toArray)) (G4 : Hid (∀ W : World, Below wL.heap.size wL W → W0.heap.size ≤ g4)) (V5 : Hid (∀ W : World, Below wL.heap.size wL W → Row W g5 35 #[.int .i64 0, .int .i64 0, .int .i64 0, .int .i64 0, .slice none 0 0])) (G5 : Hid (∀ W : World, Below wL.heap.size wL W → W0.heap.size ≤ g5)) (V6 : Hid (∀ W : World, Below wL.heap.size wL W → Row W g6 35 #[.int .i64 0, .int .i64 0, .int .i64 0, .int .i64 0, .slice none 0 0])) (G6 : Hid (∀ W : World, Below wL.heap.size wL W → W0.heap.size ≤ g6)) (P3_4 : Hid (¬ g3 = g4)) (P3_5 : Hid (¬ g3 = g5)) (P3_6 : Hid (¬ g3 = g6)) (P4_5 : Hid (¬ g4 = g5)) (P4_6 : Hid (¬ g4 = g6)) (P5_6 : Hid (¬ g5 = g6)), G 4 #[true, true, true, true, true, true, true, true, true, true, true, true, false, false, false, false] ((((fr.put (some 3) (.pointer (some ⟨g3, 0, none⟩))).put (some 4) (.pointer (some ⟨g4, 0, none⟩))).put (some 5) (.pointer (some ⟨g5, 0, none⟩))).put (some 6) (.pointer (some ⟨g6, 0, none⟩))) wL := by as_aux_lemma =>
  intro g3 g4 g5 g6 wL hH V3 G3 V4 G4 V5 G5 V6 G6 P3_4 P3_5 P3_6 P4_5 P4_6 P5_6
  refine hG1 _ _ _ _ ?_
  simp only [fr, zz]
  have hHeld := hH.out
  have Z3 := Lib.hid (V3.out wL (Below.refl _ _))
  have Z4 := Lib.hid (V4.out wL (Below.refl _ _))
  have Z5 := Lib.hid (V5.out wL (Below.refl _ _))
  have Z6 := Lib.hid (V6.out wL (Below.refl _ _))
  have GG3 : Hid (w.heap.size < g3) := Lib.hid (by have h1 := G3.out wL (Below.refl _ _); have h2 := HWs.out; omega)
  have GG4 : Hid (w.heap.size < g4) := Lib.hid (by have h1 := G4.out wL (Below.refl _ _); have h2 := HWs.out; omega)
  have GG5 : Hid (w.heap.size < g5) := Lib.hid (by have h1 := G5.out wL (Below.refl _ _); have h2 := HWs.out; omega)
  have GG6 : Hid (w.heap.size < g6) := Lib.hid (by have h1 := G6.out wL (Below.refl _ _); have h2 := HWs.out; omega)
  refine wpAnyH_ready (rs := [12]) (by kernel_rfl) (by simp) ?_
  refine AllReadyH.cons rfl (fun K hK => ?_) AllReadyH.nil
  refine step_rstore (cs := [Value.slice A rs.length ca, .slice B m.length cb]) (.tmp 3) (.tmp 13) rfl (by rfl) (by rfl) (by rfl) Z3.out (knSize _ _) rfl (two_one rfl rfl) ?_
  rintro ws0 hrow hkp
  have hN := hHeld.trans (hkp.below hHeld.size (fun i e => by have := G3.out wL (Below.refl _ _); omega))
  have Z4 := Lib.hid (Z4.out.kept hkp (by first | exact P3_4.out | exact (fun e => P3_4.out e.symm)))
  have Z5 := Lib.hid (Z5.out.kept hkp (by first | exact P3_5.out | exact (fun e => P3_5.out e.symm)))
  have Z6 := Lib.hid (Z6.out.kept hkp (by first | exact P3_6.out | exact (fun e => P3_6.out e.symm)))
  have Z3 := Lib.hid hrow
  clear hrow hkp
  refine hK.out _ _ hN (fun hHeld => ?_)
  refine wpAnyH_ready (rs := [13]) (by kernel_rfl) (by simp) ?_
  refine AllReadyH.cons rfl (fun K hK => ?_) AllReadyH.nil
  refine step_rstore (cs := rfV ⟨.slice Af rx.f.length cf, .slice An rx.no.length cn, rx⟩) (.tmp 4) (.tmp 15) rfl (by rfl) (by rfl) (by rfl) Z4.out (by rw [HRL.out]; kernel_rfl) (by rw [HRL.out]; exact frZ_size) Hrone.out ?_
  rintro ws1 hrow hkp
  have hN := hHeld.trans (hkp.below hHeld.size (fun i e => by have := G4.out wL (Below.refl _ _); omega))
  have Z3 := Lib.hid (Z3.out.kept hkp (by first | exact P3_4.out | exact (fun e => P3_4.out e.symm)))
  have Z5 := Lib.hid (Z5.out.kept hkp (by first | exact P4_5.out | exact (fun e => P4_5.out e.symm)))
  have Z6 := Lib.hid (Z6.out.kept hkp (by first | exact P4_6.out | exact (fun e => P4_6.out e.symm)))
  have Z4 := Lib.hid hrow
  clear hrow hkp
  refine hK.out _ _ hN (fun hHeld => ?_)
  refine wpAnyH_ready (rs := [14]) (by kernel_rfl) (by simp) ?_
  refine AllReadyH.cons rfl (fun K hK => ?_) AllReadyH.nil
  refine step_rstore (cs := askV ⟨b1, b2⟩ ⟨t1, t2⟩ (.slice U2 bf.length cu2)) (.tmp 5) (.tmp 17) rfl (by rfl) (by rfl) (by rfl) Z5.out (askSize _ _ _) rfl (ask_one _ _ rfl) ?_
  rintro ws2 hrow hkp
  have hN := hHeld.trans (hkp.below hHeld.size (fun i e => by have := G5.out wL (Below.refl _ _); omega))
  have Z3 := Lib.hid (Z3.out.kept hkp (by first | exact P3_5.out | exact (fun e => P3_5.out e.symm)))
  have Z4 := Lib.hid (Z4.out.kept hkp (by first | exact P4_5.out | exact (fun e => P4_5.out e.symm)))
  have Z6 := Lib.hid (Z6.out.kept hkp (by first | exact P5_6.out | exact (fun e => P5_6.out e.symm)))
  have Z5 := Lib.hid hrow
  clear hrow hkp
  refine hK.out _ _ hN (fun hHeld => ?_)
  refine wpAnyH_ready (rs := [15]) (by kernel_rfl) (by simp) ?_
  refine AllReadyH.cons rfl (fun K hK => ?_) AllReadyH.nil
  refine step_rstore (cs := askV ⟨y1, y2⟩ ⟨x1, x2⟩ (.slice U f.length cu)) (.tmp 6) (.tmp 19) rfl (by rfl) (by rfl) (by rfl) Z6.out (askSize _ _ _) rfl (ask_one _ _ rfl) ?_
  rintro ws3 hrow hkp
  have hN := hHeld.trans (hkp.below hHeld.size (fun i e => by have := G6.out wL (Below.refl _ _); omega))
  have Z3 := Lib.hid (Z3.out.kept hkp (by first | exact P3_6.out | exact (fun e => P3_6.out e.symm)))
  have Z4 := Lib.hid (Z4.out.kept hkp (by first | exact P4_6.out | exact (fun e => P4_6.out e.symm)))
  have Z5 := Lib.hid (Z5.out.kept hkp (by first | exact P5_6.out | exact (fun e => P5_6.out e.symm)))
  have Z6 := Lib.hid hrow
  clear hrow hkp
  refine hK.out _ _ hN (fun hHeld => ?_)
  refine wpAnyH_done (by kernel_rfl) ?_ _
  have HW1 := Lib.hid hHeld
  clear hHeld V3 V4 V5 V6 G3 G4 G5 G6 hG1 hG2
  have B1 := Lib.hid (HB0.out.trans (HW1.out.mono HB0.out.size))
  have SAN := Lib.hid (law15_Sane2 HKw.out B1.out)
  rw [Hkk.out] at SAN
  have c0 := Z3.out.at 0
  have c1 := Z3.out.at 1
  simp only [List.getElem?_toArray, List.getElem?_cons_zero, List.getElem?_cons_succ] at c0 c1
  have I3 := Lib.hid Z3.out.inHeap
  have I4 := Lib.hid Z4.out.inHeap
  go_wp2_with fail
  refine (SAN.out).mono ?_
  rintro e w5 ⟨v5, rfl, hs5, b5⟩
  obtain ⟨A5, m5, p5, B5, n5, q5, rfl⟩ := hs5.parts
  have Y3 := Z3.out.below b5 Z3.out.inHeap
  have Y4 := Z4.out.below b5 Z4.out.inHeap
  have Y5 := Z5.out.below b5 Z5.out.inHeap
  have Y6 := Z6.out.below b5 Z6.out.inHeap
  clear c0 c1 SAN
  go_wp2_with (refine wpList_rstore (cs := [.slice A5 m5 p5, .slice B5 n5 q5]) (by rfl) (.tmp 3) (.tmp 21) (by rfl) (by rfl) (by rfl) Y3 (knSize _ _) rfl (two_one rfl rfl) ?_)
  rintro w6 hr6 hk6
  have S6 := Lib.hid (hs5.box Y3 I3.out (Nat.le_of_lt GG3.out) two_nostr hk6)
  have Z3 : Hid (Row w6 g3 25 #[.slice A5 m5 p5, .slice B5 n5 q5]) := Lib.hid hr6
  have Z4 := Lib.hid (Y4.kept hk6 (fun e => P3_4.out e.symm))
  have Z5 := Lib.hid (Y5.kept hk6 (fun e => P3_5.out e.symm))
  have Z6 := Lib.hid (Y6.kept hk6 (fun e => P3_6.out e.symm))
  have B6 := Lib.hid (B1.out.trans ((b5.mono B1.out.size).trans (hk6.below (Nat.le_trans B1.out.size b5.size) (fun i e => by have := GG3.out; omega))))
  clear hs5 b5 Y3 Y4 Y5 Y6 hr6 hk6
  have f0 := (FrAt.row (r := ⟨.slice Af rx.f.length cf, .slice An rx.no.length cn, rx⟩) H65.out Z4.out).f
  go_wp2_with fail
  refine (law15_sane (f := rx.f) (Rws.below HRw.out.rin.f B6.out) HRw.out.fl (fun c hc => (HRw.out.fi c hc).1)).mono ?_
  rintro e w7 ⟨v7, rfl, h7⟩
  obtain ⟨A7, c7, e7, -⟩ := (h7.rows (fun _ _ => rfl)).parts
  subst e7
  have F7 := h7.rows (fun _ _ => rfl)
  have b7 : Below w6.heap.size w6 w7 := h7.2
  have Y3 := Z3.out.below b7 Z3.out.inHeap
  have Y4 := Z4.out.below b7 Z4.out.inHeap
  have Y5 := Z5.out.below b7 Z5.out.inHeap
  have Y6 := Z6.out.below b7 Z6.out.inHeap
  have s0 := (FrAt.row (r := ⟨.slice Af rx.f.length cf, .slice An rx.no.length cn, rx⟩) H65.out Y4).f
  have s1 := Y4.free 0
  have KS : Kept (fun i => i = g4) w7 (w7.setCell ⟨g4, 0, none⟩ (.slice A7 (Know.saneF rx.f).length c7)) := Kept.stored (p := ⟨g4, 0, none⟩) (Kept.refl (fun i => i = g4) _) (Or.inl rfl) _
  have X4 : Row (w7.setCell ⟨g4, 0, none⟩ (.slice A7 (Know.saneF rx.f).length c7)) g4 31 (rfV ⟨.slice A7 (Know.saneF rx.f).length c7, .slice An rx.no.length cn, ⟨Know.saneF rx.f, rx.v, rx.no⟩⟩).toArray := by
   have h := Y4.stored 0 (.slice A7 (Know.saneF rx.f).length c7)
   rw [List.setIfInBounds_toArray] at h
   exact h
  have S8 := (S6.out.below b7).box Y4 I4.out (Nat.le_of_lt GG4.out) (rf_nostr (x := rx) H65.out) KS
  have F8 := F7.kept KS (fun i hi e => by have h1 := hi.1; have h2 : w6.heap.size ≤ i := h1; have := Z4.out.inHeap; omega)
  have B8 := B6.out.trans ((b7.mono B6.out.size).trans (KS.below (Nat.le_trans B6.out.size b7.size) (fun i e => by have := GG4.out; omega)))
  have X3 := Y3.kept KS P3_4.out
  have X5 := Y5.kept KS (fun e => P4_5.out e.symm)
  have X6 := Y6.kept KS (fun e => P4_6.out e.symm)
  clear f0 h7 F7 Z3 Z4 Z5 Z6 S6 B6 Y3 Y4 Y5 Y6 KS b7
  go_wp2_with fail
  generalize w7.setCell ⟨g4, 0, none⟩ (.slice A7 (Know.saneF rx.f).length c7) = w8 at *
  clear s0 s1
  have Z3 := Lib.hid X3
  have Z4 := Lib.hid X4
  have Z5 := Lib.hid X5
  have Z6 := Lib.hid X6
  have S8 := Lib.hid S8
  have F8 := Lib.hid F8
  have B8 := Lib.hid B8
  clear X3 X4 X5 X6
  have hdr : Below w8.heap.size w8 w8.drew := (Below.refl _ _).drew
  have XN := Lib.hid (fun (W : World) (h : Below w8.heap.size w8 W) => (FrAt.row (r := ⟨.slice A7 (Know.saneF rx.f).length c7, .slice An rx.no.length cn, ⟨Know.saneF rx.f, rx.v, rx.no⟩⟩) H65.out (Z4.out.below h Z4.out.inHeap)).no0)
  have s0 := XN.out _ hdr
  have s1 := (Z4.out.below hdr Z4.out.inHeap).free 66
  refine wp_region_tail (n := 6) (S := (fun w' : World => Below w8.heap.size w8 w')) (by kernel_rfl) (by kernel_rfl) (by rfl) ((Below.refl _ _).drew) (fun hHeld => ?_)
  refine wpAnyH_td (i := 0) rfl ?_
  simp only [zz]
  refine wpAnyH_tk (i := 1) (v := ?_) rfl (Or.inl ⟨by rfl, (by intro w hSw; have c0 := XN.out _ hSw; go_simp; try with_reducible rfl)⟩) (by assumption) ?_
  simp only [zz]
  refine wpAnyH_td (i := 2) rfl ?_
  simp only [zz]
  refine wpAnyH_tk (i := 3) (v := ?_) rfl (Or.inl ⟨by rfl, (by intro w hSw; have c0 := XN.out _ hSw; go_simp; try with_reducible rfl)⟩) (by assumption) ?_
  simp only [zz]
  refine wpAnyH_td (i := 4) rfl ?_
  simp only [zz]
  refine wpAnyH_ready (rs := [5]) (by kernel_rfl) (by simp) ?_
  refine AllReadyH.cons rfl (fun K hK => ?_) AllReadyH.nil
  go_simp
  go_at_call 7
  refine (low12 _ _).mono ?_
  rintro e wl ⟨rfl, rfl⟩
  refine hK.out _ _ hHeld (fun hHeld => ?_)
  clear hK K
  refine wpAnyH_done (by kernel_rfl) ?_ _
  refine wpAny_of_held (S := fun _ => True) _ _ _ _ ?_
  have hHeld : True := trivial
  refine wpAnyH_td (i := 6) rfl ?_
  simp only [zz]
  refine wpAnyH_td (i := 7) rfl ?_
  simp only [zz]
  refine wpAnyH_ready (rs := [8]) (by kernel_rfl) (by simp) ?_
  refine AllReadyH.cons rfl (fun K hK => ?_) AllReadyH.nil
  go_simp
  refine hK.out _ _ trivial (fun hHeld => ?_)
  clear hK K
  refine wpAnyH_done (by kernel_rfl) ?_ _
  have KS : Kept (fun i => i = g4) w8.drew (w8.setCell ⟨g4, 66, none⟩ (.slice An (min rx.no.length 12) cn)).drew := Kept.stored (p := ⟨g4, 66, none⟩) (Kept.refl (fun i => i = g4) _) (Or.inl rfl) _
  have Y4 := Z4.out.below hdr Z4.out.inHeap
  have X4 : Row (w8.setCell ⟨g4, 66, none⟩ (.slice An (min rx.no.length 12) cn)).drew g4 31 (rfV (⟨.slice A7 (Know.saneF rx.f).length c7, .slice An (min rx.no.length 12) cn, ⟨Know.saneF rx.f, rx.v, rx.no.take 12⟩⟩ : RFr)).toArray := by
   have h := Y4.stored 66 (.slice An (min rx.no.length 12) cn)
   rw [List.setIfInBounds_toArray] at h
   have e := rf_setNo (r := ⟨.slice A7 (Know.saneF rx.f).length c7, .slice An rx.no.length cn, ⟨Know.saneF rx.f, rx.v, rx.no⟩⟩) H65.out (.slice An (min rx.no.length 12) cn) (rx.no.take 12)
   exact e ▸ h
  have S9 := (S8.out.below hdr).box Y4 I4.out (Nat.le_of_lt GG4.out) (rf_nostr H65.out) KS
  have F9 := (Cls.outside (Rws.below F8.out hdr) Y4 (rf_nostr H65.out)).kept KS (fun i hi e => hi.2 e)
  have B9 := B8.out.trans ((hdr.mono B8.out.size).trans (KS.below (Nat.le_trans B8.out.size hdr.size) (fun i e => by have := GG4.out; omega)))
  have X3 := (Z3.out.below hdr Z3.out.inHeap).kept KS P3_4.out
  have X5 := (Z5.out.below hdr Z5.out.inHeap).kept KS (fun e => P4_5.out e.symm)
  have X6 := (Z6.out.below hdr Z6.out.inHeap).kept KS (fun e => P4_6.out e.symm)
  have d4 : (w8.setCell ⟨g4, 66, none⟩ (.slice An (min rx.no.length 12) cn)).drew.cell? ⟨g6, 4, none⟩ = some (Value.slice U f.length cu) := X6.at 4
  clear KS Y4 s0 s1 XN hdr Z3 Z4 Z5 Z6 S8 F8 B8
  go_wp2_with fail
  generalize (w8.setCell ⟨g4, 66, none⟩ (.slice An (min rx.no.length 12) cn)).drew = w9 at *
  have Z3 := Lib.hid X3
  have Z4 := Lib.hid X4
  have Z5 := Lib.hid X5
  have Z6 := Lib.hid X6
  have S9 := Lib.hid S9
  have F9 := Lib.hid F9
  have B9 := Lib.hid B9
  clear X3 X4 X5 X6
  refine (law15_sane (f := f) (Rws.below Ask.out.f B9.out) Ask.out.fl (fun c hc => (Ask.out.fi c hc).1)).mono ?_
  rintro e w10 ⟨v10, rfl, h10⟩
  obtain ⟨A10, c10, e10, -⟩ := (h10.rows (fun _ _ => rfl)).parts
  subst e10
  have F10 := h10.rows (fun _ _ => rfl)
  have b10 : Below w9.heap.size w9 w10 := h10.2
  clear d4
  have X3 := Z3.out.below b10 Z3.out.inHeap
  have X4 := Z4.out.below b10 Z4.out.inHeap
  have X5 := Z5.out.below b10 Z5.out.inHeap
  have X6 := Z6.out.below b10 Z6.out.inHeap
  have HK10 := Lib.hid (fun (W : World) (h : Below w10.heap.size w10 W) => (((S9.out.below b10).below h).new.kns).any)
  have HR10 := Lib.hid (fun (W : World) (h : Below w10.heap.size w10 W) => ((⟨(Rws.below (Rws.below F9.out b10) h).mono (fun _ _ => trivial), (take12 (Rws.below (Rws.below (Rws.below HRw.out.rin.no B9.out) b10) h) hmin2).mono (fun _ _ => trivial), H65.out⟩ : RFr.In W AnyB (⟨.slice A7 (Know.saneF rx.f).length c7, .slice An (min rx.no.length 12) cn, ⟨Know.saneF rx.f, rx.v, rx.no.take 12⟩⟩ : RFr))))
  have SF := Lib.hid (fun (W : World) (h : Below w10.heap.size w10 W) => ((Rws.below F10 h).mono (fun _ _ => trivial) : Cls W AnyB (.slice A10 (Know.saneF f).length c10) (Know.saneF f)))
  have B10 := Lib.hid (B9.out.trans (b10.mono B9.out.size))
  clear Z3 Z4 Z5 Z6 S9 F9 B9 h10 F10 b10
  have Z3 := Lib.hid X3
  have Z4 := Lib.hid X4
  have Z5 := Lib.hid X5
  have Z6 := Lib.hid X6
  clear X3 X4 X5 X6
  go_wp2_with fail
  have XCUT := Lib.hid (Know.frag_cut (x := ⟨Know.saneF rx.f, rx.v, rx.no.take 12⟩) (Know.saneF_fine rx.f).1 (Know.saneF_fine rx.f).2 H65.out (by show (rx.no.take 12).length ≤ 12; rw [List.length_take]; omega))
  have OA := Lib.hid (Know.ok_more Cut.out.ok (by have := Cut.out.it; omega) BAsk.out.bi BAsk.out.bv)
  have OG := Lib.hid (Cut.out.union XCUT.out).ok
  have CA := Lib.hid (fun (W : World) (h : Below w10.heap.size w10 W) => KO.add ⟨b1, b2⟩ ⟨t1, t2⟩ (HK10.out W h) OA.out BAsk.out.bv)
  have CG := Lib.hid (fun (W : World) (h : Below w10.heap.size w10 W) => KO.grant (HK10.out W h) (HR10.out W h) OG.out)
  have XD := Lib.hid (fun (W : World) (h : Below w10.heap.size w10 W) => (⟨(Z3.out.below h Z3.out.inHeap).at 0, (Z3.out.below h Z3.out.inHeap).at 1, (Z5.out.below h Z5.out.inHeap).at 0, (Z5.out.below h Z5.out.inHeap).at 1, (Z5.out.below h Z5.out.inHeap).at 2, (Z5.out.below h Z5.out.inHeap).at 3, lies_row (Z4.out.below h Z4.out.inHeap) (frSize H65.out)⟩ : W.cell? ⟨g3, 0, none⟩ = some (.slice A5 m5 p5) ∧ W.cell? ⟨g3, 1, none⟩ = some (.slice B5 n5 q5) ∧ W.cell? ⟨g5, 0, none⟩ = some (.int .i64 b1) ∧ W.cell? ⟨g5, 1, none⟩ = some (.int .i64 b2) ∧ W.cell? ⟨g5, 2, none⟩ = some (.int .i64 t1) ∧ W.cell? ⟨g5, 3, none⟩ = some (.int .i64 t2) ∧ Lies 31 W g4 0 (rfV (⟨.slice A7 (Know.saneF rx.f).length c7, .slice An (min rx.no.length 12) cn, ⟨Know.saneF rx.f, rx.v, rx.no.take 12⟩⟩ : RFr))))
  refine wp_region_held_drew (S := (fun w' : World => Below w10.heap.size w10 w')) (by kernel_rfl) ((Below.refl _ _).drew) (fun hHeld => ?_)
  refine wpAnyH_tk (i := 0) (v := ?_) rfl (Or.inl ⟨by rfl, (by intro w hSw; obtain ⟨c0, c1, c2, c3, c4, c5, -⟩ := XD.out _ hSw; go_simp; try with_reducible rfl)⟩) (by assumption) ?_
  simp only [zz]
  refine wpAnyH_td (i := 1) rfl ?_
  simp only [zz]
  refine wpAnyH_tk (i := 2) (v := ?_) rfl (Or.inl ⟨by rfl, (by intro w hSw; obtain ⟨c0, c1, c2, c3, c4, c5, -⟩ := XD.out _ hSw; go_simp; try with_reducible rfl)⟩) (by assumption) ?_
  simp only [zz]
  refine wpAnyH_td (i := 3) rfl ?_
  simp only [zz]
  refine wpAnyH_tk (i := 4) (v := ?_) rfl (Or.inl ⟨by rfl, (by intro w hSw; obtain ⟨c0, c1, c2, c3, c4, c5, -⟩ := XD.out _ hSw; go_simp; try with_reducible rfl)⟩) (by assumption) ?_
  simp only [zz]
  refine wpAnyH_tk (i := 6) (v := ?_) rfl (Or.inl ⟨by rfl, (by intro w hSw; obtain ⟨c0, c1, c2, c3, c4, c5, -⟩ := XD.out _ hSw; go_simp; try with_reducible rfl)⟩) (by assumption) ?_
  simp only [zz]
  refine wpAnyH_tk (i := 7) (v := .agg (rfV (⟨.slice A7 (Know.saneF rx.f).length c7, .slice An (min rx.no.length 12) cn, ⟨Know.saneF rx.f, rx.v, rx.no.take 12⟩⟩ : RFr)).toArray) rfl (Or.inl ⟨by rfl, (by intro w hSw; exact exec_mload (by rfl) (by rfl) ((XD.out _ hSw).2.2.2.2.2.2))⟩) (by assumption) ?_
  simp only [zz]
  refine wpAnyH_named (fun G hG1 hG2 => ?_)
  intro fr
  have T5_8_9_10 : ∀ (cp : Know.K) (pa : Option Addr) (pc : Nat) (qa : Option Addr) (qc : Nat) (cw : Know.K) (ra : Option Addr) (rc : Nat) (sa : Option Addr) (sc : Nat) (g8 : Nat) (g9 : Nat) (wL : World) (hH : Hid (Below w10.heap.size w10 wL)) (KP : Hid (∀ W : World, Below wL.heap.size wL W → Kns W AnyB (.agg #[.slice pa cp.frags.length pc, .slice qa cp.items.length qc]) cp)) (CP : Hid (∀ W : World, Below wL.heap.size wL W → Know.Canon (Know.union k ⟨[], [⟨⟨b1, b2⟩, Vec.ofl [⟨t1, t2⟩]⟩]⟩) cp)) (KW : Hid (∀ W : World, Below wL.heap.size wL W → Kns W AnyB (.agg #[.slice ra cw.frags.length rc, .slice sa cw.items.length sc]) cw)) (CW : Hid (∀ W : World, Below wL.heap.size wL W → Know.Canon (Know.union k ⟨[⟨Know.saneF rx.f, rx.v, rx.no.take 12⟩], []⟩) cw)) (V8 : Hid (∀ W : World, Below wL.heap.size wL W → Row W g8 25 #[.slice none 0 0, .slice none 0 0])) (G8 : Hid (∀ W : World, Below wL.heap.size wL W → w10.heap.size ≤ g8)) (V9 : Hid (∀ W : World, Below wL.heap.size wL W → Row W g9 25 #[.slice none 0 0, .slice none 0 0])) (G9 : Hid (∀ W : World, Below wL.heap.size wL W → w10.heap.size ≤ g9)) (P8_9 : Hid (¬ g8 = g9)), G 2 #[true, true, true, true, true, true, true, true, true, true, true, false, false] ((((fr.put (some 42) (.agg #[.slice pa cp.frags.length pc, .slice qa cp.items.length qc])).put (some 45) (.agg #[.slice ra cw.frags.length rc, .slice sa cw.items.length sc])).put (some 8) (.pointer (some ⟨g8, 0, none⟩))).put (some 9) (.pointer (some ⟨g9, 0, none⟩))) wL := by as_aux_lemma =>
   intro cp pa pc qa qc cw ra rc sa sc g8 g9 wL hH KP CP KW CW V8 G8 V9 G9 P8_9
   refine hG1 _ _ _ _ ?_
   simp only [fr, zz]
   have hHeld := hH.out
   have Z8 := Lib.hid (V8.out wL (Below.refl _ _))
   have Z9 := Lib.hid (V9.out wL (Below.refl _ _))
   have GG8 : Hid (w10.heap.size ≤ g8) := Lib.hid (G8.out wL (Below.refl _ _))
   have GG9 : Hid (w10.heap.size ≤ g9) := Lib.hid (G9.out wL (Below.refl _ _))
   have KPo := Lib.hid (KP.out wL (Below.refl _ _))
   have KWo := Lib.hid (KW.out wL (Below.refl _ _))
   have CPo := Lib.hid (CP.out wL (Below.refl _ _))
   have CWo := Lib.hid (CW.out wL (Below.refl _ _))
   refine wpAnyH_ready (rs := [11]) (by kernel_rfl) (by simp) ?_
   refine AllReadyH.cons rfl (fun K hK => ?_) AllReadyH.nil
   refine step_rstore (cs := [.slice pa cp.frags.length pc, .slice qa cp.items.length qc]) (.tmp 8) (.tmp 42) rfl (by rfl) (by rfl) (by rfl) Z8.out (knSize _ _) rfl (two_one rfl rfl) ?_
   rintro wt0 hrow hkp
   have hN := hHeld.trans (hkp.below hHeld.size (fun i e => by have := G8.out wL (Below.refl _ _); omega))
   have Z9 := Lib.hid (Z9.out.kept hkp (by first | exact P8_9.out | exact (fun e => P8_9.out e.symm)))
   have KPo := Lib.hid (Kns.box KPo.out Z8.out hkp)
   have KWo := Lib.hid (Kns.box KWo.out Z8.out hkp)
   have Z8 := Lib.hid hrow
   clear hrow hkp
   refine hK.out _ _ hN (fun hHeld => ?_)
   refine wpAnyH_ready (rs := [12]) (by kernel_rfl) (by simp) ?_
   refine AllReadyH.cons rfl (fun K hK => ?_) AllReadyH.nil
   refine step_rstore (cs := [.slice ra cw.frags.length rc, .slice sa cw.items.length sc]) (.tmp 9) (.tmp 45) rfl (by rfl) (by rfl) (by rfl) Z9.out (knSize _ _) rfl (two_one rfl rfl) ?_
   rintro wt1 hrow hkp
   have hN := hHeld.trans (hkp.below hHeld.size (fun i e => by have := G9.out wL (Below.refl _ _); omega))
   have Z8 := Lib.hid (Z8.out.kept hkp (by first | exact P8_9.out | exact (fun e => P8_9.out e.symm)))
   have KPo := Lib.hid (Kns.box KPo.out Z9.out hkp)
   have KWo := Lib.hid (Kns.box KWo.out Z9.out hkp)
   have Z9 := Lib.hid hrow
   clear hrow hkp
   refine hK.out _ _ hN (fun hHeld => ?_)
   refine wpAnyH_done (by kernel_rfl) ?_ _
   have HW2 := Lib.hid hHeld
   clear hHeld V8 V9 G8 G9 KP KW CP CW hG1 hG2 CA CG
   obtain ⟨i1, hi1, hy0, hy1, hy2⟩ := ver_parts itInfo
   have hz := knZero
   have HK7 := Lib.hid (fun (W : World) (h : Below wt1.heap.size wt1 W) => Kns.two (HK10.out W (HW2.out.trans (h.mono HW2.out.size))))
   obtain ⟨_, _, en5, -⟩ := (HK7.out wt1 (Below.refl _ _)).2.1.parts
   injection en5 with q1 en5 q2
   clear q1 q2
   obtain ⟨_, _, em5, -⟩ := (HK7.out wt1 (Below.refl _ _)).1.parts
   injection em5 with q1 em5 q2
   clear q1 q2
   subst n5 m5
   have XE := Lib.hid (fun (W : World) (h : Below wt1.heap.size wt1 W) => XD.out W (HW2.out.trans (h.mono HW2.out.size)))
   have HV65 : Hid ((Vec.ofl [(⟨t1, t2⟩ : Ver.V)]).length = 65) := Lib.hid (Vec.ofl_plain _).1
   have OF7 := Lib.hid (fun (W : World) (g : Nat) (h : Row W g 33 #[.int .i64 t1, .int .i64 t2]) => (ref_vof (l := [⟨t1, t2⟩]) (rws_row (f := verV) (r := (⟨t1, t2⟩ : Ver.V)) h) (Nat.succ_le_succ (Nat.zero_le _)) : Calls Tryz.prog 10 #[.slice (some ⟨g, 0, none⟩) 1 1] W fun e w2 => e = .returned (.agg (vecL (Vec.ofl [⟨t1, t2⟩])).toArray) ∧ Below W.heap.size W w2))
   generalize hU : Vec.ofl [(⟨t1, t2⟩ : Ver.V)] = uv at *
   have HU := Lib.hid hU
   clear hU
   go_wp2_with fail
   refine wp_region_held_drew (S := (fun w' : World => Below wt1.heap.size wt1 w')) (by kernel_rfl) ((Below.refl _ _).drew) (fun hHeld => ?_)
   refine wpAnyH_td (i := 0) rfl ?_
   simp only [zz]
   refine wpAnyH_tk (i := 1) (v := ?_) rfl (Or.inl ⟨by rfl, (by intro w hSw; obtain ⟨c0, c1, c2, c3, c4, c5, -⟩ := XE.out _ hSw; go_simp; try with_reducible rfl)⟩) (by assumption) ?_
   simp only [zz]
   refine wpAnyH_td (i := 3) rfl ?_
   simp only [zz]
   refine wpAnyH_tk (i := 4) (v := ?_) rfl (Or.inl ⟨by rfl, (by intro w hSw; obtain ⟨c0, c1, c2, c3, c4, c5, -⟩ := XE.out _ hSw; go_simp; try with_reducible rfl)⟩) (by assumption) ?_
   simp only [zz]
   refine wpAnyH_td (i := 6) rfl ?_
   simp only [zz]
   refine wpAnyH_tk (i := 7) (v := ?_) rfl (Or.inl ⟨by rfl, (by intro w hSw; obtain ⟨c0, c1, c2, c3, c4, c5, -⟩ := XE.out _ hSw; go_simp; try with_reducible rfl)⟩) (by assumption) ?_
   simp only [zz]
   refine wpAnyH_td (i := 8) rfl ?_
   simp only [zz]
   refine wpAnyH_tk (i := 9) (v := ?_) rfl (Or.inl ⟨by rfl, (by intro w hSw; obtain ⟨c0, c1, c2, c3, c4, c5, -⟩ := XE.out _ hSw; go_simp; try with_reducible rfl)⟩) (by assumption) ?_
   simp only [zz]
   refine wpAnyH_named (fun G hG1 hG2 => ?_)
   intro fr
   have T2_5_10_11_13_14_16 : ∀ (g2 : Nat) (a5 : Option Addr) (l5 : Nat) (c5 : Nat) (gv : Nat) (gi : Nat) (a14 : Option Addr) (n14 : Nat) (c14 : Nat) (g10 : Nat) (wL : World) (hH : Hid (Below wt1.heap.size wt1 wL)) (O14 : Hid (∀ W : World, Below wL.heap.size wL W → W.ownsRow wt1.heap.size 45 67 (.slice a14 n14 c14) (k.items ++ [(⟨⟨b1, b2⟩, uv⟩ : Know.It)]).length ((k.items ++ [(⟨⟨b1, b2⟩, uv⟩ : Know.It)]).flatMap itV))) (V10 : Hid (∀ W : World, Below wL.heap.size wL W → Row W g10 25 #[.slice none 0 0, .slice none 0 0])) (G10 : Hid (∀ W : World, Below wL.heap.size wL W → wt1.heap.size ≤ g10)), G 1 #[true, true, true, true, true, true, true, true, true, true, true, true, true, true, true, true, true, false] (((((((((fr.put (some 48) (.slice (some ⟨g2, 0, none⟩) 0 0)).put (some 51) (.slice a5 l5 c5)).put (some 56) (.slice (some ⟨gv, 0, none⟩) 1 1)).put (some 57) (.agg (vecL uv).toArray)).put (some 58) (.agg (itV (⟨⟨b1, b2⟩, uv⟩ : Know.It)).toArray)).put (some 59) (.slice (some ⟨gi, 0, none⟩) 1 1)).put (some 60) (.slice a14 n14 c14)).put (some 61) (.agg #[.slice A5 k.frags.length p5, .slice a14 n14 c14])).put (some 10) (.pointer (some ⟨g10, 0, none⟩))) wL := by as_aux_lemma =>
    intro g2 a5 l5 c5 gv gi a14 n14 c14 g10 wL hH O14 V10 G10
    refine hG1 _ _ _ _ ?_
    simp only [fr, zz]
    have hHeld := hH.out
    have Z10 := Lib.hid (V10.out wL (Below.refl _ _))
    have GG10 : Hid (wt1.heap.size ≤ g10) := Lib.hid (G10.out wL (Below.refl _ _))
    have KYo : Hid (Kns wL AnyB (.agg #[.slice A5 k.frags.length p5, .slice a14 n14 c14]) ⟨k.frags, k.items ++ [(⟨⟨b1, b2⟩, uv⟩ : Know.It)]⟩) := Lib.hid ⟨_, _, rfl, (HK7.out wL hHeld).1, Rws.ofOwn (F := AnyB) (O14.out wL (Below.refl _ _)) rfl (fun x hx => it_len ((List.mem_append.1 hx).elim (fun q => (HK7.out wL hHeld).2.2 x q) (fun q => by rw [List.mem_singleton.1 q]; exact HV65.out))) (fun _ _ _ _ => trivial), fun x hx => (List.mem_append.1 hx).elim (fun q => (HK7.out wL hHeld).2.2 x q) (fun q => by rw [List.mem_singleton.1 q]; exact HV65.out)⟩
    refine wpAnyH_ready (rs := [17]) (by kernel_rfl) (by simp) ?_
    refine AllReadyH.cons rfl (fun K hK => ?_) AllReadyH.nil
    refine step_rstore (cs := [.slice A5 k.frags.length p5, .slice a14 n14 c14]) (.tmp 10) (.tmp 61) rfl (by rfl) (by rfl) (by rfl) Z10.out (knSize _ _) rfl (two_one rfl rfl) ?_
    rintro wu hrow hkp
    have hN := hHeld.trans (hkp.below hHeld.size (fun i e => by have := G10.out wL (Below.refl _ _); omega))
    have KYo := Lib.hid (Kns.box KYo.out Z10.out hkp)
    have Z10 := Lib.hid hrow
    clear hrow hkp
    refine hK.out _ _ hN (fun hHeld => ?_)
    refine wpAnyH_done (by kernel_rfl) ?_ _
    have HW3 := Lib.hid hHeld
    clear hHeld V10 G10 O14 hG1 hG2 OF7 i1 hi1 hy0 hy1 hy2
    obtain ⟨i1, hi1, hy0, hy1, hy2⟩ := ver_parts frInfo
    have HK8 := Lib.hid (fun (W : World) (h : Below wu.heap.size wu W) => HK7.out W (HW3.out.trans (h.mono HW3.out.size)))
    have HR8 := Lib.hid (fun (W : World) (h : Below wu.heap.size wu W) => HR10.out W ((HW2.out.trans (HW3.out.mono HW2.out.size)).trans (h.mono (Nat.le_trans HW2.out.size HW3.out.size))))
    have XF := Lib.hid (fun (W : World) (h : Below wu.heap.size wu W) => XE.out W (HW3.out.trans (h.mono HW3.out.size)))
    obtain ⟨RS, eRS, hRS, hIN⟩ := (HK8.out wu (Below.refl _ _)).1
    have ERS := Lib.hid eRS
    have RW8 := Lib.hid (fun (W : World) (h : Below wu.heap.size wu W) => (⟨Rws.below hRS h, fun r hr => (hIN r hr).below h⟩ : Rws 67 rfV W AnyB (.slice A5 k.frags.length p5) RS ∧ ∀ r ∈ RS, r.In W AnyB))
    have RO := Lib.hid (fun (r : RFr) (hr : r ∈ RS) => (⟨(hIN r hr).len, (hIN r hr).one⟩ : r.x.v.length = 65 ∧ ∀ u ∈ rfV r, u.oneCell' = true))
    have XO : Hid (∀ r ∈ [(⟨.slice A7 (Know.saneF rx.f).length c7, .slice An (min rx.no.length 12) cn, ⟨Know.saneF rx.f, rx.v, rx.no.take 12⟩⟩ : RFr)], r.x.v.length = 65 ∧ ∀ u ∈ rfV r, u.oneCell' = true) := Lib.hid (fun r hr => by rw [List.mem_singleton.1 hr]; exact ⟨(HR8.out wu (Below.refl _ _)).len, (HR8.out wu (Below.refl _ _)).one⟩)
    have HRL8 : Hid (RS.length ≤ 6) := Lib.hid (by have h1 := Cut.out.fr; rw [← eRS, List.length_map] at h1; exact h1)
    clear eRS hRS hIN
    go_wp2_with fail
    refine wp_region_held_drew (S := (fun w' : World => Below wu.heap.size wu w')) (by kernel_rfl) ((Below.refl _ _).drew) (fun hHeld => ?_)
    refine wpAnyH_td (i := 1) rfl ?_
    simp only [zz]
    refine wpAnyH_tk (i := 2) (v := ?_) rfl (Or.inl ⟨by rfl, (by intro w hSw; obtain ⟨c0, c1, -⟩ := XF.out _ hSw; go_simp; try with_reducible rfl)⟩) (by assumption) ?_
    simp only [zz]
    refine wpAnyH_tk (i := 4) (v := .agg (rfV (⟨.slice A7 (Know.saneF rx.f).length c7, .slice An (min rx.no.length 12) cn, ⟨Know.saneF rx.f, rx.v, rx.no.take 12⟩⟩ : RFr)).toArray) rfl (Or.inl ⟨by rfl, (by intro w hSw; exact exec_mload (by rfl) (by rfl) ((XF.out _ hSw).2.2.2.2.2.2))⟩) (by assumption) ?_
    simp only [zz]
    refine wpAnyH_td (i := 7) rfl ?_
    simp only [zz]
    refine wpAnyH_tk (i := 8) (v := ?_) rfl (Or.inl ⟨by rfl, (by intro w hSw; obtain ⟨c0, c1, -⟩ := XF.out _ hSw; go_simp; try with_reducible rfl)⟩) (by assumption) ?_
    simp only [zz]
    refine wpAnyH_named (fun G hG1 hG2 => ?_)
    intro fr
    have T0_3_5_6_10 : ∀ (g0 : Nat) (a3 : Option Addr) (n3 : Nat) (c3 : Nat) (gx : Nat) (a6 : Option Addr) (n6 : Nat) (c6 : Nat) (g11 : Nat) (wL : World) (hH : Hid (Below wu.heap.size wu wL)) (O6 : Hid (∀ W : World, Below wL.heap.size wL W → W.ownsRow wu.heap.size 31 67 (.slice a6 n6 c6) (RS ++ [(⟨.slice A7 (Know.saneF rx.f).length c7, .slice An (min rx.no.length 12) cn, ⟨Know.saneF rx.f, rx.v, rx.no.take 12⟩⟩ : RFr)]).length ((RS ++ [(⟨.slice A7 (Know.saneF rx.f).length c7, .slice An (min rx.no.length 12) cn, ⟨Know.saneF rx.f, rx.v, rx.no.take 12⟩⟩ : RFr)]).flatMap rfV))) (V11 : Hid (∀ W : World, Below wL.heap.size wL W → Row W g11 25 #[.slice none 0 0, .slice none 0 0])) (G11 : Hid (∀ W : World, Below wL.heap.size wL W → wu.heap.size ≤ g11)), G 1 #[true, true, true, true, true, true, true, true, true, true, true, false] ((((((fr.put (some 62) (.slice (some ⟨g0, 0, none⟩) 0 0)).put (some 65) (.slice a3 n3 c3)).put (some 67) (.slice (some ⟨gx, 0, none⟩) 1 1)).put (some 68) (.slice a6 n6 c6)).put (some 71) (.agg #[.slice a6 n6 c6, .slice B5 k.items.length q5])).put (some 11) (.pointer (some ⟨g11, 0, none⟩))) wL := by as_aux_lemma =>
     intro g0 a3 n3 c3 gx a6 n6 c6 g11 wL hH O6 V11 G11
     refine hG1 _ _ _ _ ?_
     simp only [fr, zz]
     have hHeld := hH.out
     have Z11 := Lib.hid (V11.out wL (Below.refl _ _))
     have GG11 : Hid (wu.heap.size ≤ g11) := Lib.hid (G11.out wL (Below.refl _ _))
     have hallR : ∀ r ∈ RS ++ [(⟨.slice A7 (Know.saneF rx.f).length c7, .slice An (min rx.no.length 12) cn, ⟨Know.saneF rx.f, rx.v, rx.no.take 12⟩⟩ : RFr)], r.In wL AnyB ∧ r.x.v.length = 65 := fun r hr => (List.mem_append.1 hr).elim (fun q => ⟨(RW8.out wL hHeld).2 r q, (RO.out r q).1⟩) (fun q => by rw [List.mem_singleton.1 q]; exact ⟨HR8.out wL hHeld, H65.out⟩)
     have KZo : Hid (Kns wL AnyB (.agg #[.slice a6 n6 c6, .slice B5 k.items.length q5]) ⟨k.frags ++ [⟨Know.saneF rx.f, rx.v, rx.no.take 12⟩], k.items⟩) := Lib.hid ⟨_, _, rfl, ⟨RS ++ [(⟨.slice A7 (Know.saneF rx.f).length c7, .slice An (min rx.no.length 12) cn, ⟨Know.saneF rx.f, rx.v, rx.no.take 12⟩⟩ : RFr)], (by rw [List.map_append, ERS.out]; rfl), Rws.ofOwn (F := AnyB) (O6.out wL (Below.refl _ _)) rfl (fun r hr => rf_len (hallR r hr).2) (fun _ _ _ _ => trivial), fun r hr => (hallR r hr).1⟩, (HK8.out wL hHeld).2⟩
     clear hallR
     refine wpAnyH_ready (rs := [11]) (by kernel_rfl) (by simp) ?_
     refine AllReadyH.cons rfl (fun K hK => ?_) AllReadyH.nil
     refine step_rstore (cs := [.slice a6 n6 c6, .slice B5 k.items.length q5]) (.tmp 11) (.tmp 71) rfl (by rfl) (by rfl) (by rfl) Z11.out (knSize _ _) rfl (two_one rfl rfl) ?_
     rintro wz hrow hkp
     have hN := hHeld.trans (hkp.below hHeld.size (fun i e => by have := G11.out wL (Below.refl _ _); omega))
     have KZo := Lib.hid (Kns.box KZo.out Z11.out hkp)
     have Z11 := Lib.hid hrow
     clear hrow hkp
     refine hK.out _ _ hN (fun hHeld => ?_)
     refine wpAnyH_done (by kernel_rfl) ?_ _
     have HW4 := Lib.hid hHeld
     clear hHeld V11 G11 O6 hG1 hG2 i1 hi1 hy0 hy1 hy2
     have HT := Lib.hid (HW3.out.trans (HW4.out.mono HW3.out.size))
     have HX := Lib.hid (HW2.out.trans (HT.out.mono HW2.out.size))
     have SFz := Lib.hid (fun (W : World) (h : InB wz W) => SF.out W (HX.out.trans (h.below.mono HX.out.size)))
     have KPz := Lib.hid (fun (W : World) (h : InB wz W) => KPo.out.below (HT.out.trans (h.below.mono HT.out.size)))
     have KWz := Lib.hid (fun (W : World) (h : InB wz W) => KWo.out.below (HT.out.trans (h.below.mono HT.out.size)))
     have eY : (⟨k.frags, k.items ++ [(⟨⟨b1, b2⟩, uv⟩ : Know.It)]⟩ : Know.K) = (Know.union k ⟨[], [(⟨⟨b1, b2⟩, uv⟩ : Know.It)]⟩) := by show _ = (⟨k.frags ++ [], _⟩ : Know.K); rw [List.append_nil]
     have eZ : (⟨k.frags ++ [⟨Know.saneF rx.f, rx.v, rx.no.take 12⟩], k.items⟩ : Know.K) = (Know.union k ⟨[⟨Know.saneF rx.f, rx.v, rx.no.take 12⟩], []⟩) := by show _ = (⟨_, k.items ++ []⟩ : Know.K); rw [List.append_nil]
     rw [eY] at KYo
     rw [eZ] at KZo
     clear eY eZ
     have KYz := Lib.hid (fun (W : World) (h : InB wz W) => KYo.out.below (HW4.out.trans (h.below.mono HW4.out.size)))
     have KZz := Lib.hid (fun (W : World) (h : InB wz W) => KZo.out.below h.below)
     have OP := Lib.hid (Know.canon_ok OA.out CPo.out)
     have OW := Lib.hid (Know.canon_ok OG.out CWo.out)
     obtain ⟨p1, hp1⟩ : ∃ q : Bool, q = true ↔ Know.Contains (Know.union k ⟨[], [(⟨⟨b1, b2⟩, uv⟩ : Know.It)]⟩) ⟨y1, y2⟩ ⟨x1, x2⟩ (Know.saneF f) := ⟨decide (Know.Contains (Know.union k ⟨[], [(⟨⟨b1, b2⟩, uv⟩ : Know.It)]⟩) ⟨y1, y2⟩ ⟨x1, x2⟩ (Know.saneF f)), decide_eq_true_iff⟩
     obtain ⟨p2, hp2⟩ : ∃ q : Bool, q = true ↔ Know.Contains (Know.union k ⟨[⟨Know.saneF rx.f, rx.v, rx.no.take 12⟩], []⟩) ⟨y1, y2⟩ ⟨x1, x2⟩ (Know.saneF f) := ⟨decide (Know.Contains (Know.union k ⟨[⟨Know.saneF rx.f, rx.v, rx.no.take 12⟩], []⟩) ⟨y1, y2⟩ ⟨x1, x2⟩ (Know.saneF f)), decide_eq_true_iff⟩
     have AWq := Lib.hid (fun (W : World) (h : InB wz W) => AW.out W)
     have FP := Lib.hid (fun (W : World) (h : InB wz W) => ref_kform (KPz.out W h) (canon_form OA.out CPo.out))
     have FW := Lib.hid (fun (W : World) (h : InB wz W) => ref_kform (KWz.out W h) (canon_form OG.out CWo.out))
     have C1 := Lib.hid (fun (W : World) (h : InB wz W) => law_contains KO ⟨y1, y2⟩ ⟨x1, x2⟩ p1 (KPz.out W h) (SFz.out W h) OP.out (saneF_ok f) Ask.out.bv (hp1.trans (Know.canon_contains OA.out.sane CPo.out _ _ _).symm))
     have R1 := Lib.hid (fun (W : World) (h : InB wz W) => law_refcon ⟨y1, y2⟩ ⟨x1, x2⟩ p1 (KYz.out W h) (SFz.out W h) OA.out (Know.saneF_fine f) hp1)
     have C2 := Lib.hid (fun (W : World) (h : InB wz W) => law_contains KO ⟨y1, y2⟩ ⟨x1, x2⟩ p2 (KWz.out W h) (SFz.out W h) OW.out (saneF_ok f) Ask.out.bv (hp2.trans (Know.canon_contains OG.out.sane CWo.out _ _ _).symm))
     have R2 := Lib.hid (fun (W : World) (h : InB wz W) => law_refcon ⟨y1, y2⟩ ⟨x1, x2⟩ p2 (KZz.out W h) (SFz.out W h) OG.out (Know.saneF_fine f) hp2)
     have Y8 := Lib.hid (Z8.out.below HT.out Z8.out.inHeap)
     have Y9 := Lib.hid (Z9.out.below HT.out Z9.out.inHeap)
     have Y10 := Lib.hid (Z10.out.below HW4.out Z10.out.inHeap)
     have Y6 := Lib.hid (Z6.out.below HX.out Z6.out.inHeap)
     have XG := Lib.hid (fun (W : World) (h : InB wz W) => (⟨(Y8.out.below h.below Y8.out.inHeap).at 0, (Y8.out.below h.below Y8.out.inHeap).at 1, (Y9.out.below h.below Y9.out.inHeap).at 0, (Y9.out.below h.below Y9.out.inHeap).at 1, (Y10.out.below h.below Y10.out.inHeap).at 0, (Y10.out.below h.below Y10.out.inHeap).at 1, (Z11.out.below h.below Z11.out.inHeap).at 0, (Z11.out.below h.below Z11.out.inHeap).at 1, (Y6.out.below h.below Y6.out.inHeap).at 0, (Y6.out.below h.below Y6.out.inHeap).at 1, (Y6.out.below h.below Y6.out.inHeap).at 2, (Y6.out.below h.below Y6.out.inHeap).at 3⟩ : W.cell? ⟨g8, 0, none⟩ = some (.slice pa cp.frags.length pc) ∧ W.cell? ⟨g8, 1, none⟩ = some (.slice qa cp.items.length qc) ∧ W.cell? ⟨g9, 0, none⟩ = some (.slice ra cw.frags.length rc) ∧ W.cell? ⟨g9, 1, none⟩ = some (.slice sa cw.items.length sc) ∧ W.cell? ⟨g10, 0, none⟩ = some (.slice A5 k.frags.length p5) ∧ W.cell? ⟨g10, 1, none⟩ = some (.slice a14 n14 c14) ∧ W.cell? ⟨g11, 0, none⟩ = some (.slice a6 n6 c6) ∧ W.cell? ⟨g11, 1, none⟩ = some (.slice B5 k.items.length q5) ∧ W.cell? ⟨g6, 0, none⟩ = some (.int .i64 y1) ∧ W.cell? ⟨g6, 1, none⟩ = some (.int .i64 y2) ∧ W.cell? ⟨g6, 2, none⟩ = some (.int .i64 x1) ∧ W.cell? ⟨g6, 3, none⟩ = some (.int .i64 x2)))
     have HE := Lib.hid (B10.out.trans (HX.out.mono B10.out.size))
     clear hp1 hp2 Z3 Z4 Z5 Z6 Z8 Z9 Z10 Z11
     go_wp2_with fail
     refine wp_region_below (by assumption) (by kernel_rfl) ?_
     (first | (refine wq_call (by kernel_rfl) ?hent (fun w hSw => inB_calls hSw (AWq.out w hSw)) ?_; (case hent => (intro w hSw; go_simp; done))) | (refine wq_call (by kernel_rfl) ?hent (fun w hSw => inB_calls hSw (FP.out w hSw)) ?_; (case hent => (intro w hSw; go_simp; done))) | (refine wq_call (by kernel_rfl) ?hent (fun w hSw => inB_calls hSw (FW.out w hSw)) ?_; (case hent => (intro w hSw; go_simp; done))) | (refine wq_call (by kernel_rfl) ?hent (fun w hSw => inB_calls hSw (C1.out w hSw)) ?_; (case hent => (intro w hSw; go_simp; done))) | (refine wq_call (by kernel_rfl) ?hent (fun w hSw => inB_calls hSw (R1.out w hSw)) ?_; (case hent => (intro w hSw; go_simp; done))) | (refine wq_call (by kernel_rfl) ?hent (fun w hSw => inB_calls hSw (C2.out w hSw)) ?_; (case hent => (intro w hSw; go_simp; done))) | (refine wq_call (by kernel_rfl) ?hent (fun w hSw => inB_calls hSw (R2.out w hSw)) ?_; (case hent => (intro w hSw; go_simp; done))))
     simp only [zz]
     refine wq_td ?_
     simp only [zz]
     refine wq_take (v := ?_) (by kernel_rfl) (by intro w hSw; have hXG := XG.out w hSw; go_simp; first | done | with_reducible rfl) ?_
     simp only [zz]
     (first | (refine wq_call (by kernel_rfl) ?hent (fun w hSw => inB_calls hSw (AWq.out w hSw)) ?_; (case hent => (intro w hSw; go_simp; done))) | (refine wq_call (by kernel_rfl) ?hent (fun w hSw => inB_calls hSw (FP.out w hSw)) ?_; (case hent => (intro w hSw; go_simp; done))) | (refine wq_call (by kernel_rfl) ?hent (fun w hSw => inB_calls hSw (FW.out w hSw)) ?_; (case hent => (intro w hSw; go_simp; done))) | (refine wq_call (by kernel_rfl) ?hent (fun w hSw => inB_calls hSw (C1.out w hSw)) ?_; (case hent => (intro w hSw; go_simp; done))) | (refine wq_call (by kernel_rfl) ?hent (fun w hSw => inB_calls hSw (R1.out w hSw)) ?_; (case hent => (intro w hSw; go_simp; done))) | (refine wq_call (by kernel_rfl) ?hent (fun w hSw => inB_calls hSw (C2.out w hSw)) ?_; (case hent => (intro w hSw; go_simp; done))) | (refine wq_call (by kernel_rfl) ?hent (fun w hSw => inB_calls hSw (R2.out w hSw)) ?_; (case hent => (intro w hSw; go_simp; done))))
     simp only [zz]
     refine wq_td ?_
     simp only [zz]
     refine wq_td ?_
     simp only [zz]
     refine wq_take (v := ?_) (by kernel_rfl) (by intro w hSw; have hXG := XG.out w hSw; go_simp; first | done | with_reducible rfl) ?_
     simp only [zz]
     (first | (refine wq_call (by kernel_rfl) ?hent (fun w hSw => inB_calls hSw (AWq.out w hSw)) ?_; (case hent => (intro w hSw; go_simp; done))) | (refine wq_call (by kernel_rfl) ?hent (fun w hSw => inB_calls hSw (FP.out w hSw)) ?_; (case hent => (intro w hSw; go_simp; done))) | (refine wq_call (by kernel_rfl) ?hent (fun w hSw => inB_calls hSw (FW.out w hSw)) ?_; (case hent => (intro w hSw; go_simp; done))) | (refine wq_call (by kernel_rfl) ?hent (fun w hSw => inB_calls hSw (C1.out w hSw)) ?_; (case hent => (intro w hSw; go_simp; done))) | (refine wq_call (by kernel_rfl) ?hent (fun w hSw => inB_calls hSw (R1.out w hSw)) ?_; (case hent => (intro w hSw; go_simp; done))) | (refine wq_call (by kernel_rfl) ?hent (fun w hSw => inB_calls hSw (C2.out w hSw)) ?_; (case hent => (intro w hSw; go_simp; done))) | (refine wq_call (by kernel_rfl) ?hent (fun w hSw => inB_calls hSw (R2.out w hSw)) ?_; (case hent => (intro w hSw; go_simp; done))))
     simp only [zz]
     refine wq_td ?_
     simp only [zz]
     refine wq_td ?_
     simp only [zz]
     refine wq_take (v := ?_) (by kernel_rfl) (by intro w hSw; have hXG := XG.out w hSw; go_simp; first | done | with_reducible rfl) ?_
     simp only [zz]
     refine wq_td ?_
     simp only [zz]
     refine wq_take (v := ?_) (by kernel_rfl) (by intro w hSw; have hXG := XG.out w hSw; go_simp; first | done | with_reducible rfl) ?_
     simp only [zz]
     refine wq_td ?_
     simp only [zz]
     refine wq_take (v := ?_) (by kernel_rfl) (by intro w hSw; have hXG := XG.out w hSw; go_simp; first | done | with_reducible rfl) ?_
     simp only [zz]
     refine wq_td ?_
     simp only [zz]
     (first | (refine wq_call (by kernel_rfl) ?hent (fun w hSw => inB_calls hSw (AWq.out w hSw)) ?_; (case hent => (intro w hSw; go_simp; done))) | (refine wq_call (by kernel_rfl) ?hent (fun w hSw => inB_calls hSw (FP.out w hSw)) ?_; (case hent => (intro w hSw; go_simp; done))) | (refine wq_call (by kernel_rfl) ?hent (fun w hSw => inB_calls hSw (FW.out w hSw)) ?_; (case hent => (intro w hSw; go_simp; done))) | (refine wq_call (by kernel_rfl) ?hent (fun w hSw => inB_calls hSw (C1.out w hSw)) ?_; (case hent => (intro w hSw; go_simp; done))) | (refine wq_call (by kernel_rfl) ?hent (fun w hSw => inB_calls hSw (R1.out w hSw)) ?_; (case hent => (intro w hSw; go_simp; done))) | (refine wq_call (by kernel_rfl) ?hent (fun w hSw => inB_calls hSw (C2.out w hSw)) ?_; (case hent => (intro w hSw; go_simp; done))) | (refine wq_call (by kernel_rfl) ?hent (fun w hSw => inB_calls hSw (R2.out w hSw)) ?_; (case hent => (intro w hSw; go_simp; done))))
     simp only [zz]
     refine wq_take (v := ?_) (by kernel_rfl) (by intro w hSw; have hXG := XG.out w hSw; go_simp; first | done | with_reducible rfl) ?_
     simp only [zz]
     refine wq_td ?_
     simp only [zz]
     refine wq_take (v := ?_) (by kernel_rfl) (by intro w hSw; have hXG := XG.out w hSw; go_simp; first | done | with_reducible rfl) ?_
     simp only [zz]
     refine wq_td ?_
     simp only [zz]
     refine wq_take (v := ?_) (by kernel_rfl) (by intro w hSw; have hXG := XG.out w hSw; go_simp; first | done | with_reducible rfl) ?_
     simp only [zz]
     refine wq_td ?_
     simp only [zz]
     (first | (refine wq_call (by kernel_rfl) ?hent (fun w hSw => inB_calls hSw (AWq.out w hSw)) ?_; (case hent => (intro w hSw; go_simp; done))) | (refine wq_call (by kernel_rfl) ?hent (fun w hSw => inB_calls hSw (FP.out w hSw)) ?_; (case hent => (intro w hSw; go_simp; done))) | (refine wq_call (by kernel_rfl) ?hent (fun w hSw => inB_calls hSw (FW.out w hSw)) ?_; (case hent => (intro w hSw; go_simp; done))) | (refine wq_call (by kernel_rfl) ?hent (fun w hSw => inB_calls hSw (C1.out w hSw)) ?_; (case hent => (intro w hSw; go_simp; done))) | (refine wq_call (by kernel_rfl) ?hent (fun w hSw => inB_calls hSw (R1.out w hSw)) ?_; (case hent => (intro w hSw; go_simp; done))) | (refine wq_call (by kernel_rfl) ?hent (fun w hSw => inB_calls hSw (C2.out w hSw)) ?_; (case hent => (intro w hSw; go_simp; done))) | (refine wq_call (by kernel_rfl) ?hent (fun w hSw => inB_calls hSw (R2.out w hSw)) ?_; (case hent => (intro w hSw; go_simp; done))))
     simp only [zz]
     refine wq_td ?_
     simp only [zz]
     refine wq_td ?_
     simp only [zz]
     refine wq_td ?_
     simp only [zz]
     refine wq_take (v := ?_) (by kernel_rfl) (by intro w hSw; have hXG := XG.out w hSw; go_simp; first | done | with_reducible rfl) ?_
     simp only [zz]
     refine wq_td ?_
     simp only [zz]
     refine wq_take (v := ?_) (by kernel_rfl) (by intro w hSw; have hXG := XG.out w hSw; go_simp; first | done | with_reducible rfl) ?_
     simp only [zz]
     refine wq_td ?_
     simp only [zz]
     refine wq_take (v := ?_) (by kernel_rfl) (by intro w hSw; have hXG := XG.out w hSw; go_simp; first | done | with_reducible rfl) ?_
     simp only [zz]
     refine wq_td ?_
     simp only [zz]
     (first | (refine wq_call (by kernel_rfl) ?hent (fun w hSw => inB_calls hSw (AWq.out w hSw)) ?_; (case hent => (intro w hSw; go_simp; done))) | (refine wq_call (by kernel_rfl) ?hent (fun w hSw => inB_calls hSw (FP.out w hSw)) ?_; (case hent => (intro w hSw; go_simp; done))) | (refine wq_call (by kernel_rfl) ?hent (fun w hSw => inB_calls hSw (FW.out w hSw)) ?_; (case hent => (intro w hSw; go_simp; done))) | (refine wq_call (by kernel_rfl) ?hent (fun w hSw => inB_calls hSw (C1.out w hSw)) ?_; (case hent => (intro w hSw; go_simp; done))) | (refine wq_call (by kernel_rfl) ?hent (fun w hSw => inB_calls hSw (R1.out w hSw)) ?_; (case hent => (intro w hSw; go_simp; done))) | (refine wq_call (by kernel_rfl) ?hent (fun w hSw => inB_calls hSw (C2.out w hSw)) ?_; (case hent => (intro w hSw; go_simp; done))) | (refine wq_call (by kernel_rfl) ?hent (fun w hSw => inB_calls hSw (R2.out w hSw)) ?_; (case hent => (intro w hSw; go_simp; done))))
     simp only [zz]
     refine wq_take (v := ?_) (by kernel_rfl) (by intro w hSw; have hXG := XG.out w hSw; go_simp; first | done | with_reducible rfl) ?_
     simp only [zz]
     refine wq_td ?_
     simp only [zz]
     refine wq_take (v := ?_) (by kernel_rfl) (by intro w hSw; have hXG := XG.out w hSw; go_simp; first | done | with_reducible rfl) ?_
     simp only [zz]
     refine wq_td ?_
     simp only [zz]
     refine wq_take (v := ?_) (by kernel_rfl) (by intro w hSw; have hXG := XG.out w hSw; go_simp; first | done | with_reducible rfl) ?_
     simp only [zz]
     refine wq_td ?_
     simp only [zz]
     (first | (refine wq_call (by kernel_rfl) ?hent (fun w hSw => inB_calls hSw (AWq.out w hSw)) ?_; (case hent => (intro w hSw; go_simp; done))) | (refine wq_call (by kernel_rfl) ?hent (fun w hSw => inB_calls hSw (FP.out w hSw)) ?_; (case hent => (intro w hSw; go_simp; done))) | (refine wq_call (by kernel_rfl) ?hent (fun w hSw => inB_calls hSw (FW.out w hSw)) ?_; (case hent => (intro w hSw; go_simp; done))) | (refine wq_call (by kernel_rfl) ?hent (fun w hSw => inB_calls hSw (C1.out w hSw)) ?_; (case hent => (intro w hSw; go_simp; done))) | (refine wq_call (by kernel_rfl) ?hent (fun w hSw => inB_calls hSw (R1.out w hSw)) ?_; (case hent => (intro w hSw; go_simp; done))) | (refine wq_call (by kernel_rfl) ?hent (fun w hSw => inB_calls hSw (C2.out w hSw)) ?_; (case hent => (intro w hSw; go_simp; done))) | (refine wq_call (by kernel_rfl) ?hent (fun w hSw => inB_calls hSw (R2.out w hSw)) ?_; (case hent => (intro w hSw; go_simp; done))))
     simp only [zz]
     refine wq_td ?_
     simp only [zz]
     refine wq_td ?_
     simp only [zz]
     refine wq_td ?_
     simp only [zz]
     refine wq_nil ?_
     intro wq hq
     have HQ1 := Lib.hid hq
     clear hq
     have HF := Lib.hid (HE.out.trans (HQ1.out.below.mono HE.out.size))
     go_wp2_with fail
     go_ret
     exact ⟨by simp, HF.out⟩
    have T0_3_5_6 : ∀ (g0 : Nat) (a3 : Option Addr) (n3 : Nat) (c3 : Nat) (gx : Nat) (a6 : Option Addr) (n6 : Nat) (c6 : Nat) (wL : World) (hH : Hid (Below wu.heap.size wu wL)) (O6 : Hid (∀ W : World, Below wL.heap.size wL W → W.ownsRow wu.heap.size 31 67 (.slice a6 n6 c6) (RS ++ [(⟨.slice A7 (Know.saneF rx.f).length c7, .slice An (min rx.no.length 12) cn, ⟨Know.saneF rx.f, rx.v, rx.no.take 12⟩⟩ : RFr)]).length ((RS ++ [(⟨.slice A7 (Know.saneF rx.f).length c7, .slice An (min rx.no.length 12) cn, ⟨Know.saneF rx.f, rx.v, rx.no.take 12⟩⟩ : RFr)]).flatMap rfV))), G 2 #[true, true, true, true, true, true, true, true, true, true, false, false] (((((fr.put (some 62) (.slice (some ⟨g0, 0, none⟩) 0 0)).put (some 65) (.slice a3 n3 c3)).put (some 67) (.slice (some ⟨gx, 0, none⟩) 1 1)).put (some 68) (.slice a6 n6 c6)).put (some 71) (.agg #[.slice a6 n6 c6, .slice B5 k.items.length q5])) wL := by as_aux_lemma =>
     intro g0 a3 n3 c3 gx a6 n6 c6 wL hH O6
     refine hG1 _ _ _ _ ?_
     simp only [fr, zz]
     have hHeld := hH.out
     refine wpAnyH_ready (rs := [10]) (by kernel_rfl) (by simp) ?_
     refine (AllReadyH.cons rfl (fun K hK => ?_) AllReadyH.nil)
     refine step_kalloc rfl (by rfl) ?_
     rintro g11 Y hgs hrow hbN
     have N_V11 := fun (W : World) (h : Below Y.heap.size Y W) => (hrow.below h hrow.inHeap : Row W g11 25 #[.slice none 0 0, .slice none 0 0])
     have N_G11 := fun (W : World) (h : Below Y.heap.size Y W) => (by have := hHeld.size; omega : wu.heap.size ≤ g11)
     have hHN := hHeld.trans (hbN.mono hHeld.size)
     refine hK.out _ _ hHN (fun hHeld => ?_)
     try simp only [zz]
     exact hG2 _ _ _ _ _ _ (T0_3_5_6_10 g0 a3 n3 c3 gx a6 n6 c6 g11 Y (Lib.hid hHN) (hxt O6 hbN) (Lib.hid N_V11) (Lib.hid N_G11)) (by kernel_rfl) (by kernel_rfl)
    have T0_3_5_10 : ∀ (g0 : Nat) (a3 : Option Addr) (n3 : Nat) (c3 : Nat) (gx : Nat) (g11 : Nat) (wL : World) (hH : Hid (Below wu.heap.size wu wL)) (O3 : Hid (∀ W : World, Below wL.heap.size wL W → W.ownsRow wu.heap.size 31 67 (.slice a3 n3 c3) (RS).length ((RS).flatMap rfV))) (VX : Hid (∀ W : World, Below wL.heap.size wL W → Row W gx 31 (rfV (⟨.slice A7 (Know.saneF rx.f).length c7, .slice An (min rx.no.length 12) cn, ⟨Know.saneF rx.f, rx.v, rx.no.take 12⟩⟩ : RFr)).toArray)) (V11 : Hid (∀ W : World, Below wL.heap.size wL W → Row W g11 25 #[.slice none 0 0, .slice none 0 0])) (G11 : Hid (∀ W : World, Below wL.heap.size wL W → wu.heap.size ≤ g11)) (Q3_10 : Hid (¬ (Value.slice a3 n3 c3).ownBlock = some g11)), G 3 #[true, true, true, true, true, true, false, true, true, false, true, false] ((((fr.put (some 62) (.slice (some ⟨g0, 0, none⟩) 0 0)).put (some 65) (.slice a3 n3 c3)).put (some 67) (.slice (some ⟨gx, 0, none⟩) 1 1)).put (some 11) (.pointer (some ⟨g11, 0, none⟩))) wL := by as_aux_lemma =>
     intro g0 a3 n3 c3 gx g11 wL hH O3 VX V11 G11 Q3_10
     refine hG1 _ _ _ _ ?_
     simp only [fr, zz]
     have hHeld := hH.out
     refine wpAnyH_ready (rs := [6]) (by kernel_rfl) (by simp) ?_
     refine (AllReadyH.cons rfl (fun K hK => ?_) AllReadyH.nil)
     have hO := O3.out wL (Below.refl _ _)
     refine step_frjoin rfl (.tmp 65) (.tmp 67) (by rfl) (l := RS) (m := [(⟨.slice A7 (Know.saneF rx.f).length c7, .slice An (min rx.no.length 12) cn, ⟨Know.saneF rx.f, rx.v, rx.no.take 12⟩⟩ : RFr)]) (v := .slice a3 n3 c3) (xv := .slice (some ⟨gx, 0, none⟩) 1 1) (by kernel_rfl) (by kernel_rfl) hO (rws_row (VX.out wL (Below.refl _ _))) (fun r hr => (RO.out r hr).1) XO.out (by have := HRL8.out; show RS.length + 1 ≤ 1000; omega) hHeld.size ?_
     rintro a6 n6 c6 Y hown hgr hnear
     have hbB : Below wu.heap.size wL Y := (Below.refl _ wL).grown hgr hHeld.size (fun j hj => (hO.lt j hj).1)
     have hkg : Kept (fun i => (Value.slice a3 n3 c3).ownBlock = some i) wL Y := Kept.ofGrown hgr (fun i h => h)
     have N_O6 := fun (W : World) (h : Below Y.heap.size Y W) => (row_below hown h : W.ownsRow wu.heap.size 31 67 (.slice a6 n6 c6) (RS ++ [(⟨.slice A7 (Know.saneF rx.f).length c7, .slice An (min rx.no.length 12) cn, ⟨Know.saneF rx.f, rx.v, rx.no.take 12⟩⟩ : RFr)]).length ((RS ++ [(⟨.slice A7 (Know.saneF rx.f).length c7, .slice An (min rx.no.length 12) cn, ⟨Know.saneF rx.f, rx.v, rx.no.take 12⟩⟩ : RFr)]).flatMap rfV))
     have hHN := hHeld.trans hbB
     refine hK.out _ _ hHN (fun hHeld => ?_)
     try simp only [zz]
     refine wpAnyH_td (i := 9) rfl ?_
     simp only [zz]
     exact hG2 _ _ _ _ _ _ (T0_3_5_6_10 g0 a3 n3 c3 gx a6 n6 c6 g11 Y (Lib.hid hHN) (Lib.hid N_O6) (Lib.hid (row_thru (V11.out wL (Below.refl _ _)) hkg (Q3_10.out))) (Lib.hid (fun W h => G11.out wL (Below.refl _ _)))) (by kernel_rfl) (by kernel_rfl)
    have T0_3_5 : ∀ (g0 : Nat) (a3 : Option Addr) (n3 : Nat) (c3 : Nat) (gx : Nat) (wL : World) (hH : Hid (Below wu.heap.size wu wL)) (O3 : Hid (∀ W : World, Below wL.heap.size wL W → W.ownsRow wu.heap.size 31 67 (.slice a3 n3 c3) (RS).length ((RS).flatMap rfV))) (VX : Hid (∀ W : World, Below wL.heap.size wL W → Row W gx 31 (rfV (⟨.slice A7 (Know.saneF rx.f).length c7, .slice An (min rx.no.length 12) cn, ⟨Know.saneF rx.f, rx.v, rx.no.take 12⟩⟩ : RFr)).toArray)), G 4 #[true, true, true, true, true, true, false, true, true, false, false, false] (((fr.put (some 62) (.slice (some ⟨g0, 0, none⟩) 0 0)).put (some 65) (.slice a3 n3 c3)).put (some 67) (.slice (some ⟨gx, 0, none⟩) 1 1)) wL := by as_aux_lemma =>
     intro g0 a3 n3 c3 gx wL hH O3 VX
     refine hG1 _ _ _ _ ?_
     simp only [fr, zz]
     have hHeld := hH.out
     refine wpAnyH_ready (rs := [6, 10]) (by kernel_rfl) (by simp) ?_
     refine (AllReadyH.cons rfl (fun K hK => ?_) (AllReadyH.cons rfl (fun K hK => ?_) AllReadyH.nil))
     ·have hO := O3.out wL (Below.refl _ _)
      refine step_frjoin rfl (.tmp 65) (.tmp 67) (by rfl) (l := RS) (m := [(⟨.slice A7 (Know.saneF rx.f).length c7, .slice An (min rx.no.length 12) cn, ⟨Know.saneF rx.f, rx.v, rx.no.take 12⟩⟩ : RFr)]) (v := .slice a3 n3 c3) (xv := .slice (some ⟨gx, 0, none⟩) 1 1) (by kernel_rfl) (by kernel_rfl) hO (rws_row (VX.out wL (Below.refl _ _))) (fun r hr => (RO.out r hr).1) XO.out (by have := HRL8.out; show RS.length + 1 ≤ 1000; omega) hHeld.size ?_
      rintro a6 n6 c6 Y hown hgr hnear
      have hbB : Below wu.heap.size wL Y := (Below.refl _ wL).grown hgr hHeld.size (fun j hj => (hO.lt j hj).1)
      have hkg : Kept (fun i => (Value.slice a3 n3 c3).ownBlock = some i) wL Y := Kept.ofGrown hgr (fun i h => h)
      have N_O6 := fun (W : World) (h : Below Y.heap.size Y W) => (row_below hown h : W.ownsRow wu.heap.size 31 67 (.slice a6 n6 c6) (RS ++ [(⟨.slice A7 (Know.saneF rx.f).length c7, .slice An (min rx.no.length 12) cn, ⟨Know.saneF rx.f, rx.v, rx.no.take 12⟩⟩ : RFr)]).length ((RS ++ [(⟨.slice A7 (Know.saneF rx.f).length c7, .slice An (min rx.no.length 12) cn, ⟨Know.saneF rx.f, rx.v, rx.no.take 12⟩⟩ : RFr)]).flatMap rfV))
      have hHN := hHeld.trans hbB
      refine hK.out _ _ hHN (fun hHeld => ?_)
      try simp only [zz]
      refine wpAnyH_td (i := 9) rfl ?_
      simp only [zz]
      exact hG2 _ _ _ _ _ _ (T0_3_5_6 g0 a3 n3 c3 gx a6 n6 c6 Y (Lib.hid hHN) (Lib.hid N_O6)) (by kernel_rfl) (by kernel_rfl)
     ·refine step_kalloc rfl (by rfl) ?_
      rintro g11 Y hgs hrow hbN
      have N_V11 := fun (W : World) (h : Below Y.heap.size Y W) => (hrow.below h hrow.inHeap : Row W g11 25 #[.slice none 0 0, .slice none 0 0])
      have N_G11 := fun (W : World) (h : Below Y.heap.size Y W) => (by have := hHeld.size; omega : wu.heap.size ≤ g11)
      have hHN := hHeld.trans (hbN.mono hHeld.size)
      refine hK.out _ _ hHN (fun hHeld => ?_)
      try simp only [zz]
      exact hG2 _ _ _ _ _ _ (T0_3_5_10 g0 a3 n3 c3 gx g11 Y (Lib.hid hHN) (hxt O3 hbN) (hxt VX hbN) (Lib.hid N_V11) (Lib.hid N_G11) (Lib.hid (by intro e; have h2 := ((O3.out wL (Below.refl _ _)).lt _ e).2; omega))) (by kernel_rfl) (by kernel_rfl)
    have T0_3_10 : ∀ (g0 : Nat) (a3 : Option Addr) (n3 : Nat) (c3 : Nat) (g11 : Nat) (wL : World) (hH : Hid (Below wu.heap.size wu wL)) (O3 : Hid (∀ W : World, Below wL.heap.size wL W → W.ownsRow wu.heap.size 31 67 (.slice a3 n3 c3) (RS).length ((RS).flatMap rfV))) (V11 : Hid (∀ W : World, Below wL.heap.size wL W → Row W g11 25 #[.slice none 0 0, .slice none 0 0])) (G11 : Hid (∀ W : World, Below wL.heap.size wL W → wu.heap.size ≤ g11)) (Q3_10 : Hid (¬ (Value.slice a3 n3 c3).ownBlock = some g11)), G 4 #[true, true, true, true, true, false, false, true, true, false, true, false] (((fr.put (some 62) (.slice (some ⟨g0, 0, none⟩) 0 0)).put (some 65) (.slice a3 n3 c3)).put (some 11) (.pointer (some ⟨g11, 0, none⟩))) wL := by as_aux_lemma =>
     intro g0 a3 n3 c3 g11 wL hH O3 V11 G11 Q3_10
     refine hG1 _ _ _ _ ?_
     simp only [fr, zz]
     have hHeld := hH.out
     refine wpAnyH_ready (rs := [5]) (by kernel_rfl) (by simp) ?_
     refine (AllReadyH.cons rfl (fun K hK => ?_) AllReadyH.nil)
     refine step_one rfl 22 31 (.tmp 66) (by rfl) (cs := rfV (⟨.slice A7 (Know.saneF rx.f).length c7, .slice An (min rx.no.length 12) cn, ⟨Know.saneF rx.f, rx.v, rx.no.take 12⟩⟩ : RFr)) (by rfl) Tryz.underlying22 hi1 hy0 hy1 (rf_len H65.out) ?_
     rintro gx Y hgs hrow hbN
     have N_VX := fun (W : World) (h : Below Y.heap.size Y W) => (hrow.below h hrow.inHeap : Row W gx 31 (rfV (⟨.slice A7 (Know.saneF rx.f).length c7, .slice An (min rx.no.length 12) cn, ⟨Know.saneF rx.f, rx.v, rx.no.take 12⟩⟩ : RFr)).toArray)
     have hHN := hHeld.trans (hbN.mono hHeld.size)
     refine hK.out _ _ hHN (fun hHeld => ?_)
     try simp only [zz]
     exact hG2 _ _ _ _ _ _ (T0_3_5_10 g0 a3 n3 c3 gx g11 Y (Lib.hid hHN) (hxt O3 hbN) (Lib.hid N_VX) (hxt V11 hbN) (hxt G11 hbN) Q3_10) (by kernel_rfl) (by kernel_rfl)
    have T0_5_10 : ∀ (g0 : Nat) (gx : Nat) (g11 : Nat) (wL : World) (hH : Hid (Below wu.heap.size wu wL)) (O0 : Hid (∀ W : World, Below wL.heap.size wL W → W.ownsRow wu.heap.size 31 67 (.slice (some ⟨g0, 0, none⟩) 0 0) (([] : List RFr)).length ((([] : List RFr)).flatMap rfV))) (VX : Hid (∀ W : World, Below wL.heap.size wL W → Row W gx 31 (rfV (⟨.slice A7 (Know.saneF rx.f).length c7, .slice An (min rx.no.length 12) cn, ⟨Know.saneF rx.f, rx.v, rx.no.take 12⟩⟩ : RFr)).toArray)) (V11 : Hid (∀ W : World, Below wL.heap.size wL W → Row W g11 25 #[.slice none 0 0, .slice none 0 0])) (G11 : Hid (∀ W : World, Below wL.heap.size wL W → wu.heap.size ≤ g11)) (P0_5 : Hid (¬ g0 = gx)) (P0_10 : Hid (¬ g0 = g11)), G 4 #[true, true, true, false, true, true, false, true, true, false, true, false] (((fr.put (some 62) (.slice (some ⟨g0, 0, none⟩) 0 0)).put (some 67) (.slice (some ⟨gx, 0, none⟩) 1 1)).put (some 11) (.pointer (some ⟨g11, 0, none⟩))) wL := by as_aux_lemma =>
     intro g0 gx g11 wL hH O0 VX V11 G11 P0_5 P0_10
     refine hG1 _ _ _ _ ?_
     simp only [fr, zz]
     have hHeld := hH.out
     refine wpAnyH_ready (rs := [3]) (by kernel_rfl) (by simp) ?_
     refine (AllReadyH.cons rfl (fun K hK => ?_) AllReadyH.nil)
     have hO := O0.out wL (Below.refl _ _)
     refine step_frjoin rfl (.tmp 62) (.tmp 64) (by rfl) (l := []) (m := RS) (v := .slice (some ⟨g0, 0, none⟩) 0 0) (xv := .slice A5 k.frags.length p5) (by kernel_rfl) (by kernel_rfl) hO (RW8.out wL hHeld).1 (fun _ h => (by cases h)) RO.out (by have := HRL8.out; show 0 + RS.length ≤ 1000; omega) hHeld.size ?_
     rintro a3 n3 c3 Y hown hgr hnear
     have hbB : Below wu.heap.size wL Y := (Below.refl _ wL).grown hgr hHeld.size (fun j hj => (hO.lt j hj).1)
     have hkg : Kept (fun i => i = g0) wL Y := Kept.ofGrown hgr (fun i h => (Option.some.inj h).symm)
     have N_O3 := fun (W : World) (h : Below Y.heap.size Y W) => (row_below hown h : W.ownsRow wu.heap.size 31 67 (.slice a3 n3 c3) (RS).length ((RS).flatMap rfV))
     have hHN := hHeld.trans hbB
     refine hK.out _ _ hHN (fun hHeld => ?_)
     try simp only [zz]
     exact hG2 _ _ _ _ _ _ (T0_3_5_10 g0 a3 n3 c3 gx g11 Y (Lib.hid hHN) (Lib.hid N_O3) (Lib.hid (row_thru (VX.out wL (Below.refl _ _)) hkg (fun e => P0_5.out e.symm))) (Lib.hid (row_thru (V11.out wL (Below.refl _ _)) hkg (fun e => P0_10.out e.symm))) (Lib.hid (fun W h => G11.out wL (Below.refl _ _))) (Lib.hid (fun e => hnear.elim (fun h => P0_10.out (Option.some.inj (h.symm.trans e))) (fun h => by have h2 := h _ e; have h1 := (V11.out wL (Below.refl _ _)).inHeap; omega)))) (by kernel_rfl) (by kernel_rfl)
    have T0_3 : ∀ (g0 : Nat) (a3 : Option Addr) (n3 : Nat) (c3 : Nat) (wL : World) (hH : Hid (Below wu.heap.size wu wL)) (O3 : Hid (∀ W : World, Below wL.heap.size wL W → W.ownsRow wu.heap.size 31 67 (.slice a3 n3 c3) (RS).length ((RS).flatMap rfV))), G 5 #[true, true, true, true, true, false, false, true, true, false, false, false] ((fr.put (some 62) (.slice (some ⟨g0, 0, none⟩) 0 0)).put (some 65) (.slice a3 n3 c3)) wL := by as_aux_lemma =>
     intro g0 a3 n3 c3 wL hH O3
     refine hG1 _ _ _ _ ?_
     simp only [fr, zz]
     have hHeld := hH.out
     refine wpAnyH_ready (rs := [5, 10]) (by kernel_rfl) (by simp) ?_
     refine (AllReadyH.cons rfl (fun K hK => ?_) (AllReadyH.cons rfl (fun K hK => ?_) AllReadyH.nil))
     ·refine step_one rfl 22 31 (.tmp 66) (by rfl) (cs := rfV (⟨.slice A7 (Know.saneF rx.f).length c7, .slice An (min rx.no.length 12) cn, ⟨Know.saneF rx.f, rx.v, rx.no.take 12⟩⟩ : RFr)) (by rfl) Tryz.underlying22 hi1 hy0 hy1 (rf_len H65.out) ?_
      rintro gx Y hgs hrow hbN
      have N_VX := fun (W : World) (h : Below Y.heap.size Y W) => (hrow.below h hrow.inHeap : Row W gx 31 (rfV (⟨.slice A7 (Know.saneF rx.f).length c7, .slice An (min rx.no.length 12) cn, ⟨Know.saneF rx.f, rx.v, rx.no.take 12⟩⟩ : RFr)).toArray)
      have hHN := hHeld.trans (hbN.mono hHeld.size)
      refine hK.out _ _ hHN (fun hHeld => ?_)
      try simp only [zz]
      exact hG2 _ _ _ _ _ _ (T0_3_5 g0 a3 n3 c3 gx Y (Lib.hid hHN) (hxt O3 hbN) (Lib.hid N_VX)) (by kernel_rfl) (by kernel_rfl)
     ·refine step_kalloc rfl (by rfl) ?_
      rintro g11 Y hgs hrow hbN
      have N_V11 := fun (W : World) (h : Below Y.heap.size Y W) => (hrow.below h hrow.inHeap : Row W g11 25 #[.slice none 0 0, .slice none 0 0])
      have N_G11 := fun (W : World) (h : Below Y.heap.size Y W) => (by have := hHeld.size; omega : wu.heap.size ≤ g11)
      have hHN := hHeld.trans (hbN.mono hHeld.size)
      refine hK.out _ _ hHN (fun hHeld => ?_)
      try simp only [zz]
      exact hG2 _ _ _ _ _ _ (T0_3_10 g0 a3 n3 c3 g11 Y (Lib.hid hHN) (hxt O3 hbN) (Lib.hid N_V11) (Lib.hid N_G11) (Lib.hid (by intro e; have h2 := ((O3.out wL (Below.refl _ _)).lt _ e).2; omega))) (by kernel_rfl) (by kernel_rfl)
    have T0_5 : ∀ (g0 : Nat) (gx : Nat) (wL : World) (hH : Hid (Below wu.heap.size wu wL)) (O0 : Hid (∀ W : World, Below wL.heap.size wL W → W.ownsRow wu.heap.size 31 67 (.slice (some ⟨g0, 0, none⟩) 0 0) (([] : List RFr)).length ((([] : List RFr)).flatMap rfV))) (VX : Hid (∀ W : World, Below wL.heap.size wL W → Row W gx 31 (rfV (⟨.slice A7 (Know.saneF rx.f).length c7, .slice An (min rx.no.length 12) cn, ⟨Know.saneF rx.f, rx.v, rx.no.take 12⟩⟩ : RFr)).toArray)) (P0_5 : Hid (¬ g0 = gx)), G 5 #[true, true, true, false, true, true, false, true, true, false, false, false] ((fr.put (some 62) (.slice (some ⟨g0, 0, none⟩) 0 0)).put (some 67) (.slice (some ⟨gx, 0, none⟩) 1 1)) wL := by as_aux_lemma =>
     intro g0 gx wL hH O0 VX P0_5
     refine hG1 _ _ _ _ ?_
     simp only [fr, zz]
     have hHeld := hH.out
     refine wpAnyH_ready (rs := [3, 10]) (by kernel_rfl) (by simp) ?_
     refine (AllReadyH.cons rfl (fun K hK => ?_) (AllReadyH.cons rfl (fun K hK => ?_) AllReadyH.nil))
     ·have hO := O0.out wL (Below.refl _ _)
      refine step_frjoin rfl (.tmp 62) (.tmp 64) (by rfl) (l := []) (m := RS) (v := .slice (some ⟨g0, 0, none⟩) 0 0) (xv := .slice A5 k.frags.length p5) (by kernel_rfl) (by kernel_rfl) hO (RW8.out wL hHeld).1 (fun _ h => (by cases h)) RO.out (by have := HRL8.out; show 0 + RS.length ≤ 1000; omega) hHeld.size ?_
      rintro a3 n3 c3 Y hown hgr hnear
      have hbB : Below wu.heap.size wL Y := (Below.refl _ wL).grown hgr hHeld.size (fun j hj => (hO.lt j hj).1)
      have hkg : Kept (fun i => i = g0) wL Y := Kept.ofGrown hgr (fun i h => (Option.some.inj h).symm)
      have N_O3 := fun (W : World) (h : Below Y.heap.size Y W) => (row_below hown h : W.ownsRow wu.heap.size 31 67 (.slice a3 n3 c3) (RS).length ((RS).flatMap rfV))
      have hHN := hHeld.trans hbB
      refine hK.out _ _ hHN (fun hHeld => ?_)
      try simp only [zz]
      exact hG2 _ _ _ _ _ _ (T0_3_5 g0 a3 n3 c3 gx Y (Lib.hid hHN) (Lib.hid N_O3) (Lib.hid (row_thru (VX.out wL (Below.refl _ _)) hkg (fun e => P0_5.out e.symm)))) (by kernel_rfl) (by kernel_rfl)
     ·refine step_kalloc rfl (by rfl) ?_
      rintro g11 Y hgs hrow hbN
      have N_V11 := fun (W : World) (h : Below Y.heap.size Y W) => (hrow.below h hrow.inHeap : Row W g11 25 #[.slice none 0 0, .slice none 0 0])
      have N_G11 := fun (W : World) (h : Below Y.heap.size Y W) => (by have := hHeld.size; omega : wu.heap.size ≤ g11)
      have hHN := hHeld.trans (hbN.mono hHeld.size)
      refine hK.out _ _ hHN (fun hHeld => ?_)
      try simp only [zz]
      exact hG2 _ _ _ _ _ _ (T0_5_10 g0 gx g11 Y (Lib.hid hHN) (hxt O0 hbN) (hxt VX hbN) (Lib.hid N_V11) (Lib.hid N_G11) P0_5 (Lib.hid (by have h1 := ((O0.out wL (Below.refl _ _)).lt g0 rfl).2; omega))) (by kernel_rfl) (by kernel_rfl)
    have T0_10 : ∀ (g0 : Nat) (g11 : Nat) (wL : World) (hH : Hid (Below wu.heap.size wu wL)) (O0 : Hid (∀ W : World, Below wL.heap.size wL W → W.ownsRow wu.heap.size 31 67 (.slice (some ⟨g0, 0, none⟩) 0 0) (([] : List RFr)).length ((([] : List RFr)).flatMap rfV))) (V11 : Hid (∀ W : World, Below wL.heap.size wL W → Row W g11 25 #[.slice none 0 0, .slice none 0 0])) (G11 : Hid (∀ W : World, Below wL.heap.size wL W → wu.heap.size ≤ g11)) (P0_10 : Hid (¬ g0 = g11)), G 5 #[true, true, true, false, true, false, false, true, true, false, true, false] ((fr.put (some 62) (.slice (some ⟨g0, 0, none⟩) 0 0)).put (some 11) (.pointer (some ⟨g11, 0, none⟩))) wL := by as_aux_lemma =>
     intro g0 g11 wL hH O0 V11 G11 P0_10
     refine hG1 _ _ _ _ ?_
     simp only [fr, zz]
     have hHeld := hH.out
     refine wpAnyH_ready (rs := [3, 5]) (by kernel_rfl) (by simp) ?_
     refine (AllReadyH.cons rfl (fun K hK => ?_) (AllReadyH.cons rfl (fun K hK => ?_) AllReadyH.nil))
     ·have hO := O0.out wL (Below.refl _ _)
      refine step_frjoin rfl (.tmp 62) (.tmp 64) (by rfl) (l := []) (m := RS) (v := .slice (some ⟨g0, 0, none⟩) 0 0) (xv := .slice A5 k.frags.length p5) (by kernel_rfl) (by kernel_rfl) hO (RW8.out wL hHeld).1 (fun _ h => (by cases h)) RO.out (by have := HRL8.out; show 0 + RS.length ≤ 1000; omega) hHeld.size ?_
      rintro a3 n3 c3 Y hown hgr hnear
      have hbB : Below wu.heap.size wL Y := (Below.refl _ wL).grown hgr hHeld.size (fun j hj => (hO.lt j hj).1)
      have hkg : Kept (fun i => i = g0) wL Y := Kept.ofGrown hgr (fun i h => (Option.some.inj h).symm)
      have N_O3 := fun (W : World) (h : Below Y.heap.size Y W) => (row_below hown h : W.ownsRow wu.heap.size 31 67 (.slice a3 n3 c3) (RS).length ((RS).flatMap rfV))
      have hHN := hHeld.trans hbB
      refine hK.out _ _ hHN (fun hHeld => ?_)
      try simp only [zz]
      exact hG2 _ _ _ _ _ _ (T0_3_10 g0 a3 n3 c3 g11 Y (Lib.hid hHN) (Lib.hid N_O3) (Lib.hid (row_thru (V11.out wL (Below.refl _ _)) hkg (fun e => P0_10.out e.symm))) (Lib.hid (fun W h => G11.out wL (Below.refl _ _))) (Lib.hid (fun e => hnear.elim (fun h => P0_10.out (Option.some.inj (h.symm.trans e))) (fun h => by have h2 := h _ e; have h1 := (V11.out wL (Below.refl _ _)).inHeap; omega)))) (by kernel_rfl) (by kernel_rfl)
     ·refine step_one rfl 22 31 (.tmp 66) (by rfl) (cs := rfV (⟨.slice A7 (Know.saneF rx.f).length c7, .slice An (min rx.no.length 12) cn, ⟨Know.saneF rx.f, rx.v, rx.no.take 12⟩⟩ : RFr)) (by rfl) Tryz.underlying22 hi1 hy0 hy1 (rf_len H65.out) ?_
      rintro gx Y hgs hrow hbN
      have N_VX := fun (W : World) (h : Below Y.heap.size Y W) => (hrow.below h hrow.inHeap : Row W gx 31 (rfV (⟨.slice A7 (Know.saneF rx.f).length c7, .slice An (min rx.no.length 12) cn, ⟨Know.saneF rx.f, rx.v, rx.no.take 12⟩⟩ : RFr)).toArray)
      have hHN := hHeld.trans (hbN.mono hHeld.size)
      refine hK.out _ _ hHN (fun hHeld => ?_)
      try simp only [zz]
      exact hG2 _ _ _ _ _ _ (T0_5_10 g0 gx g11 Y (Lib.hid hHN) (hxt O0 hbN) (Lib.hid N_VX) (hxt V11 hbN) (hxt G11 hbN) (Lib.hid (by have h1 := ((O0.out wL (Below.refl _ _)).lt g0 rfl).2; omega)) P0_10) (by kernel_rfl) (by kernel_rfl)
    have T5_10 : ∀ (gx : Nat) (g11 : Nat) (wL : World) (hH : Hid (Below wu.heap.size wu wL)) (VX : Hid (∀ W : World, Below wL.heap.size wL W → Row W gx 31 (rfV (⟨.slice A7 (Know.saneF rx.f).length c7, .slice An (min rx.no.length 12) cn, ⟨Know.saneF rx.f, rx.v, rx.no.take 12⟩⟩ : RFr)).toArray)) (V11 : Hid (∀ W : World, Below wL.heap.size wL W → Row W g11 25 #[.slice none 0 0, .slice none 0 0])) (G11 : Hid (∀ W : World, Below wL.heap.size wL W → wu.heap.size ≤ g11)), G 5 #[false, true, true, false, true, true, false, true, true, false, true, false] ((fr.put (some 67) (.slice (some ⟨gx, 0, none⟩) 1 1)).put (some 11) (.pointer (some ⟨g11, 0, none⟩))) wL := by as_aux_lemma =>
     intro gx g11 wL hH VX V11 G11
     refine hG1 _ _ _ _ ?_
     simp only [fr, zz]
     have hHeld := hH.out
     refine wpAnyH_ready (rs := [0]) (by kernel_rfl) (by simp) ?_
     refine (AllReadyH.cons rfl (fun K hK => ?_) AllReadyH.nil)
     refine step_build0f rfl (by rfl) wu.heap.size hHeld.size ?_
     rintro g0 Y hgs hown hbN
     have N_O0 := fun (W : World) (h : Below Y.heap.size Y W) => (row_below hown h : W.ownsRow wu.heap.size 31 67 (.slice (some ⟨g0, 0, none⟩) 0 0) (([] : List RFr)).length ((([] : List RFr)).flatMap rfV))
     have hHN := hHeld.trans (hbN.mono hHeld.size)
     refine hK.out _ _ hHN (fun hHeld => ?_)
     try simp only [zz]
     exact hG2 _ _ _ _ _ _ (T0_5_10 g0 gx g11 Y (Lib.hid hHN) (Lib.hid N_O0) (hxt VX hbN) (hxt V11 hbN) (hxt G11 hbN) (Lib.hid (by have h1 := (VX.out wL (Below.refl _ _)).inHeap; omega)) (Lib.hid (by have h1 := (V11.out wL (Below.refl _ _)).inHeap; omega))) (by kernel_rfl) (by kernel_rfl)
    have T0 : ∀ (g0 : Nat) (wL : World) (hH : Hid (Below wu.heap.size wu wL)) (O0 : Hid (∀ W : World, Below wL.heap.size wL W → W.ownsRow wu.heap.size 31 67 (.slice (some ⟨g0, 0, none⟩) 0 0) (([] : List RFr)).length ((([] : List RFr)).flatMap rfV))), G 6 #[true, true, true, false, true, false, false, true, true, false, false, false] (fr.put (some 62) (.slice (some ⟨g0, 0, none⟩) 0 0)) wL := by as_aux_lemma =>
     intro g0 wL hH O0
     refine hG1 _ _ _ _ ?_
     simp only [fr, zz]
     have hHeld := hH.out
     refine wpAnyH_ready (rs := [3, 5, 10]) (by kernel_rfl) (by simp) ?_
     refine (AllReadyH.cons rfl (fun K hK => ?_) (AllReadyH.cons rfl (fun K hK => ?_) (AllReadyH.cons rfl (fun K hK => ?_) AllReadyH.nil)))
     ·have hO := O0.out wL (Below.refl _ _)
      refine step_frjoin rfl (.tmp 62) (.tmp 64) (by rfl) (l := []) (m := RS) (v := .slice (some ⟨g0, 0, none⟩) 0 0) (xv := .slice A5 k.frags.length p5) (by kernel_rfl) (by kernel_rfl) hO (RW8.out wL hHeld).1 (fun _ h => (by cases h)) RO.out (by have := HRL8.out; show 0 + RS.length ≤ 1000; omega) hHeld.size ?_
      rintro a3 n3 c3 Y hown hgr hnear
      have hbB : Below wu.heap.size wL Y := (Below.refl _ wL).grown hgr hHeld.size (fun j hj => (hO.lt j hj).1)
      have hkg : Kept (fun i => i = g0) wL Y := Kept.ofGrown hgr (fun i h => (Option.some.inj h).symm)
      have N_O3 := fun (W : World) (h : Below Y.heap.size Y W) => (row_below hown h : W.ownsRow wu.heap.size 31 67 (.slice a3 n3 c3) (RS).length ((RS).flatMap rfV))
      have hHN := hHeld.trans hbB
      refine hK.out _ _ hHN (fun hHeld => ?_)
      try simp only [zz]
      exact hG2 _ _ _ _ _ _ (T0_3 g0 a3 n3 c3 Y (Lib.hid hHN) (Lib.hid N_O3)) (by kernel_rfl) (by kernel_rfl)
     ·refine step_one rfl 22 31 (.tmp 66) (by rfl) (cs := rfV (⟨.slice A7 (Know.saneF rx.f).length c7, .slice An (min rx.no.length 12) cn, ⟨Know.saneF rx.f, rx.v, rx.no.take 12⟩⟩ : RFr)) (by rfl) Tryz.underlying22 hi1 hy0 hy1 (rf_len H65.out) ?_
      rintro gx Y hgs hrow hbN
      have N_VX := fun (W : World) (h : Below Y.heap.size Y W) => (hrow.below h hrow.inHeap : Row W gx 31 (rfV (⟨.slice A7 (Know.saneF rx.f).length c7, .slice An (min rx.no.length 12) cn, ⟨Know.saneF rx.f, rx.v, rx.no.take 12⟩⟩ : RFr)).toArray)
      have hHN := hHeld.trans (hbN.mono hHeld.size)
      refine hK.out _ _ hHN (fun hHeld => ?_)
      try simp only [zz]
      exact hG2 _ _ _ _ _ _ (T0_5 g0 gx Y (Lib.hid hHN) (hxt O0 hbN) (Lib.hid N_VX) (Lib.hid (by have h1 := ((O0.out wL (Below.refl _ _)).lt g0 rfl).2; omega))) (by kernel_rfl) (by kernel_rfl)
     ·refine step_kalloc rfl (by rfl) ?_
      rintro g11 Y hgs hrow hbN
      have N_V11 := fun (W : World) (h : Below Y.heap.size Y W) => (hrow.below h hrow.inHeap : Row W g11 25 #[.slice none 0 0, .slice none 0 0])
      have N_G11 := fun (W : World) (h : Below Y.heap.size Y W) => (by have := hHeld.size; omega : wu.heap.size ≤ g11)
      have hHN := hHeld.trans (hbN.mono hHeld.size)
      refine hK.out _ _ hHN (fun hHeld => ?_)
      try simp only [zz]
      exact hG2 _ _ _ _ _ _ (T0_10 g0 g11 Y (Lib.hid hHN) (hxt O0 hbN) (Lib.hid N_V11) (Lib.hid N_G11) (Lib.hid (by have h1 := ((O0.out wL (Below.refl _ _)).lt g0 rfl).2; omega))) (by kernel_rfl) (by kernel_rfl)
    have T5 : ∀ (gx : Nat) (wL : World) (hH : Hid (Below wu.heap.size wu wL)) (VX : Hid (∀ W : World, Below wL.heap.size wL W → Row W gx 31 (rfV (⟨.slice A7 (Know.saneF rx.f).length c7, .slice An (min rx.no.length 12) cn, ⟨Know.saneF rx.f, rx.v, rx.no.take 12⟩⟩ : RFr)).toArray)), G 6 #[false, true, true, false, true, true, false, true, true, false, false, false] (fr.put (some 67) (.slice (some ⟨gx, 0, none⟩) 1 1)) wL := by as_aux_lemma =>
     intro gx wL hH VX
     refine hG1 _ _ _ _ ?_
     simp only [fr, zz]
     have hHeld := hH.out
     refine wpAnyH_ready (rs := [0, 10]) (by kernel_rfl) (by simp) ?_
     refine (AllReadyH.cons rfl (fun K hK => ?_) (AllReadyH.cons rfl (fun K hK => ?_) AllReadyH.nil))
     ·refine step_build0f rfl (by rfl) wu.heap.size hHeld.size ?_
      rintro g0 Y hgs hown hbN
      have N_O0 := fun (W : World) (h : Below Y.heap.size Y W) => (row_below hown h : W.ownsRow wu.heap.size 31 67 (.slice (some ⟨g0, 0, none⟩) 0 0) (([] : List RFr)).length ((([] : List RFr)).flatMap rfV))
      have hHN := hHeld.trans (hbN.mono hHeld.size)
      refine hK.out _ _ hHN (fun hHeld => ?_)
      try simp only [zz]
      exact hG2 _ _ _ _ _ _ (T0_5 g0 gx Y (Lib.hid hHN) (Lib.hid N_O0) (hxt VX hbN) (Lib.hid (by have h1 := (VX.out wL (Below.refl _ _)).inHeap; omega))) (by kernel_rfl) (by kernel_rfl)
     ·refine step_kalloc rfl (by rfl) ?_
      rintro g11 Y hgs hrow hbN
      have N_V11 := fun (W : World) (h : Below Y.heap.size Y W) => (hrow.below h hrow.inHeap : Row W g11 25 #[.slice none 0 0, .slice none 0 0])
      have N_G11 := fun (W : World) (h : Below Y.heap.size Y W) => (by have := hHeld.size; omega : wu.heap.size ≤ g11)
      have hHN := hHeld.trans (hbN.mono hHeld.size)
      refine hK.out _ _ hHN (fun hHeld => ?_)
      try simp only [zz]
      exact hG2 _ _ _ _ _ _ (T5_10 gx g11 Y (Lib.hid hHN) (hxt VX hbN) (Lib.hid N_V11) (Lib.hid N_G11)) (by kernel_rfl) (by kernel_rfl)
    have T10 : ∀ (g11 : Nat) (wL : World) (hH : Hid (Below wu.heap.size wu wL)) (V11 : Hid (∀ W : World, Below wL.heap.size wL W → Row W g11 25 #[.slice none 0 0, .slice none 0 0])) (G11 : Hid (∀ W : World, Below wL.heap.size wL W → wu.heap.size ≤ g11)), G 6 #[false, true, true, false, true, false, false, true, true, false, true, false] (fr.put (some 11) (.pointer (some ⟨g11, 0, none⟩))) wL := by as_aux_lemma =>
     intro g11 wL hH V11 G11
     refine hG1 _ _ _ _ ?_
     simp only [fr, zz]
     have hHeld := hH.out
     refine wpAnyH_ready (rs := [0, 5]) (by kernel_rfl) (by simp) ?_
     refine (AllReadyH.cons rfl (fun K hK => ?_) (AllReadyH.cons rfl (fun K hK => ?_) AllReadyH.nil))
     ·refine step_build0f rfl (by rfl) wu.heap.size hHeld.size ?_
      rintro g0 Y hgs hown hbN
      have N_O0 := fun (W : World) (h : Below Y.heap.size Y W) => (row_below hown h : W.ownsRow wu.heap.size 31 67 (.slice (some ⟨g0, 0, none⟩) 0 0) (([] : List RFr)).length ((([] : List RFr)).flatMap rfV))
      have hHN := hHeld.trans (hbN.mono hHeld.size)
      refine hK.out _ _ hHN (fun hHeld => ?_)
      try simp only [zz]
      exact hG2 _ _ _ _ _ _ (T0_10 g0 g11 Y (Lib.hid hHN) (Lib.hid N_O0) (hxt V11 hbN) (hxt G11 hbN) (Lib.hid (by have h1 := (V11.out wL (Below.refl _ _)).inHeap; omega))) (by kernel_rfl) (by kernel_rfl)
     ·refine step_one rfl 22 31 (.tmp 66) (by rfl) (cs := rfV (⟨.slice A7 (Know.saneF rx.f).length c7, .slice An (min rx.no.length 12) cn, ⟨Know.saneF rx.f, rx.v, rx.no.take 12⟩⟩ : RFr)) (by rfl) Tryz.underlying22 hi1 hy0 hy1 (rf_len H65.out) ?_
      rintro gx Y hgs hrow hbN
      have N_VX := fun (W : World) (h : Below Y.heap.size Y W) => (hrow.below h hrow.inHeap : Row W gx 31 (rfV (⟨.slice A7 (Know.saneF rx.f).length c7, .slice An (min rx.no.length 12) cn, ⟨Know.saneF rx.f, rx.v, rx.no.take 12⟩⟩ : RFr)).toArray)
      have hHN := hHeld.trans (hbN.mono hHeld.size)
      refine hK.out _ _ hHN (fun hHeld => ?_)
      try simp only [zz]
      exact hG2 _ _ _ _ _ _ (T5_10 gx g11 Y (Lib.hid hHN) (Lib.hid N_VX) (hxt V11 hbN) (hxt G11 hbN)) (by kernel_rfl) (by kernel_rfl)
    refine hG1 _ _ _ _ ?_
    simp only [fr]
    generalize wu.drew = wd at *
    refine wpAnyH_ready (rs := [0, 5, 10]) (by kernel_rfl) (by simp) ?_
    refine (AllReadyH.cons rfl (fun K hK => ?_) (AllReadyH.cons rfl (fun K hK => ?_) (AllReadyH.cons rfl (fun K hK => ?_) AllReadyH.nil)))
    ·refine step_build0f rfl (by rfl) wu.heap.size hHeld.size ?_
     rintro g0 Y hgs hown hbN
     have N_O0 := fun (W : World) (h : Below Y.heap.size Y W) => (row_below hown h : W.ownsRow wu.heap.size 31 67 (.slice (some ⟨g0, 0, none⟩) 0 0) (([] : List RFr)).length ((([] : List RFr)).flatMap rfV))
     have hHN := hHeld.trans (hbN.mono hHeld.size)
     refine hK.out _ _ hHN (fun hHeld => ?_)
     try simp only [zz]
     exact hG2 _ _ _ _ _ _ (T0 g0 Y (Lib.hid hHN) (Lib.hid N_O0)) (by kernel_rfl) (by kernel_rfl)
    ·refine step_one rfl 22 31 (.tmp 66) (by rfl) (cs := rfV (⟨.slice A7 (Know.saneF rx.f).length c7, .slice An (min rx.no.length 12) cn, ⟨Know.saneF rx.f, rx.v, rx.no.take 12⟩⟩ : RFr)) (by rfl) Tryz.underlying22 hi1 hy0 hy1 (rf_len H65.out) ?_
     rintro gx Y hgs hrow hbN
     have N_VX := fun (W : World) (h : Below Y.heap.size Y W) => (hrow.below h hrow.inHeap : Row W gx 31 (rfV (⟨.slice A7 (Know.saneF rx.f).length c7, .slice An (min rx.no.length 12) cn, ⟨Know.saneF rx.f, rx.v, rx.no.take 12⟩⟩ : RFr)).toArray)
     have hHN := hHeld.trans (hbN.mono hHeld.size)
     refine hK.out _ _ hHN (fun hHeld => ?_)
     try simp only [zz]
     exact hG2 _ _ _ _ _ _ (T5 gx Y (Lib.hid hHN) (Lib.hid N_VX)) (by kernel_rfl) (by kernel_rfl)
    ·refine step_kalloc rfl (by rfl) ?_
     rintro g11 Y hgs hrow hbN
     have N_V11 := fun (W : World) (h : Below Y.heap.size Y W) => (hrow.below h hrow.inHeap : Row W g11 25 #[.slice none 0 0, .slice none 0 0])
     have N_G11 := fun (W : World) (h : Below Y.heap.size Y W) => (by have := hHeld.size; omega : wu.heap.size ≤ g11)
     have hHN := hHeld.trans (hbN.mono hHeld.size)
     refine hK.out _ _ hHN (fun hHeld => ?_)
     try simp only [zz]
     exact hG2 _ _ _ _ _ _ (T10 g11 Y (Lib.hid hHN) (Lib.hid N_V11) (Lib.hid N_G11)) (by kernel_rfl) (by kernel_rfl)
   have T2_5_10_11_13_14 : ∀ (g2 : Nat) (a5 : Option Addr) (l5 : Nat) (c5 : Nat) (gv : Nat) (gi : Nat) (a14 : Option Addr) (n14 : Nat) (c14 : Nat) (wL : World) (hH : Hid (Below wt1.heap.size wt1 wL)) (O14 : Hid (∀ W : World, Below wL.heap.size wL W → W.ownsRow wt1.heap.size 45 67 (.slice a14 n14 c14) (k.items ++ [(⟨⟨b1, b2⟩, uv⟩ : Know.It)]).length ((k.items ++ [(⟨⟨b1, b2⟩, uv⟩ : Know.It)]).flatMap itV))), G 2 #[true, true, true, true, true, true, true, true, true, true, true, true, true, true, true, true, false, false] ((((((((fr.put (some 48) (.slice (some ⟨g2, 0, none⟩) 0 0)).put (some 51) (.slice a5 l5 c5)).put (some 56) (.slice (some ⟨gv, 0, none⟩) 1 1)).put (some 57) (.agg (vecL uv).toArray)).put (some 58) (.agg (itV (⟨⟨b1, b2⟩, uv⟩ : Know.It)).toArray)).put (some 59) (.slice (some ⟨gi, 0, none⟩) 1 1)).put (some 60) (.slice a14 n14 c14)).put (some 61) (.agg #[.slice A5 k.frags.length p5, .slice a14 n14 c14])) wL := by as_aux_lemma =>
    intro g2 a5 l5 c5 gv gi a14 n14 c14 wL hH O14
    refine hG1 _ _ _ _ ?_
    simp only [fr, zz]
    have hHeld := hH.out
    refine wpAnyH_ready (rs := [16]) (by kernel_rfl) (by simp) ?_
    refine (AllReadyH.cons rfl (fun K hK => ?_) AllReadyH.nil)
    refine step_kalloc rfl (by rfl) ?_
    rintro g10 Y hgs hrow hbN
    have N_V10 := fun (W : World) (h : Below Y.heap.size Y W) => (hrow.below h hrow.inHeap : Row W g10 25 #[.slice none 0 0, .slice none 0 0])
    have N_G10 := fun (W : World) (h : Below Y.heap.size Y W) => (by have := hHeld.size; omega : wt1.heap.size ≤ g10)
    have hHN := hHeld.trans (hbN.mono hHeld.size)
    refine hK.out _ _ hHN (fun hHeld => ?_)
    try simp only [zz]
    exact hG2 _ _ _ _ _ _ (T2_5_10_11_13_14_16 g2 a5 l5 c5 gv gi a14 n14 c14 g10 Y (Lib.hid hHN) (hxt O14 hbN) (Lib.hid N_V10) (Lib.hid N_G10)) (by kernel_rfl) (by kernel_rfl)
   have T2_5_10_11_13_16 : ∀ (g2 : Nat) (a5 : Option Addr) (l5 : Nat) (c5 : Nat) (gv : Nat) (gi : Nat) (g10 : Nat) (wL : World) (hH : Hid (Below wt1.heap.size wt1 wL)) (O5 : Hid (∀ W : World, Below wL.heap.size wL W → W.ownsRow wt1.heap.size 45 67 (.slice a5 l5 c5) (k.items).length ((k.items).flatMap itV))) (VI : Hid (∀ W : World, Below wL.heap.size wL W → Row W gi 45 (itV (⟨⟨b1, b2⟩, uv⟩ : Know.It)).toArray)) (V10 : Hid (∀ W : World, Below wL.heap.size wL W → Row W g10 25 #[.slice none 0 0, .slice none 0 0])) (G10 : Hid (∀ W : World, Below wL.heap.size wL W → wt1.heap.size ≤ g10)) (Q5_16 : Hid (¬ (Value.slice a5 l5 c5).ownBlock = some g10)), G 3 #[true, true, true, true, true, true, true, true, true, true, true, true, true, true, false, false, true, false] (((((((fr.put (some 48) (.slice (some ⟨g2, 0, none⟩) 0 0)).put (some 51) (.slice a5 l5 c5)).put (some 56) (.slice (some ⟨gv, 0, none⟩) 1 1)).put (some 57) (.agg (vecL uv).toArray)).put (some 58) (.agg (itV (⟨⟨b1, b2⟩, uv⟩ : Know.It)).toArray)).put (some 59) (.slice (some ⟨gi, 0, none⟩) 1 1)).put (some 10) (.pointer (some ⟨g10, 0, none⟩))) wL := by as_aux_lemma =>
    intro g2 a5 l5 c5 gv gi g10 wL hH O5 VI V10 G10 Q5_16
    refine hG1 _ _ _ _ ?_
    simp only [fr, zz]
    have hHeld := hH.out
    refine wpAnyH_ready (rs := [14]) (by kernel_rfl) (by simp) ?_
    refine (AllReadyH.cons rfl (fun K hK => ?_) AllReadyH.nil)
    have hO := O5.out wL (Below.refl _ _)
    refine step_itjoin rfl (.tmp 51) (.tmp 59) (by rfl) (l := k.items) (m := [(⟨⟨b1, b2⟩, uv⟩ : Know.It)]) (v := .slice a5 l5 c5) (xv := .slice (some ⟨gi, 0, none⟩) 1 1) (by kernel_rfl) (by kernel_rfl) hO (rws_row (VI.out wL (Below.refl _ _))) (HK7.out wL hHeld).2.2 (fun x hx => (by rw [List.mem_singleton.1 hx]; exact HV65.out)) (by have := Cut.out.it; show k.items.length + 1 ≤ 1000; omega) hHeld.size ?_
    rintro a14 n14 c14 Y hown hgr hnear
    have hbB : Below wt1.heap.size wL Y := (Below.refl _ wL).grown hgr hHeld.size (fun j hj => (hO.lt j hj).1)
    have hkg : Kept (fun i => (Value.slice a5 l5 c5).ownBlock = some i) wL Y := Kept.ofGrown hgr (fun i h => h)
    have N_O14 := fun (W : World) (h : Below Y.heap.size Y W) => (row_below hown h : W.ownsRow wt1.heap.size 45 67 (.slice a14 n14 c14) (k.items ++ [(⟨⟨b1, b2⟩, uv⟩ : Know.It)]).length ((k.items ++ [(⟨⟨b1, b2⟩, uv⟩ : Know.It)]).flatMap itV))
    have hHN := hHeld.trans hbB
    refine hK.out _ _ hHN (fun hHeld => ?_)
    try simp only [zz]
    refine wpAnyH_td (i := 15) rfl ?_
    simp only [zz]
    exact hG2 _ _ _ _ _ _ (T2_5_10_11_13_14_16 g2 a5 l5 c5 gv gi a14 n14 c14 g10 Y (Lib.hid hHN) (Lib.hid N_O14) (Lib.hid (row_thru (V10.out wL (Below.refl _ _)) hkg (Q5_16.out))) (Lib.hid (fun W h => G10.out wL (Below.refl _ _)))) (by kernel_rfl) (by kernel_rfl)
   have T2_5_10_11_13 : ∀ (g2 : Nat) (a5 : Option Addr) (l5 : Nat) (c5 : Nat) (gv : Nat) (gi : Nat) (wL : World) (hH : Hid (Below wt1.heap.size wt1 wL)) (O5 : Hid (∀ W : World, Below wL.heap.size wL W → W.ownsRow wt1.heap.size 45 67 (.slice a5 l5 c5) (k.items).length ((k.items).flatMap itV))) (VI : Hid (∀ W : World, Below wL.heap.size wL W → Row W gi 45 (itV (⟨⟨b1, b2⟩, uv⟩ : Know.It)).toArray)), G 4 #[true, true, true, true, true, true, true, true, true, true, true, true, true, true, false, false, false, false] ((((((fr.put (some 48) (.slice (some ⟨g2, 0, none⟩) 0 0)).put (some 51) (.slice a5 l5 c5)).put (some 56) (.slice (some ⟨gv, 0, none⟩) 1 1)).put (some 57) (.agg (vecL uv).toArray)).put (some 58) (.agg (itV (⟨⟨b1, b2⟩, uv⟩ : Know.It)).toArray)).put (some 59) (.slice (some ⟨gi, 0, none⟩) 1 1)) wL := by as_aux_lemma =>
    intro g2 a5 l5 c5 gv gi wL hH O5 VI
    refine hG1 _ _ _ _ ?_
    simp only [fr, zz]
    have hHeld := hH.out
    refine wpAnyH_ready (rs := [14, 16]) (by kernel_rfl) (by simp) ?_
    refine (AllReadyH.cons rfl (fun K hK => ?_) (AllReadyH.cons rfl (fun K hK => ?_) AllReadyH.nil))
    ·have hO := O5.out wL (Below.refl _ _)
     refine step_itjoin rfl (.tmp 51) (.tmp 59) (by rfl) (l := k.items) (m := [(⟨⟨b1, b2⟩, uv⟩ : Know.It)]) (v := .slice a5 l5 c5) (xv := .slice (some ⟨gi, 0, none⟩) 1 1) (by kernel_rfl) (by kernel_rfl) hO (rws_row (VI.out wL (Below.refl _ _))) (HK7.out wL hHeld).2.2 (fun x hx => (by rw [List.mem_singleton.1 hx]; exact HV65.out)) (by have := Cut.out.it; show k.items.length + 1 ≤ 1000; omega) hHeld.size ?_
     rintro a14 n14 c14 Y hown hgr hnear
     have hbB : Below wt1.heap.size wL Y := (Below.refl _ wL).grown hgr hHeld.size (fun j hj => (hO.lt j hj).1)
     have hkg : Kept (fun i => (Value.slice a5 l5 c5).ownBlock = some i) wL Y := Kept.ofGrown hgr (fun i h => h)
     have N_O14 := fun (W : World) (h : Below Y.heap.size Y W) => (row_below hown h : W.ownsRow wt1.heap.size 45 67 (.slice a14 n14 c14) (k.items ++ [(⟨⟨b1, b2⟩, uv⟩ : Know.It)]).length ((k.items ++ [(⟨⟨b1, b2⟩, uv⟩ : Know.It)]).flatMap itV))
     have hHN := hHeld.trans hbB
     refine hK.out _ _ hHN (fun hHeld => ?_)
     try simp only [zz]
     refine wpAnyH_td (i := 15) rfl ?_
     simp only [zz]
     exact hG2 _ _ _ _ _ _ (T2_5_10_11_13_14 g2 a5 l5 c5 gv gi a14 n14 c14 Y (Lib.hid hHN) (Lib.hid N_O14)) (by kernel_rfl) (by kernel_rfl)
    ·refine step_kalloc rfl (by rfl) ?_
     rintro g10 Y hgs hrow hbN
     have N_V10 := fun (W : World) (h : Below Y.heap.size Y W) => (hrow.below h hrow.inHeap : Row W g10 25 #[.slice none 0 0, .slice none 0 0])
     have N_G10 := fun (W : World) (h : Below Y.heap.size Y W) => (by have := hHeld.size; omega : wt1.heap.size ≤ g10)
     have hHN := hHeld.trans (hbN.mono hHeld.size)
     refine hK.out _ _ hHN (fun hHeld => ?_)
     try simp only [zz]
     exact hG2 _ _ _ _ _ _ (T2_5_10_11_13_16 g2 a5 l5 c5 gv gi g10 Y (Lib.hid hHN) (hxt O5 hbN) (hxt VI hbN) (Lib.hid N_V10) (Lib.hid N_G10) (Lib.hid (by intro e; have h2 := ((O5.out wL (Below.refl _ _)).lt _ e).2; omega))) (by kernel_rfl) (by kernel_rfl)
   have T2_5_10_11_16 : ∀ (g2 : Nat) (a5 : Option Addr) (l5 : Nat) (c5 : Nat) (gv : Nat) (g10 : Nat) (wL : World) (hH : Hid (Below wt1.heap.size wt1 wL)) (O5 : Hid (∀ W : World, Below wL.heap.size wL W → W.ownsRow wt1.heap.size 45 67 (.slice a5 l5 c5) (k.items).length ((k.items).flatMap itV))) (V10 : Hid (∀ W : World, Below wL.heap.size wL W → Row W g10 25 #[.slice none 0 0, .slice none 0 0])) (G10 : Hid (∀ W : World, Below wL.heap.size wL W → wt1.heap.size ≤ g10)) (Q5_16 : Hid (¬ (Value.slice a5 l5 c5).ownBlock = some g10)), G 4 #[true, true, true, true, true, true, true, true, true, true, true, true, true, false, false, false, true, false] ((((((fr.put (some 48) (.slice (some ⟨g2, 0, none⟩) 0 0)).put (some 51) (.slice a5 l5 c5)).put (some 56) (.slice (some ⟨gv, 0, none⟩) 1 1)).put (some 57) (.agg (vecL uv).toArray)).put (some 58) (.agg (itV (⟨⟨b1, b2⟩, uv⟩ : Know.It)).toArray)).put (some 10) (.pointer (some ⟨g10, 0, none⟩))) wL := by as_aux_lemma =>
    intro g2 a5 l5 c5 gv g10 wL hH O5 V10 G10 Q5_16
    refine hG1 _ _ _ _ ?_
    simp only [fr, zz]
    have hHeld := hH.out
    refine wpAnyH_ready (rs := [13]) (by kernel_rfl) (by simp) ?_
    refine (AllReadyH.cons rfl (fun K hK => ?_) AllReadyH.nil)
    refine step_one rfl 23 45 (.tmp 58) (by rfl) (cs := itV (⟨⟨b1, b2⟩, uv⟩ : Know.It)) (by rfl) Tryz.underlying23 hi1 hy0 hy1 (it_len (i := (⟨⟨b1, b2⟩, uv⟩ : Know.It)) HV65.out) ?_
    rintro gi Y hgs hrow hbN
    have N_VI := fun (W : World) (h : Below Y.heap.size Y W) => (hrow.below h hrow.inHeap : Row W gi 45 (itV (⟨⟨b1, b2⟩, uv⟩ : Know.It)).toArray)
    have hHN := hHeld.trans (hbN.mono hHeld.size)
    refine hK.out _ _ hHN (fun hHeld => ?_)
    try simp only [zz]
    exact hG2 _ _ _ _ _ _ (T2_5_10_11_13_16 g2 a5 l5 c5 gv gi g10 Y (Lib.hid hHN) (hxt O5 hbN) (Lib.hid N_VI) (hxt V10 hbN) (hxt G10 hbN) Q5_16) (by kernel_rfl) (by kernel_rfl)
   have T2_5_10_11 : ∀ (g2 : Nat) (a5 : Option Addr) (l5 : Nat) (c5 : Nat) (gv : Nat) (wL : World) (hH : Hid (Below wt1.heap.size wt1 wL)) (O5 : Hid (∀ W : World, Below wL.heap.size wL W → W.ownsRow wt1.heap.size 45 67 (.slice a5 l5 c5) (k.items).length ((k.items).flatMap itV))), G 5 #[true, true, true, true, true, true, true, true, true, true, true, true, true, false, false, false, false, false] (((((fr.put (some 48) (.slice (some ⟨g2, 0, none⟩) 0 0)).put (some 51) (.slice a5 l5 c5)).put (some 56) (.slice (some ⟨gv, 0, none⟩) 1 1)).put (some 57) (.agg (vecL uv).toArray)).put (some 58) (.agg (itV (⟨⟨b1, b2⟩, uv⟩ : Know.It)).toArray)) wL := by as_aux_lemma =>
    intro g2 a5 l5 c5 gv wL hH O5
    refine hG1 _ _ _ _ ?_
    simp only [fr, zz]
    have hHeld := hH.out
    refine wpAnyH_ready (rs := [13, 16]) (by kernel_rfl) (by simp) ?_
    refine (AllReadyH.cons rfl (fun K hK => ?_) (AllReadyH.cons rfl (fun K hK => ?_) AllReadyH.nil))
    ·refine step_one rfl 23 45 (.tmp 58) (by rfl) (cs := itV (⟨⟨b1, b2⟩, uv⟩ : Know.It)) (by rfl) Tryz.underlying23 hi1 hy0 hy1 (it_len (i := (⟨⟨b1, b2⟩, uv⟩ : Know.It)) HV65.out) ?_
     rintro gi Y hgs hrow hbN
     have N_VI := fun (W : World) (h : Below Y.heap.size Y W) => (hrow.below h hrow.inHeap : Row W gi 45 (itV (⟨⟨b1, b2⟩, uv⟩ : Know.It)).toArray)
     have hHN := hHeld.trans (hbN.mono hHeld.size)
     refine hK.out _ _ hHN (fun hHeld => ?_)
     try simp only [zz]
     exact hG2 _ _ _ _ _ _ (T2_5_10_11_13 g2 a5 l5 c5 gv gi Y (Lib.hid hHN) (hxt O5 hbN) (Lib.hid N_VI)) (by kernel_rfl) (by kernel_rfl)
    ·refine step_kalloc rfl (by rfl) ?_
     rintro g10 Y hgs hrow hbN
     have N_V10 := fun (W : World) (h : Below Y.heap.size Y W) => (hrow.below h hrow.inHeap : Row W g10 25 #[.slice none 0 0, .slice none 0 0])
     have N_G10 := fun (W : World) (h : Below Y.heap.size Y W) => (by have := hHeld.size; omega : wt1.heap.size ≤ g10)
     have hHN := hHeld.trans (hbN.mono hHeld.size)
     refine hK.out _ _ hHN (fun hHeld => ?_)
     try simp only [zz]
     exact hG2 _ _ _ _ _ _ (T2_5_10_11_16 g2 a5 l5 c5 gv g10 Y (Lib.hid hHN) (hxt O5 hbN) (Lib.hid N_V10) (Lib.hid N_G10) (Lib.hid (by intro e; have h2 := ((O5.out wL (Below.refl _ _)).lt _ e).2; omega))) (by kernel_rfl) (by kernel_rfl)
   have T2_5_10_16 : ∀ (g2 : Nat) (a5 : Option Addr) (l5 : Nat) (c5 : Nat) (gv : Nat) (g10 : Nat) (wL : World) (hH : Hid (Below wt1.heap.size wt1 wL)) (O5 : Hid (∀ W : World, Below wL.heap.size wL W → W.ownsRow wt1.heap.size 45 67 (.slice a5 l5 c5) (k.items).length ((k.items).flatMap itV))) (VV : Hid (∀ W : World, Below wL.heap.size wL W → Row W gv 33 #[.int .i64 t1, .int .i64 t2])) (V10 : Hid (∀ W : World, Below wL.heap.size wL W → Row W g10 25 #[.slice none 0 0, .slice none 0 0])) (G10 : Hid (∀ W : World, Below wL.heap.size wL W → wt1.heap.size ≤ g10)) (Q5_16 : Hid (¬ (Value.slice a5 l5 c5).ownBlock = some g10)), G 6 #[true, true, true, true, true, true, true, true, true, true, true, false, false, false, false, false, true, false] ((((fr.put (some 48) (.slice (some ⟨g2, 0, none⟩) 0 0)).put (some 51) (.slice a5 l5 c5)).put (some 56) (.slice (some ⟨gv, 0, none⟩) 1 1)).put (some 10) (.pointer (some ⟨g10, 0, none⟩))) wL := by as_aux_lemma =>
    intro g2 a5 l5 c5 gv g10 wL hH O5 VV V10 G10 Q5_16
    refine hG1 _ _ _ _ ?_
    simp only [fr, zz]
    have hHeld := hH.out
    refine wpAnyH_ready (rs := [11]) (by kernel_rfl) (by simp) ?_
    refine (AllReadyH.cons rfl (fun K hK => ?_) AllReadyH.nil)
    go_simp
    go_at_call 10
    refine (OF7.out _ _ (VV.out wL (Below.refl _ _))).mono ?_
    rintro e Y ⟨rfl, hbN⟩
    have hHN := hHeld.trans (hbN.mono hHeld.size)
    refine hK.out _ _ hHN (fun hHeld => ?_)
    try simp only [zz]
    refine wpAnyH_tk (i := 12) (v := .agg (itV (⟨⟨b1, b2⟩, uv⟩ : Know.It)).toArray) rfl (Or.inl ⟨by rfl, (by intro w hSw; exact exec_itbuild rfl (by rfl) (by rfl) HV65.out w)⟩) (by assumption) ?_
    simp only [zz]
    exact hG2 _ _ _ _ _ _ (T2_5_10_11_16 g2 a5 l5 c5 gv g10 Y (Lib.hid hHN) (hxt O5 hbN) (hxt V10 hbN) (hxt G10 hbN) Q5_16) (by kernel_rfl) (by kernel_rfl)
   have T2_5_10 : ∀ (g2 : Nat) (a5 : Option Addr) (l5 : Nat) (c5 : Nat) (gv : Nat) (wL : World) (hH : Hid (Below wt1.heap.size wt1 wL)) (O5 : Hid (∀ W : World, Below wL.heap.size wL W → W.ownsRow wt1.heap.size 45 67 (.slice a5 l5 c5) (k.items).length ((k.items).flatMap itV))) (VV : Hid (∀ W : World, Below wL.heap.size wL W → Row W gv 33 #[.int .i64 t1, .int .i64 t2])), G 7 #[true, true, true, true, true, true, true, true, true, true, true, false, false, false, false, false, false, false] (((fr.put (some 48) (.slice (some ⟨g2, 0, none⟩) 0 0)).put (some 51) (.slice a5 l5 c5)).put (some 56) (.slice (some ⟨gv, 0, none⟩) 1 1)) wL := by as_aux_lemma =>
    intro g2 a5 l5 c5 gv wL hH O5 VV
    refine hG1 _ _ _ _ ?_
    simp only [fr, zz]
    have hHeld := hH.out
    refine wpAnyH_ready (rs := [11, 16]) (by kernel_rfl) (by simp) ?_
    refine (AllReadyH.cons rfl (fun K hK => ?_) (AllReadyH.cons rfl (fun K hK => ?_) AllReadyH.nil))
    ·go_simp
     go_at_call 10
     refine (OF7.out _ _ (VV.out wL (Below.refl _ _))).mono ?_
     rintro e Y ⟨rfl, hbN⟩
     have hHN := hHeld.trans (hbN.mono hHeld.size)
     refine hK.out _ _ hHN (fun hHeld => ?_)
     try simp only [zz]
     refine wpAnyH_tk (i := 12) (v := .agg (itV (⟨⟨b1, b2⟩, uv⟩ : Know.It)).toArray) rfl (Or.inl ⟨by rfl, (by intro w hSw; exact exec_itbuild rfl (by rfl) (by rfl) HV65.out w)⟩) (by assumption) ?_
     simp only [zz]
     exact hG2 _ _ _ _ _ _ (T2_5_10_11 g2 a5 l5 c5 gv Y (Lib.hid hHN) (hxt O5 hbN)) (by kernel_rfl) (by kernel_rfl)
    ·refine step_kalloc rfl (by rfl) ?_
     rintro g10 Y hgs hrow hbN
     have N_V10 := fun (W : World) (h : Below Y.heap.size Y W) => (hrow.below h hrow.inHeap : Row W g10 25 #[.slice none 0 0, .slice none 0 0])
     have N_G10 := fun (W : World) (h : Below Y.heap.size Y W) => (by have := hHeld.size; omega : wt1.heap.size ≤ g10)
     have hHN := hHeld.trans (hbN.mono hHeld.size)
     refine hK.out _ _ hHN (fun hHeld => ?_)
     try simp only [zz]
     exact hG2 _ _ _ _ _ _ (T2_5_10_16 g2 a5 l5 c5 gv g10 Y (Lib.hid hHN) (hxt O5 hbN) (hxt VV hbN) (Lib.hid N_V10) (Lib.hid N_G10) (Lib.hid (by intro e; have h2 := ((O5.out wL (Below.refl _ _)).lt _ e).2; omega))) (by kernel_rfl) (by kernel_rfl)
   have T2_5_16 : ∀ (g2 : Nat) (a5 : Option Addr) (l5 : Nat) (c5 : Nat) (g10 : Nat) (wL : World) (hH : Hid (Below wt1.heap.size wt1 wL)) (O5 : Hid (∀ W : World, Below wL.heap.size wL W → W.ownsRow wt1.heap.size 45 67 (.slice a5 l5 c5) (k.items).length ((k.items).flatMap itV))) (V10 : Hid (∀ W : World, Below wL.heap.size wL W → Row W g10 25 #[.slice none 0 0, .slice none 0 0])) (G10 : Hid (∀ W : World, Below wL.heap.size wL W → wt1.heap.size ≤ g10)) (Q5_16 : Hid (¬ (Value.slice a5 l5 c5).ownBlock = some g10)), G 7 #[true, true, true, true, true, true, true, true, true, true, false, false, false, false, false, false, true, false] (((fr.put (some 48) (.slice (some ⟨g2, 0, none⟩) 0 0)).put (some 51) (.slice a5 l5 c5)).put (some 10) (.pointer (some ⟨g10, 0, none⟩))) wL := by as_aux_lemma =>
    intro g2 a5 l5 c5 g10 wL hH O5 V10 G10 Q5_16
    refine hG1 _ _ _ _ ?_
    simp only [fr, zz]
    have hHeld := hH.out
    refine wpAnyH_ready (rs := [10]) (by kernel_rfl) (by simp) ?_
    refine (AllReadyH.cons rfl (fun K hK => ?_) AllReadyH.nil)
    go_simp
    obtain ⟨gv, hgs⟩ : ∃ g, wL.heap.size = g := ⟨_, rfl⟩
    have hrow := Row.made wL 33 #[.int .i64 t1, .int .i64 t2]
    have hbN : Below wL.heap.size wL (wL.alloc (.cells #[.int .i64 t1, .int .i64 t2] 33)) := (Below.refl _ _).alloc (Nat.le_refl _) _
    generalize wL.alloc (.cells #[.int .i64 t1, .int .i64 t2] 33) = Y at *
    rw [hgs] at hrow ⊢
    have N_VV := fun (W : World) (h : Below Y.heap.size Y W) => (hrow.below h hrow.inHeap : Row W gv 33 #[.int .i64 t1, .int .i64 t2])
    have hHN := hHeld.trans (hbN.mono hHeld.size)
    refine hK.out _ _ hHN (fun hHeld => ?_)
    try simp only [zz]
    exact hG2 _ _ _ _ _ _ (T2_5_10_16 g2 a5 l5 c5 gv g10 Y (Lib.hid hHN) (hxt O5 hbN) (Lib.hid N_VV) (hxt V10 hbN) (hxt G10 hbN) Q5_16) (by kernel_rfl) (by kernel_rfl)
   have T2_10_16 : ∀ (g2 : Nat) (gv : Nat) (g10 : Nat) (wL : World) (hH : Hid (Below wt1.heap.size wt1 wL)) (O2 : Hid (∀ W : World, Below wL.heap.size wL W → W.ownsRow wt1.heap.size 45 67 (.slice (some ⟨g2, 0, none⟩) 0 0) (([] : List Know.It)).length ((([] : List Know.It)).flatMap itV))) (VV : Hid (∀ W : World, Below wL.heap.size wL W → Row W gv 33 #[.int .i64 t1, .int .i64 t2])) (V10 : Hid (∀ W : World, Below wL.heap.size wL W → Row W g10 25 #[.slice none 0 0, .slice none 0 0])) (G10 : Hid (∀ W : World, Below wL.heap.size wL W → wt1.heap.size ≤ g10)) (P2_10 : Hid (¬ g2 = gv)) (P2_16 : Hid (¬ g2 = g10)), G 7 #[true, true, true, true, true, false, true, true, true, true, true, false, false, false, false, false, true, false] (((fr.put (some 48) (.slice (some ⟨g2, 0, none⟩) 0 0)).put (some 56) (.slice (some ⟨gv, 0, none⟩) 1 1)).put (some 10) (.pointer (some ⟨g10, 0, none⟩))) wL := by as_aux_lemma =>
    intro g2 gv g10 wL hH O2 VV V10 G10 P2_10 P2_16
    refine hG1 _ _ _ _ ?_
    simp only [fr, zz]
    have hHeld := hH.out
    refine wpAnyH_ready (rs := [5]) (by kernel_rfl) (by simp) ?_
    refine (AllReadyH.cons rfl (fun K hK => ?_) AllReadyH.nil)
    have hO := O2.out wL (Below.refl _ _)
    refine step_itjoin rfl (.tmp 48) (.tmp 50) (by rfl) (l := []) (m := k.items) (v := .slice (some ⟨g2, 0, none⟩) 0 0) (xv := .slice B5 k.items.length q5) (by kernel_rfl) (by kernel_rfl) hO (HK7.out wL hHeld).2.1 (fun _ h => (by cases h)) (HK7.out wL hHeld).2.2 (by have := Cut.out.it; show 0 + k.items.length ≤ 1000; omega) hHeld.size ?_
    rintro a5 l5 c5 Y hown hgr hnear
    have hbB : Below wt1.heap.size wL Y := (Below.refl _ wL).grown hgr hHeld.size (fun j hj => (hO.lt j hj).1)
    have hkg : Kept (fun i => i = g2) wL Y := Kept.ofGrown hgr (fun i h => (Option.some.inj h).symm)
    have N_O5 := fun (W : World) (h : Below Y.heap.size Y W) => (row_below hown h : W.ownsRow wt1.heap.size 45 67 (.slice a5 l5 c5) (k.items).length ((k.items).flatMap itV))
    have hHN := hHeld.trans hbB
    refine hK.out _ _ hHN (fun hHeld => ?_)
    try simp only [zz]
    exact hG2 _ _ _ _ _ _ (T2_5_10_16 g2 a5 l5 c5 gv g10 Y (Lib.hid hHN) (Lib.hid N_O5) (Lib.hid (row_thru (VV.out wL (Below.refl _ _)) hkg (fun e => P2_10.out e.symm))) (Lib.hid (row_thru (V10.out wL (Below.refl _ _)) hkg (fun e => P2_16.out e.symm))) (Lib.hid (fun W h => G10.out wL (Below.refl _ _))) (Lib.hid (fun e => hnear.elim (fun h => P2_16.out (Option.some.inj (h.symm.trans e))) (fun h => by have h2 := h _ e; have h1 := (V10.out wL (Below.refl _ _)).inHeap; omega)))) (by kernel_rfl) (by kernel_rfl)
   have T2_5 : ∀ (g2 : Nat) (a5 : Option Addr) (l5 : Nat) (c5 : Nat) (wL : World) (hH : Hid (Below wt1.heap.size wt1 wL)) (O5 : Hid (∀ W : World, Below wL.heap.size wL W → W.ownsRow wt1.heap.size 45 67 (.slice a5 l5 c5) (k.items).length ((k.items).flatMap itV))), G 8 #[true, true, true, true, true, true, true, true, true, true, false, false, false, false, false, false, false, false] ((fr.put (some 48) (.slice (some ⟨g2, 0, none⟩) 0 0)).put (some 51) (.slice a5 l5 c5)) wL := by as_aux_lemma =>
    intro g2 a5 l5 c5 wL hH O5
    refine hG1 _ _ _ _ ?_
    simp only [fr, zz]
    have hHeld := hH.out
    refine wpAnyH_ready (rs := [10, 16]) (by kernel_rfl) (by simp) ?_
    refine (AllReadyH.cons rfl (fun K hK => ?_) (AllReadyH.cons rfl (fun K hK => ?_) AllReadyH.nil))
    ·go_simp
     obtain ⟨gv, hgs⟩ : ∃ g, wL.heap.size = g := ⟨_, rfl⟩
     have hrow := Row.made wL 33 #[.int .i64 t1, .int .i64 t2]
     have hbN : Below wL.heap.size wL (wL.alloc (.cells #[.int .i64 t1, .int .i64 t2] 33)) := (Below.refl _ _).alloc (Nat.le_refl _) _
     generalize wL.alloc (.cells #[.int .i64 t1, .int .i64 t2] 33) = Y at *
     rw [hgs] at hrow ⊢
     have N_VV := fun (W : World) (h : Below Y.heap.size Y W) => (hrow.below h hrow.inHeap : Row W gv 33 #[.int .i64 t1, .int .i64 t2])
     have hHN := hHeld.trans (hbN.mono hHeld.size)
     refine hK.out _ _ hHN (fun hHeld => ?_)
     try simp only [zz]
     exact hG2 _ _ _ _ _ _ (T2_5_10 g2 a5 l5 c5 gv Y (Lib.hid hHN) (hxt O5 hbN) (Lib.hid N_VV)) (by kernel_rfl) (by kernel_rfl)
    ·refine step_kalloc rfl (by rfl) ?_
     rintro g10 Y hgs hrow hbN
     have N_V10 := fun (W : World) (h : Below Y.heap.size Y W) => (hrow.below h hrow.inHeap : Row W g10 25 #[.slice none 0 0, .slice none 0 0])
     have N_G10 := fun (W : World) (h : Below Y.heap.size Y W) => (by have := hHeld.size; omega : wt1.heap.size ≤ g10)
     have hHN := hHeld.trans (hbN.mono hHeld.size)
     refine hK.out _ _ hHN (fun hHeld => ?_)
     try simp only [zz]
     exact hG2 _ _ _ _ _ _ (T2_5_16 g2 a5 l5 c5 g10 Y (Lib.hid hHN) (hxt O5 hbN) (Lib.hid N_V10) (Lib.hid N_G10) (Lib.hid (by intro e; have h2 := ((O5.out wL (Below.refl _ _)).lt _ e).2; omega))) (by kernel_rfl) (by kernel_rfl)
   have T2_10 : ∀ (g2 : Nat) (gv : Nat) (wL : World) (hH : Hid (Below wt1.heap.size wt1 wL)) (O2 : Hid (∀ W : World, Below wL.heap.size wL W → W.ownsRow wt1.heap.size 45 67 (.slice (some ⟨g2, 0, none⟩) 0 0) (([] : List Know.It)).length ((([] : List Know.It)).flatMap itV))) (VV : Hid (∀ W : World, Below wL.heap.size wL W → Row W gv 33 #[.int .i64 t1, .int .i64 t2])) (P2_10 : Hid (¬ g2 = gv)), G 8 #[true, true, true, true, true, false, true, true, true, true, true, false, false, false, false, false, false, false] ((fr.put (some 48) (.slice (some ⟨g2, 0, none⟩) 0 0)).put (some 56) (.slice (some ⟨gv, 0, none⟩) 1 1)) wL := by as_aux_lemma =>
    intro g2 gv wL hH O2 VV P2_10
    refine hG1 _ _ _ _ ?_
    simp only [fr, zz]
    have hHeld := hH.out
    refine wpAnyH_ready (rs := [5, 16]) (by kernel_rfl) (by simp) ?_
    refine (AllReadyH.cons rfl (fun K hK => ?_) (AllReadyH.cons rfl (fun K hK => ?_) AllReadyH.nil))
    ·have hO := O2.out wL (Below.refl _ _)
     refine step_itjoin rfl (.tmp 48) (.tmp 50) (by rfl) (l := []) (m := k.items) (v := .slice (some ⟨g2, 0, none⟩) 0 0) (xv := .slice B5 k.items.length q5) (by kernel_rfl) (by kernel_rfl) hO (HK7.out wL hHeld).2.1 (fun _ h => (by cases h)) (HK7.out wL hHeld).2.2 (by have := Cut.out.it; show 0 + k.items.length ≤ 1000; omega) hHeld.size ?_
     rintro a5 l5 c5 Y hown hgr hnear
     have hbB : Below wt1.heap.size wL Y := (Below.refl _ wL).grown hgr hHeld.size (fun j hj => (hO.lt j hj).1)
     have hkg : Kept (fun i => i = g2) wL Y := Kept.ofGrown hgr (fun i h => (Option.some.inj h).symm)
     have N_O5 := fun (W : World) (h : Below Y.heap.size Y W) => (row_below hown h : W.ownsRow wt1.heap.size 45 67 (.slice a5 l5 c5) (k.items).length ((k.items).flatMap itV))
     have hHN := hHeld.trans hbB
     refine hK.out _ _ hHN (fun hHeld => ?_)
     try simp only [zz]
     exact hG2 _ _ _ _ _ _ (T2_5_10 g2 a5 l5 c5 gv Y (Lib.hid hHN) (Lib.hid N_O5) (Lib.hid (row_thru (VV.out wL (Below.refl _ _)) hkg (fun e => P2_10.out e.symm)))) (by kernel_rfl) (by kernel_rfl)
    ·refine step_kalloc rfl (by rfl) ?_
     rintro g10 Y hgs hrow hbN
     have N_V10 := fun (W : World) (h : Below Y.heap.size Y W) => (hrow.below h hrow.inHeap : Row W g10 25 #[.slice none 0 0, .slice none 0 0])
     have N_G10 := fun (W : World) (h : Below Y.heap.size Y W) => (by have := hHeld.size; omega : wt1.heap.size ≤ g10)
     have hHN := hHeld.trans (hbN.mono hHeld.size)
     refine hK.out _ _ hHN (fun hHeld => ?_)
     try simp only [zz]
     exact hG2 _ _ _ _ _ _ (T2_10_16 g2 gv g10 Y (Lib.hid hHN) (hxt O2 hbN) (hxt VV hbN) (Lib.hid N_V10) (Lib.hid N_G10) P2_10 (Lib.hid (by have h1 := ((O2.out wL (Below.refl _ _)).lt g2 rfl).2; omega))) (by kernel_rfl) (by kernel_rfl)
   have T2_16 : ∀ (g2 : Nat) (g10 : Nat) (wL : World) (hH : Hid (Below wt1.heap.size wt1 wL)) (O2 : Hid (∀ W : World, Below wL.heap.size wL W → W.ownsRow wt1.heap.size 45 67 (.slice (some ⟨g2, 0, none⟩) 0 0) (([] : List Know.It)).length ((([] : List Know.It)).flatMap itV))) (V10 : Hid (∀ W : World, Below wL.heap.size wL W → Row W g10 25 #[.slice none 0 0, .slice none 0 0])) (G10 : Hid (∀ W : World, Below wL.heap.size wL W → wt1.heap.size ≤ g10)) (P2_16 : Hid (¬ g2 = g10)), G 8 #[true, true, true, true, true, false, true, true, true, true, false, false, false, false, false, false, true, false] ((fr.put (some 48) (.slice (some ⟨g2, 0, none⟩) 0 0)).put (some 10) (.pointer (some ⟨g10, 0, none⟩))) wL := by as_aux_lemma =>
    intro g2 g10 wL hH O2 V10 G10 P2_16
    refine hG1 _ _ _ _ ?_
    simp only [fr, zz]
    have hHeld := hH.out
    refine wpAnyH_ready (rs := [5, 10]) (by kernel_rfl) (by simp) ?_
    refine (AllReadyH.cons rfl (fun K hK => ?_) (AllReadyH.cons rfl (fun K hK => ?_) AllReadyH.nil))
    ·have hO := O2.out wL (Below.refl _ _)
     refine step_itjoin rfl (.tmp 48) (.tmp 50) (by rfl) (l := []) (m := k.items) (v := .slice (some ⟨g2, 0, none⟩) 0 0) (xv := .slice B5 k.items.length q5) (by kernel_rfl) (by kernel_rfl) hO (HK7.out wL hHeld).2.1 (fun _ h => (by cases h)) (HK7.out wL hHeld).2.2 (by have := Cut.out.it; show 0 + k.items.length ≤ 1000; omega) hHeld.size ?_
     rintro a5 l5 c5 Y hown hgr hnear
     have hbB : Below wt1.heap.size wL Y := (Below.refl _ wL).grown hgr hHeld.size (fun j hj => (hO.lt j hj).1)
     have hkg : Kept (fun i => i = g2) wL Y := Kept.ofGrown hgr (fun i h => (Option.some.inj h).symm)
     have N_O5 := fun (W : World) (h : Below Y.heap.size Y W) => (row_below hown h : W.ownsRow wt1.heap.size 45 67 (.slice a5 l5 c5) (k.items).length ((k.items).flatMap itV))
     have hHN := hHeld.trans hbB
     refine hK.out _ _ hHN (fun hHeld => ?_)
     try simp only [zz]
     exact hG2 _ _ _ _ _ _ (T2_5_16 g2 a5 l5 c5 g10 Y (Lib.hid hHN) (Lib.hid N_O5) (Lib.hid (row_thru (V10.out wL (Below.refl _ _)) hkg (fun e => P2_16.out e.symm))) (Lib.hid (fun W h => G10.out wL (Below.refl _ _))) (Lib.hid (fun e => hnear.elim (fun h => P2_16.out (Option.some.inj (h.symm.trans e))) (fun h => by have h2 := h _ e; have h1 := (V10.out wL (Below.refl _ _)).inHeap; omega)))) (by kernel_rfl) (by kernel_rfl)
    ·go_simp
     obtain ⟨gv, hgs⟩ : ∃ g, wL.heap.size = g := ⟨_, rfl⟩
     have hrow := Row.made wL 33 #[.int .i64 t1, .int .i64 t2]
     have hbN : Below wL.heap.size wL (wL.alloc (.cells #[.int .i64 t1, .int .i64 t2] 33)) := (Below.refl _ _).alloc (Nat.le_refl _) _
     generalize wL.alloc (.cells #[.int .i64 t1, .int .i64 t2] 33) = Y at *
     rw [hgs] at hrow ⊢
     have N_VV := fun (W : World) (h : Below Y.heap.size Y W) => (hrow.below h hrow.inHeap : Row W gv 33 #[.int .i64 t1, .int .i64 t2])
     have hHN := hHeld.trans (hbN.mono hHeld.size)
     refine hK.out _ _ hHN (fun hHeld => ?_)
     try simp only [zz]
     exact hG2 _ _ _ _ _ _ (T2_10_16 g2 gv g10 Y (Lib.hid hHN) (hxt O2 hbN) (Lib.hid N_VV) (hxt V10 hbN) (hxt G10 hbN) (Lib.hid (by have h1 := ((O2.out wL (Below.refl _ _)).lt g2 rfl).2; omega)) P2_16) (by kernel_rfl) (by kernel_rfl)
   have T10_16 : ∀ (gv : Nat) (g10 : Nat) (wL : World) (hH : Hid (Below wt1.heap.size wt1 wL)) (VV : Hid (∀ W : World, Below wL.heap.size wL W → Row W gv 33 #[.int .i64 t1, .int .i64 t2])) (V10 : Hid (∀ W : World, Below wL.heap.size wL W → Row W g10 25 #[.slice none 0 0, .slice none 0 0])) (G10 : Hid (∀ W : World, Below wL.heap.size wL W → wt1.heap.size ≤ g10)), G 8 #[true, true, false, true, true, false, true, true, true, true, true, false, false, false, false, false, true, false] ((fr.put (some 56) (.slice (some ⟨gv, 0, none⟩) 1 1)).put (some 10) (.pointer (some ⟨g10, 0, none⟩))) wL := by as_aux_lemma =>
    intro gv g10 wL hH VV V10 G10
    refine hG1 _ _ _ _ ?_
    simp only [fr, zz]
    have hHeld := hH.out
    refine wpAnyH_ready (rs := [2]) (by kernel_rfl) (by simp) ?_
    refine (AllReadyH.cons rfl (fun K hK => ?_) AllReadyH.nil)
    refine step_build0k rfl (by rfl) wt1.heap.size hHeld.size ?_
    rintro g2 Y hgs hown hbN
    have N_O2 := fun (W : World) (h : Below Y.heap.size Y W) => (row_below hown h : W.ownsRow wt1.heap.size 45 67 (.slice (some ⟨g2, 0, none⟩) 0 0) (([] : List Know.It)).length ((([] : List Know.It)).flatMap itV))
    have hHN := hHeld.trans (hbN.mono hHeld.size)
    refine hK.out _ _ hHN (fun hHeld => ?_)
    try simp only [zz]
    exact hG2 _ _ _ _ _ _ (T2_10_16 g2 gv g10 Y (Lib.hid hHN) (Lib.hid N_O2) (hxt VV hbN) (hxt V10 hbN) (hxt G10 hbN) (Lib.hid (by have h1 := (VV.out wL (Below.refl _ _)).inHeap; omega)) (Lib.hid (by have h1 := (V10.out wL (Below.refl _ _)).inHeap; omega))) (by kernel_rfl) (by kernel_rfl)
   have T2 : ∀ (g2 : Nat) (wL : World) (hH : Hid (Below wt1.heap.size wt1 wL)) (O2 : Hid (∀ W : World, Below wL.heap.size wL W → W.ownsRow wt1.heap.size 45 67 (.slice (some ⟨g2, 0, none⟩) 0 0) (([] : List Know.It)).length ((([] : List Know.It)).flatMap itV))), G 9 #[true, true, true, true, true, false, true, true, true, true, false, false, false, false, false, false, false, false] (fr.put (some 48) (.slice (some ⟨g2, 0, none⟩) 0 0)) wL := by as_aux_lemma =>
    intro g2 wL hH O2
    refine hG1 _ _ _ _ ?_
    simp only [fr, zz]
    have hHeld := hH.out
    refine wpAnyH_ready (rs := [5, 10, 16]) (by kernel_rfl) (by simp) ?_
    refine (AllReadyH.cons rfl (fun K hK => ?_) (AllReadyH.cons rfl (fun K hK => ?_) (AllReadyH.cons rfl (fun K hK => ?_) AllReadyH.nil)))
    ·have hO := O2.out wL (Below.refl _ _)
     refine step_itjoin rfl (.tmp 48) (.tmp 50) (by rfl) (l := []) (m := k.items) (v := .slice (some ⟨g2, 0, none⟩) 0 0) (xv := .slice B5 k.items.length q5) (by kernel_rfl) (by kernel_rfl) hO (HK7.out wL hHeld).2.1 (fun _ h => (by cases h)) (HK7.out wL hHeld).2.2 (by have := Cut.out.it; show 0 + k.items.length ≤ 1000; omega) hHeld.size ?_
     rintro a5 l5 c5 Y hown hgr hnear
     have hbB : Below wt1.heap.size wL Y := (Below.refl _ wL).grown hgr hHeld.size (fun j hj => (hO.lt j hj).1)
     have hkg : Kept (fun i => i = g2) wL Y := Kept.ofGrown hgr (fun i h => (Option.some.inj h).symm)
     have N_O5 := fun (W : World) (h : Below Y.heap.size Y W) => (row_below hown h : W.ownsRow wt1.heap.size 45 67 (.slice a5 l5 c5) (k.items).length ((k.items).flatMap itV))
     have hHN := hHeld.trans hbB
     refine hK.out _ _ hHN (fun hHeld => ?_)
     try simp only [zz]
     exact hG2 _ _ _ _ _ _ (T2_5 g2 a5 l5 c5 Y (Lib.hid hHN) (Lib.hid N_O5)) (by kernel_rfl) (by kernel_rfl)
    ·go_simp
     obtain ⟨gv, hgs⟩ : ∃ g, wL.heap.size = g := ⟨_, rfl⟩
     have hrow := Row.made wL 33 #[.int .i64 t1, .int .i64 t2]
     have hbN : Below wL.heap.size wL (wL.alloc (.cells #[.int .i64 t1, .int .i64 t2] 33)) := (Below.refl _ _).alloc (Nat.le_refl _) _
     generalize wL.alloc (.cells #[.int .i64 t1, .int .i64 t2] 33) = Y at *
     rw [hgs] at hrow ⊢
     have N_VV := fun (W : World) (h : Below Y.heap.size Y W) => (hrow.below h hrow.inHeap : Row W gv 33 #[.int .i64 t1, .int .i64 t2])
     have hHN := hHeld.trans (hbN.mono hHeld.size)
     refine hK.out _ _ hHN (fun hHeld => ?_)
     try simp only [zz]
     exact hG2 _ _ _ _ _ _ (T2_10 g2 gv Y (Lib.hid hHN) (hxt O2 hbN) (Lib.hid N_VV) (Lib.hid (by have h1 := ((O2.out wL (Below.refl _ _)).lt g2 rfl).2; omega))) (by kernel_rfl) (by kernel_rfl)
    ·refine step_kalloc rfl (by rfl) ?_
     rintro g10 Y hgs hrow hbN
     have N_V10 := fun (W : World) (h : Below Y.heap.size Y W) => (hrow.below h hrow.inHeap : Row W g10 25 #[.slice none 0 0, .slice none 0 0])
     have N_G10 := fun (W : World) (h : Below Y.heap.size Y W) => (by have := hHeld.size; omega : wt1.heap.size ≤ g10)
     have hHN := hHeld.trans (hbN.mono hHeld.size)
     refine hK.out _ _ hHN (fun hHeld => ?_)
     try simp only [zz]
     exact hG2 _ _ _ _ _ _ (T2_16 g2 g10 Y (Lib.hid hHN) (hxt O2 hbN) (Lib.hid N_V10) (Lib.hid N_G10) (Lib.hid (by have h1 := ((O2.out wL (Below.refl _ _)).lt g2 rfl).2; omega))) (by kernel_rfl) (by kernel_rfl)
   have T10 : ∀ (gv : Nat) (wL : World) (hH : Hid (Below wt1.heap.size wt1 wL)) (VV : Hid (∀ W : World, Below wL.heap.size wL W → Row W gv 33 #[.int .i64 t1, .int .i64 t2])), G 9 #[true, true, false, true, true, false, true, true, true, true, true, false, false, false, false, false, false, false] (fr.put (some 56) (.slice (some ⟨gv, 0, none⟩) 1 1)) wL := by as_aux_lemma =>
    intro gv wL hH VV
    refine hG1 _ _ _ _ ?_
    simp only [fr, zz]
    have hHeld := hH.out
    refine wpAnyH_ready (rs := [2, 16]) (by kernel_rfl) (by simp) ?_
    refine (AllReadyH.cons rfl (fun K hK => ?_) (AllReadyH.cons rfl (fun K hK => ?_) AllReadyH.nil))
    ·refine step_build0k rfl (by rfl) wt1.heap.size hHeld.size ?_
     rintro g2 Y hgs hown hbN
     have N_O2 := fun (W : World) (h : Below Y.heap.size Y W) => (row_below hown h : W.ownsRow wt1.heap.size 45 67 (.slice (some ⟨g2, 0, none⟩) 0 0) (([] : List Know.It)).length ((([] : List Know.It)).flatMap itV))
     have hHN := hHeld.trans (hbN.mono hHeld.size)
     refine hK.out _ _ hHN (fun hHeld => ?_)
     try simp only [zz]
     exact hG2 _ _ _ _ _ _ (T2_10 g2 gv Y (Lib.hid hHN) (Lib.hid N_O2) (hxt VV hbN) (Lib.hid (by have h1 := (VV.out wL (Below.refl _ _)).inHeap; omega))) (by kernel_rfl) (by kernel_rfl)
    ·refine step_kalloc rfl (by rfl) ?_
     rintro g10 Y hgs hrow hbN
     have N_V10 := fun (W : World) (h : Below Y.heap.size Y W) => (hrow.below h hrow.inHeap : Row W g10 25 #[.slice none 0 0, .slice none 0 0])
     have N_G10 := fun (W : World) (h : Below Y.heap.size Y W) => (by have := hHeld.size; omega : wt1.heap.size ≤ g10)
     have hHN := hHeld.trans (hbN.mono hHeld.size)
     refine hK.out _ _ hHN (fun hHeld => ?_)
     try simp only [zz]
     exact hG2 _ _ _ _ _ _ (T10_16 gv g10 Y (Lib.hid hHN) (hxt VV hbN) (Lib.hid N_V10) (Lib.hid N_G10)) (by kernel_rfl) (by kernel_rfl)
   have T16 : ∀ (g10 : Nat) (wL : World) (hH : Hid (Below wt1.heap.size wt1 wL)) (V10 : Hid (∀ W : World, Below wL.heap.size wL W → Row W g10 25 #[.slice none 0 0, .slice none 0 0])) (G10 : Hid (∀ W : World, Below wL.heap.size wL W → wt1.heap.size ≤ g10)), G 9 #[true, true, false, true, true, false, true, true, true, true, false, false, false, false, false, false, true, false] (fr.put (some 10) (.pointer (some ⟨g10, 0, none⟩))) wL := by as_aux_lemma =>
    intro g10 wL hH V10 G10
    refine hG1 _ _ _ _ ?_
    simp only [fr, zz]
    have hHeld := hH.out
    refine wpAnyH_ready (rs := [2, 10]) (by kernel_rfl) (by simp) ?_
    refine (AllReadyH.cons rfl (fun K hK => ?_) (AllReadyH.cons rfl (fun K hK => ?_) AllReadyH.nil))
    ·refine step_build0k rfl (by rfl) wt1.heap.size hHeld.size ?_
     rintro g2 Y hgs hown hbN
     have N_O2 := fun (W : World) (h : Below Y.heap.size Y W) => (row_below hown h : W.ownsRow wt1.heap.size 45 67 (.slice (some ⟨g2, 0, none⟩) 0 0) (([] : List Know.It)).length ((([] : List Know.It)).flatMap itV))
     have hHN := hHeld.trans (hbN.mono hHeld.size)
     refine hK.out _ _ hHN (fun hHeld => ?_)
     try simp only [zz]
     exact hG2 _ _ _ _ _ _ (T2_16 g2 g10 Y (Lib.hid hHN) (Lib.hid N_O2) (hxt V10 hbN) (hxt G10 hbN) (Lib.hid (by have h1 := (V10.out wL (Below.refl _ _)).inHeap; omega))) (by kernel_rfl) (by kernel_rfl)
    ·go_simp
     obtain ⟨gv, hgs⟩ : ∃ g, wL.heap.size = g := ⟨_, rfl⟩
     have hrow := Row.made wL 33 #[.int .i64 t1, .int .i64 t2]
     have hbN : Below wL.heap.size wL (wL.alloc (.cells #[.int .i64 t1, .int .i64 t2] 33)) := (Below.refl _ _).alloc (Nat.le_refl _) _
     generalize wL.alloc (.cells #[.int .i64 t1, .int .i64 t2] 33) = Y at *
     rw [hgs] at hrow ⊢
     have N_VV := fun (W : World) (h : Below Y.heap.size Y W) => (hrow.below h hrow.inHeap : Row W gv 33 #[.int .i64 t1, .int .i64 t2])
     have hHN := hHeld.trans (hbN.mono hHeld.size)
     refine hK.out _ _ hHN (fun hHeld => ?_)
     try simp only [zz]
     exact hG2 _ _ _ _ _ _ (T10_16 gv g10 Y (Lib.hid hHN) (Lib.hid N_VV) (hxt V10 hbN) (hxt G10 hbN)) (by kernel_rfl) (by kernel_rfl)
   refine hG1 _ _ _ _ ?_
   simp only [fr]
   generalize wt1.drew = wd at *
   refine wpAnyH_ready (rs := [2, 10, 16]) (by kernel_rfl) (by simp) ?_
   refine (AllReadyH.cons rfl (fun K hK => ?_) (AllReadyH.cons rfl (fun K hK => ?_) (AllReadyH.cons rfl (fun K hK => ?_) AllReadyH.nil)))
   ·refine step_build0k rfl (by rfl) wt1.heap.size hHeld.size ?_
    rintro g2 Y hgs hown hbN
    have N_O2 := fun (W : World) (h : Below Y.heap.size Y W) => (row_below hown h : W.ownsRow wt1.heap.size 45 67 (.slice (some ⟨g2, 0, none⟩) 0 0) (([] : List Know.It)).length ((([] : List Know.It)).flatMap itV))
    have hHN := hHeld.trans (hbN.mono hHeld.size)
    refine hK.out _ _ hHN (fun hHeld => ?_)
    try simp only [zz]
    exact hG2 _ _ _ _ _ _ (T2 g2 Y (Lib.hid hHN) (Lib.hid N_O2)) (by kernel_rfl) (by kernel_rfl)
   ·go_simp
    obtain ⟨gv, hgs⟩ : ∃ g, wd.heap.size = g := ⟨_, rfl⟩
    have hrow := Row.made wd 33 #[.int .i64 t1, .int .i64 t2]
    have hbN : Below wd.heap.size wd (wd.alloc (.cells #[.int .i64 t1, .int .i64 t2] 33)) := (Below.refl _ _).alloc (Nat.le_refl _) _
    generalize wd.alloc (.cells #[.int .i64 t1, .int .i64 t2] 33) = Y at *
    rw [hgs] at hrow ⊢
    have N_VV := fun (W : World) (h : Below Y.heap.size Y W) => (hrow.below h hrow.inHeap : Row W gv 33 #[.int .i64 t1, .int .i64 t2])
    have hHN := hHeld.trans (hbN.mono hHeld.size)
    refine hK.out _ _ hHN (fun hHeld => ?_)
    try simp only [zz]
    exact hG2 _ _ _ _ _ _ (T10 gv Y (Lib.hid hHN) (Lib.hid N_VV)) (by kernel_rfl) (by kernel_rfl)
   ·refine step_kalloc rfl (by rfl) ?_
    rintro g10 Y hgs hrow hbN
    have N_V10 := fun (W : World) (h : Below Y.heap.size Y W) => (hrow.below h hrow.inHeap : Row W g10 25 #[.slice none 0 0, .slice none 0 0])
    have N_G10 := fun (W : World) (h : Below Y.heap.size Y W) => (by have := hHeld.size; omega : wt1.heap.size ≤ g10)
    have hHN := hHeld.trans (hbN.mono hHeld.size)
    refine hK.out _ _ hHN (fun hHeld => ?_)
    try simp only [zz]
    exact hG2 _ _ _ _ _ _ (T16 g10 Y (Lib.hid hHN) (Lib.hid N_V10) (Lib.hid N_G10)) (by kernel_rfl) (by kernel_rfl)
  have T5_8_9 : ∀ (cp : Know.K) (pa : Option Addr) (pc : Nat) (qa : Option Addr) (qc : Nat) (cw : Know.K) (ra : Option Addr) (rc : Nat) (sa : Option Addr) (sc : Nat) (g8 : Nat) (wL : World) (hH : Hid (Below w10.heap.size w10 wL)) (KP : Hid (∀ W : World, Below wL.heap.size wL W → Kns W AnyB (.agg #[.slice pa cp.frags.length pc, .slice qa cp.items.length qc]) cp)) (CP : Hid (∀ W : World, Below wL.heap.size wL W → Know.Canon (Know.union k ⟨[], [⟨⟨b1, b2⟩, Vec.ofl [⟨t1, t2⟩]⟩]⟩) cp)) (KW : Hid (∀ W : World, Below wL.heap.size wL W → Kns W AnyB (.agg #[.slice ra cw.frags.length rc, .slice sa cw.items.length sc]) cw)) (CW : Hid (∀ W : World, Below wL.heap.size wL W → Know.Canon (Know.union k ⟨[⟨Know.saneF rx.f, rx.v, rx.no.take 12⟩], []⟩) cw)) (V8 : Hid (∀ W : World, Below wL.heap.size wL W → Row W g8 25 #[.slice none 0 0, .slice none 0 0])) (G8 : Hid (∀ W : World, Below wL.heap.size wL W → w10.heap.size ≤ g8)), G 3 #[true, true, true, true, true, true, true, true, true, true, false, false, false] (((fr.put (some 42) (.agg #[.slice pa cp.frags.length pc, .slice qa cp.items.length qc])).put (some 45) (.agg #[.slice ra cw.frags.length rc, .slice sa cw.items.length sc])).put (some 8) (.pointer (some ⟨g8, 0, none⟩))) wL := by as_aux_lemma =>
   intro cp pa pc qa qc cw ra rc sa sc g8 wL hH KP CP KW CW V8 G8
   refine hG1 _ _ _ _ ?_
   simp only [fr, zz]
   have hHeld := hH.out
   refine wpAnyH_ready (rs := [10]) (by kernel_rfl) (by simp) ?_
   refine (AllReadyH.cons rfl (fun K hK => ?_) AllReadyH.nil)
   refine step_kalloc rfl (by rfl) ?_
   rintro g9 Y hgs hrow hbN
   have N_V9 := fun (W : World) (h : Below Y.heap.size Y W) => (hrow.below h hrow.inHeap : Row W g9 25 #[.slice none 0 0, .slice none 0 0])
   have N_G9 := fun (W : World) (h : Below Y.heap.size Y W) => (by have := hHeld.size; omega : w10.heap.size ≤ g9)
   have hHN := hHeld.trans (hbN.mono hHeld.size)
   refine hK.out _ _ hHN (fun hHeld => ?_)
   try simp only [zz]
   exact hG2 _ _ _ _ _ _ (T5_8_9_10 cp pa pc qa qc cw ra rc sa sc g8 g9 Y (Lib.hid hHN) (hxt KP hbN) (hxt CP hbN) (hxt KW hbN) (hxt CW hbN) (hxt V8 hbN) (hxt G8 hbN) (Lib.hid N_V9) (Lib.hid N_G9) (Lib.hid (by have h1 := (V8.out wL (Below.refl _ _)).inHeap; omega))) (by kernel_rfl) (by kernel_rfl)
  have T5_8_10 : ∀ (cp : Know.K) (pa : Option Addr) (pc : Nat) (qa : Option Addr) (qc : Nat) (cw : Know.K) (ra : Option Addr) (rc : Nat) (sa : Option Addr) (sc : Nat) (g9 : Nat) (wL : World) (hH : Hid (Below w10.heap.size w10 wL)) (KP : Hid (∀ W : World, Below wL.heap.size wL W → Kns W AnyB (.agg #[.slice pa cp.frags.length pc, .slice qa cp.items.length qc]) cp)) (CP : Hid (∀ W : World, Below wL.heap.size wL W → Know.Canon (Know.union k ⟨[], [⟨⟨b1, b2⟩, Vec.ofl [⟨t1, t2⟩]⟩]⟩) cp)) (KW : Hid (∀ W : World, Below wL.heap.size wL W → Kns W AnyB (.agg #[.slice ra cw.frags.length rc, .slice sa cw.items.length sc]) cw)) (CW : Hid (∀ W : World, Below wL.heap.size wL W → Know.Canon (Know.union k ⟨[⟨Know.saneF rx.f, rx.v, rx.no.take 12⟩], []⟩) cw)) (V9 : Hid (∀ W : World, Below wL.heap.size wL W → Row W g9 25 #[.slice none 0 0, .slice none 0 0])) (G9 : Hid (∀ W : World, Below wL.heap.size wL W → w10.heap.size ≤ g9)), G 3 #[true, true, true, true, true, true, true, true, true, false, true, false, false] (((fr.put (some 42) (.agg #[.slice pa cp.frags.length pc, .slice qa cp.items.length qc])).put (some 45) (.agg #[.slice ra cw.frags.length rc, .slice sa cw.items.length sc])).put (some 9) (.pointer (some ⟨g9, 0, none⟩))) wL := by as_aux_lemma =>
   intro cp pa pc qa qc cw ra rc sa sc g9 wL hH KP CP KW CW V9 G9
   refine hG1 _ _ _ _ ?_
   simp only [fr, zz]
   have hHeld := hH.out
   refine wpAnyH_ready (rs := [9]) (by kernel_rfl) (by simp) ?_
   refine (AllReadyH.cons rfl (fun K hK => ?_) AllReadyH.nil)
   refine step_kalloc rfl (by rfl) ?_
   rintro g8 Y hgs hrow hbN
   have N_V8 := fun (W : World) (h : Below Y.heap.size Y W) => (hrow.below h hrow.inHeap : Row W g8 25 #[.slice none 0 0, .slice none 0 0])
   have N_G8 := fun (W : World) (h : Below Y.heap.size Y W) => (by have := hHeld.size; omega : w10.heap.size ≤ g8)
   have hHN := hHeld.trans (hbN.mono hHeld.size)
   refine hK.out _ _ hHN (fun hHeld => ?_)
   try simp only [zz]
   exact hG2 _ _ _ _ _ _ (T5_8_9_10 cp pa pc qa qc cw ra rc sa sc g8 g9 Y (Lib.hid hHN) (hxt KP hbN) (hxt CP hbN) (hxt KW hbN) (hxt CW hbN) (Lib.hid N_V8) (Lib.hid N_G8) (hxt V9 hbN) (hxt G9 hbN) (Lib.hid (by have h1 := (V9.out wL (Below.refl _ _)).inHeap; omega))) (by kernel_rfl) (by kernel_rfl)
  have T5_9_10 : ∀ (cp : Know.K) (pa : Option Addr) (pc : Nat) (qa : Option Addr) (qc : Nat) (g8 : Nat) (g9 : Nat) (wL : World) (hH : Hid (Below w10.heap.size w10 wL)) (KP : Hid (∀ W : World, Below wL.heap.size wL W → Kns W AnyB (.agg #[.slice pa cp.frags.length pc, .slice qa cp.items.length qc]) cp)) (CP : Hid (∀ W : World, Below wL.heap.size wL W → Know.Canon (Know.union k ⟨[], [⟨⟨b1, b2⟩, Vec.ofl [⟨t1, t2⟩]⟩]⟩) cp)) (V8 : Hid (∀ W : World, Below wL.heap.size wL W → Row W g8 25 #[.slice none 0 0, .slice none 0 0])) (G8 : Hid (∀ W : World, Below wL.heap.size wL W → w10.heap.size ≤ g8)) (V9 : Hid (∀ W : World, Below wL.heap.size wL W → Row W g9 25 #[.slice none 0 0, .slice none 0 0])) (G9 : Hid (∀ W : World, Below wL.heap.size wL W → w10.heap.size ≤ g9)) (P8_9 : Hid (¬ g8 = g9)), G 3 #[true, true, true, true, true, true, true, true, false, true, true, false, false] (((fr.put (some 42) (.agg #[.slice pa cp.frags.length pc, .slice qa cp.items.length qc])).put (some 8) (.pointer (some ⟨g8, 0, none⟩))).put (some 9) (.pointer (some ⟨g9, 0, none⟩))) wL := by as_aux_lemma =>
   intro cp pa pc qa qc g8 g9 wL hH KP CP V8 G8 V9 G9 P8_9
   refine hG1 _ _ _ _ ?_
   simp only [fr, zz]
   have hHeld := hH.out
   refine wpAnyH_ready (rs := [8]) (by kernel_rfl) (by simp) ?_
   refine (AllReadyH.cons rfl (fun K hK => ?_) AllReadyH.nil)
   go_simp
   go_at_call 9
   refine (CG.out _ hHeld).mono ?_
   rintro e Y ⟨v0, cw, rfl, hcan, ⟨v1, v2, rfl, hka, hkb⟩, hbN⟩
   obtain ⟨ra, rc, rfl, -⟩ := hka.parts
   obtain ⟨sa, sc, rfl, -⟩ := hkb.1.parts
   have N_KW := fun (W : World) (h : Below Y.heap.size Y W) => (⟨_, _, rfl, hka.below h, hkb.below h⟩ : Kns W AnyB (.agg #[.slice ra cw.frags.length rc, .slice sa cw.items.length sc]) cw)
   have N_CW := fun (W : World) (h : Below Y.heap.size Y W) => hcan
   have hHN := hHeld.trans (hbN.mono hHeld.size)
   refine hK.out _ _ hHN (fun hHeld => ?_)
   try simp only [zz]
   exact hG2 _ _ _ _ _ _ (T5_8_9_10 cp pa pc qa qc cw ra rc sa sc g8 g9 Y (Lib.hid hHN) (hxt KP hbN) (hxt CP hbN) (Lib.hid N_KW) (Lib.hid N_CW) (hxt V8 hbN) (hxt G8 hbN) (hxt V9 hbN) (hxt G9 hbN) P8_9) (by kernel_rfl) (by kernel_rfl)
  have T5_8 : ∀ (cp : Know.K) (pa : Option Addr) (pc : Nat) (qa : Option Addr) (qc : Nat) (cw : Know.K) (ra : Option Addr) (rc : Nat) (sa : Option Addr) (sc : Nat) (wL : World) (hH : Hid (Below w10.heap.size w10 wL)) (KP : Hid (∀ W : World, Below wL.heap.size wL W → Kns W AnyB (.agg #[.slice pa cp.frags.length pc, .slice qa cp.items.length qc]) cp)) (CP : Hid (∀ W : World, Below wL.heap.size wL W → Know.Canon (Know.union k ⟨[], [⟨⟨b1, b2⟩, Vec.ofl [⟨t1, t2⟩]⟩]⟩) cp)) (KW : Hid (∀ W : World, Below wL.heap.size wL W → Kns W AnyB (.agg #[.slice ra cw.frags.length rc, .slice sa cw.items.length sc]) cw)) (CW : Hid (∀ W : World, Below wL.heap.size wL W → Know.Canon (Know.union k ⟨[⟨Know.saneF rx.f, rx.v, rx.no.take 12⟩], []⟩) cw)), G 4 #[true, true, true, true, true, true, true, true, true, false, false, false, false] ((fr.put (some 42) (.agg #[.slice pa cp.frags.length pc, .slice qa cp.items.length qc])).put (some 45) (.agg #[.slice ra cw.frags.length rc, .slice sa cw.items.length sc])) wL := by as_aux_lemma =>
   intro cp pa pc qa qc cw ra rc sa sc wL hH KP CP KW CW
   refine hG1 _ _ _ _ ?_
   simp only [fr, zz]
   have hHeld := hH.out
   refine wpAnyH_ready (rs := [9, 10]) (by kernel_rfl) (by simp) ?_
   refine (AllReadyH.cons rfl (fun K hK => ?_) (AllReadyH.cons rfl (fun K hK => ?_) AllReadyH.nil))
   ·refine step_kalloc rfl (by rfl) ?_
    rintro g8 Y hgs hrow hbN
    have N_V8 := fun (W : World) (h : Below Y.heap.size Y W) => (hrow.below h hrow.inHeap : Row W g8 25 #[.slice none 0 0, .slice none 0 0])
    have N_G8 := fun (W : World) (h : Below Y.heap.size Y W) => (by have := hHeld.size; omega : w10.heap.size ≤ g8)
    have hHN := hHeld.trans (hbN.mono hHeld.size)
    refine hK.out _ _ hHN (fun hHeld => ?_)
    try simp only [zz]
    exact hG2 _ _ _ _ _ _ (T5_8_9 cp pa pc qa qc cw ra rc sa sc g8 Y (Lib.hid hHN) (hxt KP hbN) (hxt CP hbN) (hxt KW hbN) (hxt CW hbN) (Lib.hid N_V8) (Lib.hid N_G8)) (by kernel_rfl) (by kernel_rfl)
   ·refine step_kalloc rfl (by rfl) ?_
    rintro g9 Y hgs hrow hbN
    have N_V9 := fun (W : World) (h : Below Y.heap.size Y W) => (hrow.below h hrow.inHeap : Row W g9 25 #[.slice none 0 0, .slice none 0 0])
    have N_G9 := fun (W : World) (h : Below Y.heap.size Y W) => (by have := hHeld.size; omega : w10.heap.size ≤ g9)
    have hHN := hHeld.trans (hbN.mono hHeld.size)
    refine hK.out _ _ hHN (fun hHeld => ?_)
    try simp only [zz]
    exact hG2 _ _ _ _ _ _ (T5_8_10 cp pa pc qa qc cw ra rc sa sc g9 Y (Lib.hid hHN) (hxt KP hbN) (hxt CP hbN) (hxt KW hbN) (hxt CW hbN) (Lib.hid N_V9) (Lib.hid N_G9)) (by kernel_rfl) (by kernel_rfl)
  have T5_9 : ∀ (cp : Know.K) (pa : Option Addr) (pc : Nat) (qa : Option Addr) (qc : Nat) (g8 : Nat) (wL : World) (hH : Hid (Below w10.heap.size w10 wL)) (KP : Hid (∀ W : World, Below wL.heap.size wL W → Kns W AnyB (.agg #[.slice pa cp.frags.length pc, .slice qa cp.items.length qc]) cp)) (CP : Hid (∀ W : World, Below wL.heap.size wL W → Know.Canon (Know.union k ⟨[], [⟨⟨b1, b2⟩, Vec.ofl [⟨t1, t2⟩]⟩]⟩) cp)) (V8 : Hid (∀ W : World, Below wL.heap.size wL W → Row W g8 25 #[.slice none 0 0, .slice none 0 0])) (G8 : Hid (∀ W : World, Below wL.heap.size wL W → w10.heap.size ≤ g8)), G 4 #[true, true, true, true, true, true, true, true, false, true, false, false, false] ((fr.put (some 42) (.agg #[.slice pa cp.frags.length pc, .slice qa cp.items.length qc])).put (some 8) (.pointer (some ⟨g8, 0, none⟩))) wL := by as_aux_lemma =>
   intro cp pa pc qa qc g8 wL hH KP CP V8 G8
   refine hG1 _ _ _ _ ?_
   simp only [fr, zz]
   have hHeld := hH.out
   refine wpAnyH_ready (rs := [8, 10]) (by kernel_rfl) (by simp) ?_
   refine (AllReadyH.cons rfl (fun K hK => ?_) (AllReadyH.cons rfl (fun K hK => ?_) AllReadyH.nil))
   ·go_simp
    go_at_call 9
    refine (CG.out _ hHeld).mono ?_
    rintro e Y ⟨v0, cw, rfl, hcan, ⟨v1, v2, rfl, hka, hkb⟩, hbN⟩
    obtain ⟨ra, rc, rfl, -⟩ := hka.parts
    obtain ⟨sa, sc, rfl, -⟩ := hkb.1.parts
    have N_KW := fun (W : World) (h : Below Y.heap.size Y W) => (⟨_, _, rfl, hka.below h, hkb.below h⟩ : Kns W AnyB (.agg #[.slice ra cw.frags.length rc, .slice sa cw.items.length sc]) cw)
    have N_CW := fun (W : World) (h : Below Y.heap.size Y W) => hcan
    have hHN := hHeld.trans (hbN.mono hHeld.size)
    refine hK.out _ _ hHN (fun hHeld => ?_)
    try simp only [zz]
    exact hG2 _ _ _ _ _ _ (T5_8_9 cp pa pc qa qc cw ra rc sa sc g8 Y (Lib.hid hHN) (hxt KP hbN) (hxt CP hbN) (Lib.hid N_KW) (Lib.hid N_CW) (hxt V8 hbN) (hxt G8 hbN)) (by kernel_rfl) (by kernel_rfl)
   ·refine step_kalloc rfl (by rfl) ?_
    rintro g9 Y hgs hrow hbN
    have N_V9 := fun (W : World) (h : Below Y.heap.size Y W) => (hrow.below h hrow.inHeap : Row W g9 25 #[.slice none 0 0, .slice none 0 0])
    have N_G9 := fun (W : World) (h : Below Y.heap.size Y W) => (by have := hHeld.size; omega : w10.heap.size ≤ g9)
    have hHN := hHeld.trans (hbN.mono hHeld.size)
    refine hK.out _ _ hHN (fun hHeld => ?_)
    try simp only [zz]
    exact hG2 _ _ _ _ _ _ (T5_9_10 cp pa pc qa qc g8 g9 Y (Lib.hid hHN) (hxt KP hbN) (hxt CP hbN) (hxt V8 hbN) (hxt G8 hbN) (Lib.hid N_V9) (Lib.hid N_G9) (Lib.hid (by have h1 := (V8.out wL (Below.refl _ _)).inHeap; omega))) (by kernel_rfl) (by kernel_rfl)
  have T5_10 : ∀ (cp : Know.K) (pa : Option Addr) (pc : Nat) (qa : Option Addr) (qc : Nat) (g9 : Nat) (wL : World) (hH : Hid (Below w10.heap.size w10 wL)) (KP : Hid (∀ W : World, Below wL.heap.size wL W → Kns W AnyB (.agg #[.slice pa cp.frags.length pc, .slice qa cp.items.length qc]) cp)) (CP : Hid (∀ W : World, Below wL.heap.size wL W → Know.Canon (Know.union k ⟨[], [⟨⟨b1, b2⟩, Vec.ofl [⟨t1, t2⟩]⟩]⟩) cp)) (V9 : Hid (∀ W : World, Below wL.heap.size wL W → Row W g9 25 #[.slice none 0 0, .slice none 0 0])) (G9 : Hid (∀ W : World, Below wL.heap.size wL W → w10.heap.size ≤ g9)), G 4 #[true, true, true, true, true, true, true, true, false, false, true, false, false] ((fr.put (some 42) (.agg #[.slice pa cp.frags.length pc, .slice qa cp.items.length qc])).put (some 9) (.pointer (some ⟨g9, 0, none⟩))) wL := by as_aux_lemma =>
   intro cp pa pc qa qc g9 wL hH KP CP V9 G9
   refine hG1 _ _ _ _ ?_
   simp only [fr, zz]
   have hHeld := hH.out
   refine wpAnyH_ready (rs := [8, 9]) (by kernel_rfl) (by simp) ?_
   refine (AllReadyH.cons rfl (fun K hK => ?_) (AllReadyH.cons rfl (fun K hK => ?_) AllReadyH.nil))
   ·go_simp
    go_at_call 9
    refine (CG.out _ hHeld).mono ?_
    rintro e Y ⟨v0, cw, rfl, hcan, ⟨v1, v2, rfl, hka, hkb⟩, hbN⟩
    obtain ⟨ra, rc, rfl, -⟩ := hka.parts
    obtain ⟨sa, sc, rfl, -⟩ := hkb.1.parts
    have N_KW := fun (W : World) (h : Below Y.heap.size Y W) => (⟨_, _, rfl, hka.below h, hkb.below h⟩ : Kns W AnyB (.agg #[.slice ra cw.frags.length rc, .slice sa cw.items.length sc]) cw)
    have N_CW := fun (W : World) (h : Below Y.heap.size Y W) => hcan
    have hHN := hHeld.trans (hbN.mono hHeld.size)
    refine hK.out _ _ hHN (fun hHeld => ?_)
    try simp only [zz]
    exact hG2 _ _ _ _ _ _ (T5_8_10 cp pa pc qa qc cw ra rc sa sc g9 Y (Lib.hid hHN) (hxt KP hbN) (hxt CP hbN) (Lib.hid N_KW) (Lib.hid N_CW) (hxt V9 hbN) (hxt G9 hbN)) (by kernel_rfl) (by kernel_rfl)
   ·refine step_kalloc rfl (by rfl) ?_
    rintro g8 Y hgs hrow hbN
    have N_V8 := fun (W : World) (h : Below Y.heap.size Y W) => (hrow.below h hrow.inHeap : Row W g8 25 #[.slice none 0 0, .slice none 0 0])
    have N_G8 := fun (W : World) (h : Below Y.heap.size Y W) => (by have := hHeld.size; omega : w10.heap.size ≤ g8)
    have hHN := hHeld.trans (hbN.mono hHeld.size)
    refine hK.out _ _ hHN (fun hHeld => ?_)
    try simp only [zz]
    exact hG2 _ _ _ _ _ _ (T5_9_10 cp pa pc qa qc g8 g9 Y (Lib.hid hHN) (hxt KP hbN) (hxt CP hbN) (Lib.hid N_V8) (Lib.hid N_G8) (hxt V9 hbN) (hxt G9 hbN) (Lib.hid (by have h1 := (V9.out wL (Below.refl _ _)).inHeap; omega))) (by kernel_rfl) (by kernel_rfl)
  have T9_10 : ∀ (g8 : Nat) (g9 : Nat) (wL : World) (hH : Hid (Below w10.heap.size w10 wL)) (V8 : Hid (∀ W : World, Below wL.heap.size wL W → Row W g8 25 #[.slice none 0 0, .slice none 0 0])) (G8 : Hid (∀ W : World, Below wL.heap.size wL W → w10.heap.size ≤ g8)) (V9 : Hid (∀ W : World, Below wL.heap.size wL W → Row W g9 25 #[.slice none 0 0, .slice none 0 0])) (G9 : Hid (∀ W : World, Below wL.heap.size wL W → w10.heap.size ≤ g9)) (P8_9 : Hid (¬ g8 = g9)), G 4 #[true, true, true, true, true, false, true, true, false, true, true, false, false] ((fr.put (some 8) (.pointer (some ⟨g8, 0, none⟩))).put (some 9) (.pointer (some ⟨g9, 0, none⟩))) wL := by as_aux_lemma =>
   intro g8 g9 wL hH V8 G8 V9 G9 P8_9
   refine hG1 _ _ _ _ ?_
   simp only [fr, zz]
   have hHeld := hH.out
   refine wpAnyH_ready (rs := [5]) (by kernel_rfl) (by simp) ?_
   refine (AllReadyH.cons rfl (fun K hK => ?_) AllReadyH.nil)
   go_simp
   go_at_call 8
   refine (CA.out _ hHeld).mono ?_
   rintro e Y ⟨v0, cp, rfl, hcan, ⟨v1, v2, rfl, hka, hkb⟩, hbN⟩
   obtain ⟨pa, pc, rfl, -⟩ := hka.parts
   obtain ⟨qa, qc, rfl, -⟩ := hkb.1.parts
   have N_KP := fun (W : World) (h : Below Y.heap.size Y W) => (⟨_, _, rfl, hka.below h, hkb.below h⟩ : Kns W AnyB (.agg #[.slice pa cp.frags.length pc, .slice qa cp.items.length qc]) cp)
   have N_CP := fun (W : World) (h : Below Y.heap.size Y W) => hcan
   have hHN := hHeld.trans (hbN.mono hHeld.size)
   refine hK.out _ _ hHN (fun hHeld => ?_)
   try simp only [zz]
   exact hG2 _ _ _ _ _ _ (T5_9_10 cp pa pc qa qc g8 g9 Y (Lib.hid hHN) (Lib.hid N_KP) (Lib.hid N_CP) (hxt V8 hbN) (hxt G8 hbN) (hxt V9 hbN) (hxt G9 hbN) P8_9) (by kernel_rfl) (by kernel_rfl)
  have T5 : ∀ (cp : Know.K) (pa : Option Addr) (pc : Nat) (qa : Option Addr) (qc : Nat) (wL : World) (hH : Hid (Below w10.heap.size w10 wL)) (KP : Hid (∀ W : World, Below wL.heap.size wL W → Kns W AnyB (.agg #[.slice pa cp.frags.length pc, .slice qa cp.items.length qc]) cp)) (CP : Hid (∀ W : World, Below wL.heap.size wL W → Know.Canon (Know.union k ⟨[], [⟨⟨b1, b2⟩, Vec.ofl [⟨t1, t2⟩]⟩]⟩) cp)), G 5 #[true, true, true, true, true, true, true, true, false, false, false, false, false] (fr.put (some 42) (.agg #[.slice pa cp.frags.length pc, .slice qa cp.items.length qc])) wL := by as_aux_lemma =>
   intro cp pa pc qa qc wL hH KP CP
   refine hG1 _ _ _ _ ?_
   simp only [fr, zz]
   have hHeld := hH.out
   refine wpAnyH_ready (rs := [8, 9, 10]) (by kernel_rfl) (by simp) ?_
   refine (AllReadyH.cons rfl (fun K hK => ?_) (AllReadyH.cons rfl (fun K hK => ?_) (AllReadyH.cons rfl (fun K hK => ?_) AllReadyH.nil)))
   ·go_simp
    go_at_call 9
    refine (CG.out _ hHeld).mono ?_
    rintro e Y ⟨v0, cw, rfl, hcan, ⟨v1, v2, rfl, hka, hkb⟩, hbN⟩
    obtain ⟨ra, rc, rfl, -⟩ := hka.parts
    obtain ⟨sa, sc, rfl, -⟩ := hkb.1.parts
    have N_KW := fun (W : World) (h : Below Y.heap.size Y W) => (⟨_, _, rfl, hka.below h, hkb.below h⟩ : Kns W AnyB (.agg #[.slice ra cw.frags.length rc, .slice sa cw.items.length sc]) cw)
    have N_CW := fun (W : World) (h : Below Y.heap.size Y W) => hcan
    have hHN := hHeld.trans (hbN.mono hHeld.size)
    refine hK.out _ _ hHN (fun hHeld => ?_)
    try simp only [zz]
    exact hG2 _ _ _ _ _ _ (T5_8 cp pa pc qa qc cw ra rc sa sc Y (Lib.hid hHN) (hxt KP hbN) (hxt CP hbN) (Lib.hid N_KW) (Lib.hid N_CW)) (by kernel_rfl) (by kernel_rfl)
   ·refine step_kalloc rfl (by rfl) ?_
    rintro g8 Y hgs hrow hbN
    have N_V8 := fun (W : World) (h : Below Y.heap.size Y W) => (hrow.below h hrow.inHeap : Row W g8 25 #[.slice none 0 0, .slice none 0 0])
    have N_G8 := fun (W : World) (h : Below Y.heap.size Y W) => (by have := hHeld.size; omega : w10.heap.size ≤ g8)
    have hHN := hHeld.trans (hbN.mono hHeld.size)
    refine hK.out _ _ hHN (fun hHeld => ?_)
    try simp only [zz]
    exact hG2 _ _ _ _ _ _ (T5_9 cp pa pc qa qc g8 Y (Lib.hid hHN) (hxt KP hbN) (hxt CP hbN) (Lib.hid N_V8) (Lib.hid N_G8)) (by kernel_rfl) (by kernel_rfl)
   ·refine step_kalloc rfl (by rfl) ?_
    rintro g9 Y hgs hrow hbN
    have N_V9 := fun (W : World) (h : Below Y.heap.size Y W) => (hrow.below h hrow.inHeap : Row W g9 25 #[.slice none 0 0, .slice none 0 0])
    have N_G9 := fun (W : World) (h : Below Y.heap.size Y W) => (by have := hHeld.size; omega : w10.heap.size ≤ g9)
    have hHN := hHeld.trans (hbN.mono hHeld.size)
    refine hK.out _ _ hHN (fun hHeld => ?_)
    try simp only [zz]
    exact hG2 _ _ _ _ _ _ (T5_10 cp pa pc qa qc g9 Y (Lib.hid hHN) (hxt KP hbN) (hxt CP hbN) (Lib.hid N_V9) (Lib.hid N_G9)) (by kernel_rfl) (by kernel_rfl)
  have T9 : ∀ (g8 : Nat) (wL : World) (hH : Hid (Below w10.heap.size w10 wL)) (V8 : Hid (∀ W : World, Below wL.heap.size wL W → Row W g8 25 #[.slice none 0 0, .slice none 0 0])) (G8 : Hid (∀ W : World, Below wL.heap.size wL W → w10.heap.size ≤ g8)), G 5 #[true, true, true, true, true, false, true, true, false, true, false, false, false] (fr.put (some 8) (.pointer (some ⟨g8, 0, none⟩))) wL := by as_aux_lemma =>
   intro g8 wL hH V8 G8
   refine hG1 _ _ _ _ ?_
   simp only [fr, zz]
   have hHeld := hH.out
   refine wpAnyH_ready (rs := [5, 10]) (by kernel_rfl) (by simp) ?_
   refine (AllReadyH.cons rfl (fun K hK => ?_) (AllReadyH.cons rfl (fun K hK => ?_) AllReadyH.nil))
   ·go_simp
    go_at_call 8
    refine (CA.out _ hHeld).mono ?_
    rintro e Y ⟨v0, cp, rfl, hcan, ⟨v1, v2, rfl, hka, hkb⟩, hbN⟩
    obtain ⟨pa, pc, rfl, -⟩ := hka.parts
    obtain ⟨qa, qc, rfl, -⟩ := hkb.1.parts
    have N_KP := fun (W : World) (h : Below Y.heap.size Y W) => (⟨_, _, rfl, hka.below h, hkb.below h⟩ : Kns W AnyB (.agg #[.slice pa cp.frags.length pc, .slice qa cp.items.length qc]) cp)
    have N_CP := fun (W : World) (h : Below Y.heap.size Y W) => hcan
    have hHN := hHeld.trans (hbN.mono hHeld.size)
    refine hK.out _ _ hHN (fun hHeld => ?_)
    try simp only [zz]
    exact hG2 _ _ _ _ _ _ (T5_9 cp pa pc qa qc g8 Y (Lib.hid hHN) (Lib.hid N_KP) (Lib.hid N_CP) (hxt V8 hbN) (hxt G8 hbN)) (by kernel_rfl) (by kernel_rfl)
   ·refine step_kalloc rfl (by rfl) ?_
    rintro g9 Y hgs hrow hbN
    have N_V9 := fun (W : World) (h : Below Y.heap.size Y W) => (hrow.below h hrow.inHeap : Row W g9 25 #[.slice none 0 0, .slice none 0 0])
    have N_G9 := fun (W : World) (h : Below Y.heap.size Y W) => (by have := hHeld.size; omega : w10.heap.size ≤ g9)
    have hHN := hHeld.trans (hbN.mono hHeld.size)
    refine hK.out _ _ hHN (fun hHeld => ?_)
    try simp only [zz]
    exact hG2 _ _ _ _ _ _ (T9_10 g8 g9 Y (Lib.hid hHN) (hxt V8 hbN) (hxt G8 hbN) (Lib.hid N_V9) (Lib.hid N_G9) (Lib.hid (by have h1 := (V8.out wL (Below.refl _ _)).inHeap; omega))) (by kernel_rfl) (by kernel_rfl)
  have T10 : ∀ (g9 : Nat) (wL : World) (hH : Hid (Below w10.heap.size w10 wL)) (V9 : Hid (∀ W : World, Below wL.heap.size wL W → Row W g9 25 #[.slice none 0 0, .slice none 0 0])) (G9 : Hid (∀ W : World, Below wL.heap.size wL W → w10.heap.size ≤ g9)), G 5 #[true, true, true, true, true, false, true, true, false, false, true, false, false] (fr.put (some 9) (.pointer (some ⟨g9, 0, none⟩))) wL := by as_aux_lemma =>
   intro g9 wL hH V9 G9
   refine hG1 _ _ _ _ ?_
   simp only [fr, zz]
   have hHeld := hH.out
   refine wpAnyH_ready (rs := [5, 9]) (by kernel_rfl) (by simp) ?_
   refine (AllReadyH.cons rfl (fun K hK => ?_) (AllReadyH.cons rfl (fun K hK => ?_) AllReadyH.nil))
   ·go_simp
    go_at_call 8
    refine (CA.out _ hHeld).mono ?_
    rintro e Y ⟨v0, cp, rfl, hcan, ⟨v1, v2, rfl, hka, hkb⟩, hbN⟩
    obtain ⟨pa, pc, rfl, -⟩ := hka.parts
    obtain ⟨qa, qc, rfl, -⟩ := hkb.1.parts
    have N_KP := fun (W : World) (h : Below Y.heap.size Y W) => (⟨_, _, rfl, hka.below h, hkb.below h⟩ : Kns W AnyB (.agg #[.slice pa cp.frags.length pc, .slice qa cp.items.length qc]) cp)
    have N_CP := fun (W : World) (h : Below Y.heap.size Y W) => hcan
    have hHN := hHeld.trans (hbN.mono hHeld.size)
    refine hK.out _ _ hHN (fun hHeld => ?_)
    try simp only [zz]
    exact hG2 _ _ _ _ _ _ (T5_10 cp pa pc qa qc g9 Y (Lib.hid hHN) (Lib.hid N_KP) (Lib.hid N_CP) (hxt V9 hbN) (hxt G9 hbN)) (by kernel_rfl) (by kernel_rfl)
   ·refine step_kalloc rfl (by rfl) ?_
    rintro g8 Y hgs hrow hbN
    have N_V8 := fun (W : World) (h : Below Y.heap.size Y W) => (hrow.below h hrow.inHeap : Row W g8 25 #[.slice none 0 0, .slice none 0 0])
    have N_G8 := fun (W : World) (h : Below Y.heap.size Y W) => (by have := hHeld.size; omega : w10.heap.size ≤ g8)
    have hHN := hHeld.trans (hbN.mono hHeld.size)
    refine hK.out _ _ hHN (fun hHeld => ?_)
    try simp only [zz]
    exact hG2 _ _ _ _ _ _ (T9_10 g8 g9 Y (Lib.hid hHN) (Lib.hid N_V8) (Lib.hid N_G8) (hxt V9 hbN) (hxt G9 hbN) (Lib.hid (by have h1 := (V9.out wL (Below.refl _ _)).inHeap; omega))) (by kernel_rfl) (by kernel_rfl)
  refine hG1 _ _ _ _ ?_
  simp only [fr]
  generalize w10.drew = wd at *
  refine wpAnyH_ready (rs := [5, 9, 10]) (by kernel_rfl) (by simp) ?_
  refine (AllReadyH.cons rfl (fun K hK => ?_) (AllReadyH.cons rfl (fun K hK => ?_) (AllReadyH.cons rfl (fun K hK => ?_) AllReadyH.nil)))
  ·go_simp
   go_at_call 8
   refine (CA.out _ hHeld).mono ?_
   rintro e Y ⟨v0, cp, rfl, hcan, ⟨v1, v2, rfl, hka, hkb⟩, hbN⟩
   obtain ⟨pa, pc, rfl, -⟩ := hka.parts
   obtain ⟨qa, qc, rfl, -⟩ := hkb.1.parts
   have N_KP := fun (W : World) (h : Below Y.heap.size Y W) => (⟨_, _, rfl, hka.below h, hkb.below h⟩ : Kns W AnyB (.agg #[.slice pa cp.frags.length pc, .slice qa cp.items.length qc]) cp)
   have N_CP := fun (W : World) (h : Below Y.heap.size Y W) => hcan
   have hHN := hHeld.trans (hbN.mono hHeld.size)
   refine hK.out _ _ hHN (fun hHeld => ?_)
   try simp only [zz]
   exact hG2 _ _ _ _ _ _ (T5 cp pa pc qa qc Y (Lib.hid hHN) (Lib.hid N_KP) (Lib.hid N_CP)) (by kernel_rfl) (by kernel_rfl)
  ·refine step_kalloc rfl (by rfl) ?_
   rintro g8 Y hgs hrow hbN
   have N_V8 := fun (W : World) (h : Below Y.heap.size Y W) => (hrow.below h hrow.inHeap : Row W g8 25 #[.slice none 0 0, .slice none 0 0])
   have N_G8 := fun (W : World) (h : Below Y.heap.size Y W) => (by have := hHeld.size; omega : w10.heap.size ≤ g8)
   have hHN := hHeld.trans (hbN.mono hHeld.size)
   refine hK.out _ _ hHN (fun hHeld => ?_)
   try simp only [zz]
   exact hG2 _ _ _ _ _ _ (T9 g8 Y (Lib.hid hHN) (Lib.hid N_V8) (Lib.hid N_G8)) (by kernel_rfl) (by kernel_rfl)
  ·refine step_kalloc rfl (by rfl) ?_
   rintro g9 Y hgs hrow hbN
   have N_V9 := fun (W : World) (h : Below Y.heap.size Y W) => (hrow.below h hrow.inHeap : Row W g9 25 #[.slice none 0 0, .slice none 0 0])
   have N_G9 := fun (W : World) (h : Below Y.heap.size Y W) => (by have := hHeld.size; omega : w10.heap.size ≤ g9)
   have hHN := hHeld.trans (hbN.mono hHeld.size)
   refine hK.out _ _ hHN (fun hHeld => ?_)
   try simp only [zz]
   exact hG2 _ _ _ _ _ _ (T10 g9 Y (Lib.hid hHN) (Lib.hid N_V9) (Lib.hid N_G9)) (by kernel_rfl) (by kernel_rfl)
 have T8_9_10 : ∀ (g3 : Nat) (g4 : Nat) (g5 : Nat) (wL : World) (hH : Hid (Below W0.heap.size W0 wL)) (V3 : Hid (∀ W : World, Below wL.heap.size wL W → Row W g3 25 #[.slice none 0 0, .slice none 0 0])) (G3 : Hid (∀ W : World, Below wL.heap.size wL W → W0.heap.size ≤ g3)) (V4 : Hid (∀ W : World, Below wL.heap.size wL W → Row W g4 31 (rfV frZ).toArray)) (G4 : Hid (∀ W : World, Below wL.heap.size wL W → W0.heap.size ≤ g4)) (V5 : Hid (∀ W : World, Below wL.heap.size wL W → Row W g5 35 #[.int .i64 0, .int .i64 0, .int .i64 0, .int .i64 0, .slice none 0 0])) (G5 : Hid (∀ W : World, Below wL.heap.size wL W → W0.heap.size ≤ g5)) (P3_4 : Hid (¬ g3 = g4)) (P3_5 : Hid (¬ g3 = g5)) (P4_5 : Hid (¬ g4 = g5)), G 5 #[true, true, true, true, true, true, true, true, true, true, true, false, false, false, false, false] (((fr.put (some 3) (.pointer (some ⟨g3, 0, none⟩))).put (some 4) (.pointer (some ⟨g4, 0, none⟩))).put (some 5) (.pointer (some ⟨g5, 0, none⟩))) wL := by as_aux_lemma =>
  intro g3 g4 g5 wL hH V3 G3 V4 G4 V5 G5 P3_4 P3_5 P4_5
  refine hG1 _ _ _ _ ?_
  simp only [fr, zz]
  have hHeld := hH.out
  refine wpAnyH_ready (rs := [11]) (by kernel_rfl) (by simp) ?_
  refine (AllReadyH.cons rfl (fun K hK => ?_) AllReadyH.nil)
  refine step_aalloc rfl (by rfl) ?_
  rintro g6 Y hgs hrow hbN
  have N_V6 := fun (W : World) (h : Below Y.heap.size Y W) => (hrow.below h hrow.inHeap : Row W g6 35 #[.int .i64 0, .int .i64 0, .int .i64 0, .int .i64 0, .slice none 0 0])
  have N_G6 := fun (W : World) (h : Below Y.heap.size Y W) => (by have := hHeld.size; omega : W0.heap.size ≤ g6)
  have hHN := hHeld.trans (hbN.mono hHeld.size)
  refine hK.out _ _ hHN (fun hHeld => ?_)
  try simp only [zz]
  exact hG2 _ _ _ _ _ _ (T8_9_10_11 g3 g4 g5 g6 Y (Lib.hid hHN) (hxt V3 hbN) (hxt G3 hbN) (hxt V4 hbN) (hxt G4 hbN) (hxt V5 hbN) (hxt G5 hbN) (Lib.hid N_V6) (Lib.hid N_G6) P3_4 P3_5 (Lib.hid (by have h1 := (V3.out wL (Below.refl _ _)).inHeap; omega)) P4_5 (Lib.hid (by have h1 := (V4.out wL (Below.refl _ _)).inHeap; omega)) (Lib.hid (by have h1 := (V5.out wL (Below.refl _ _)).inHeap; omega))) (by kernel_rfl) (by kernel_rfl)
 have T8_9_11 : ∀ (g3 : Nat) (g4 : Nat) (g6 : Nat) (wL : World) (hH : Hid (Below W0.heap.size W0 wL)) (V3 : Hid (∀ W : World, Below wL.heap.size wL W → Row W g3 25 #[.slice none 0 0, .slice none 0 0])) (G3 : Hid (∀ W : World, Below wL.heap.size wL W → W0.heap.size ≤ g3)) (V4 : Hid (∀ W : World, Below wL.heap.size wL W → Row W g4 31 (rfV frZ).toArray)) (G4 : Hid (∀ W : World, Below wL.heap.size wL W → W0.heap.size ≤ g4)) (V6 : Hid (∀ W : World, Below wL.heap.size wL W → Row W g6 35 #[.int .i64 0, .int .i64 0, .int .i64 0, .int .i64 0, .slice none 0 0])) (G6 : Hid (∀ W : World, Below wL.heap.size wL W → W0.heap.size ≤ g6)) (P3_4 : Hid (¬ g3 = g4)) (P3_6 : Hid (¬ g3 = g6)) (P4_6 : Hid (¬ g4 = g6)), G 5 #[true, true, true, true, true, true, true, true, true, true, false, true, false, false, false, false] (((fr.put (some 3) (.pointer (some ⟨g3, 0, none⟩))).put (some 4) (.pointer (some ⟨g4, 0, none⟩))).put (some 6) (.pointer (some ⟨g6, 0, none⟩))) wL := by as_aux_lemma =>
  intro g3 g4 g6 wL hH V3 G3 V4 G4 V6 G6 P3_4 P3_6 P4_6
  refine hG1 _ _ _ _ ?_
  simp only [fr, zz]
  have hHeld := hH.out
  refine wpAnyH_ready (rs := [10]) (by kernel_rfl) (by simp) ?_
  refine (AllReadyH.cons rfl (fun K hK => ?_) AllReadyH.nil)
  refine step_aalloc rfl (by rfl) ?_
  rintro g5 Y hgs hrow hbN
  have N_V5 := fun (W : World) (h : Below Y.heap.size Y W) => (hrow.below h hrow.inHeap : Row W g5 35 #[.int .i64 0, .int .i64 0, .int .i64 0, .int .i64 0, .slice none 0 0])
  have N_G5 := fun (W : World) (h : Below Y.heap.size Y W) => (by have := hHeld.size; omega : W0.heap.size ≤ g5)
  have hHN := hHeld.trans (hbN.mono hHeld.size)
  refine hK.out _ _ hHN (fun hHeld => ?_)
  try simp only [zz]
  exact hG2 _ _ _ _ _ _ (T8_9_10_11 g3 g4 g5 g6 Y (Lib.hid hHN) (hxt V3 hbN) (hxt G3 hbN) (hxt V4 hbN) (hxt G4 hbN) (Lib.hid N_V5) (Lib.hid N_G5) (hxt V6 hbN) (hxt G6 hbN) P3_4 (Lib.hid (by have h1 := (V3.out wL (Below.refl _ _)).inHeap; omega)) P3_6 (Lib.hid (by have h1 := (V4.out wL (Below.refl _ _)).inHeap; omega)) P4_6 (Lib.hid (by have h1 := (V6.out wL (Below.refl _ _)).inHeap; omega))) (by kernel_rfl) (by kernel_rfl)
 have T8_10_11 : ∀ (g3 : Nat) (g5 : Nat) (g6 : Nat) (wL : World) (hH : Hid (Below W0.heap.size W0 wL)) (V3 : Hid (∀ W : World, Below wL.heap.size wL W → Row W g3 25 #[.slice none 0 0, .slice none 0 0])) (G3 : Hid (∀ W : World, Below wL.heap.size wL W → W0.heap.size ≤ g3)) (V5 : Hid (∀ W : World, Below wL.heap.size wL W → Row W g5 35 #[.int .i64 0, .int .i64 0, .int .i64 0, .int .i64 0, .slice none 0 0])) (G5 : Hid (∀ W : World, Below wL.heap.size wL W → W0.heap.size ≤ g5)) (V6 : Hid (∀ W : World, Below wL.heap.size wL W → Row W g6 35 #[.int .i64 0, .int .i64 0, .int .i64 0, .int .i64 0, .slice none 0 0])) (G6 : Hid (∀ W : World, Below wL.heap.size wL W → W0.heap.size ≤ g6)) (P3_5 : Hid (¬ g3 = g5)) (P3_6 : Hid (¬ g3 = g6)) (P5_6 : Hid (¬ g5 = g6)), G 5 #[true, true, true, true, true, true, true, true, true, false, true, true, false, false, false, false] (((fr.put (some 3) (.pointer (some ⟨g3, 0, none⟩))).put (some 5) (.pointer (some ⟨g5, 0, none⟩))).put (some 6) (.pointer (some ⟨g6, 0, none⟩))) wL := by as_aux_lemma =>
  intro g3 g5 g6 wL hH V3 G3 V5 G5 V6 G6 P3_5 P3_6 P5_6
  refine hG1 _ _ _ _ ?_
  simp only [fr, zz]
  have hHeld := hH.out
  refine wpAnyH_ready (rs := [9]) (by kernel_rfl) (by simp) ?_
  refine (AllReadyH.cons rfl (fun K hK => ?_) AllReadyH.nil)
  refine step_falloc rfl (by rfl) ?_
  rintro g4 Y hgs hrow hbN
  have N_V4 := fun (W : World) (h : Below Y.heap.size Y W) => (hrow.below h hrow.inHeap : Row W g4 31 (rfV frZ).toArray)
  have N_G4 := fun (W : World) (h : Below Y.heap.size Y W) => (by have := hHeld.size; omega : W0.heap.size ≤ g4)
  have hHN := hHeld.trans (hbN.mono hHeld.size)
  refine hK.out _ _ hHN (fun hHeld => ?_)
  try simp only [zz]
  exact hG2 _ _ _ _ _ _ (T8_9_10_11 g3 g4 g5 g6 Y (Lib.hid hHN) (hxt V3 hbN) (hxt G3 hbN) (Lib.hid N_V4) (Lib.hid N_G4) (hxt V5 hbN) (hxt G5 hbN) (hxt V6 hbN) (hxt G6 hbN) (Lib.hid (by have h1 := (V3.out wL (Below.refl _ _)).inHeap; omega)) P3_5 P3_6 (Lib.hid (by have h1 := (V5.out wL (Below.refl _ _)).inHeap; omega)) (Lib.hid (by have h1 := (V6.out wL (Below.refl _ _)).inHeap; omega)) P5_6) (by kernel_rfl) (by kernel_rfl)
 have T9_10_11 : ∀ (g4 : Nat) (g5 : Nat) (g6 : Nat) (wL : World) (hH : Hid (Below W0.heap.size W0 wL)) (V4 : Hid (∀ W : World, Below wL.heap.size wL W → Row W g4 31 (rfV frZ).toArray)) (G4 : Hid (∀ W : World, Below wL.heap.size wL W → W0.heap.size ≤ g4)) (V5 : Hid (∀ W : World, Below wL.heap.size wL W → Row W g5 35 #[.int .i64 0, .int .i64 0, .int .i64 0, .int .i64 0, .slice none 0 0])) (G5 : Hid (∀ W : World, Below wL.heap.size wL W → W0.heap.size ≤ g5)) (V6 : Hid (∀ W : World, Below wL.heap.size wL W → Row W g6 35 #[.int .i64 0, .int .i64 0, .int .i64 0, .int .i64 0, .slice none 0 0])) (G6 : Hid (∀ W : World, Below wL.heap.size wL W → W0.heap.size ≤ g6)) (P4_5 : Hid (¬ g4 = g5)) (P4_6 : Hid (¬ g4 = g6)) (P5_6 : Hid (¬ g5 = g6)), G 5 #[true, true, true, true, true, true, true, true, false, true, true, true, false, false, false, false] (((fr.put (some 4) (.pointer (some ⟨g4, 0, none⟩))).put (some 5) (.pointer (some ⟨g5, 0, none⟩))).put (some 6) (.pointer (some ⟨g6, 0, none⟩))) wL := by as_aux_lemma =>
  intro g4 g5 g6 wL hH V4 G4 V5 G5 V6 G6 P4_5 P4_6 P5_6
  refine hG1 _ _ _ _ ?_
  simp only [fr, zz]
  have hHeld := hH.out
  refine wpAnyH_ready (rs := [8]) (by kernel_rfl) (by simp) ?_
  refine (AllReadyH.cons rfl (fun K hK => ?_) AllReadyH.nil)
  refine step_kalloc rfl (by rfl) ?_
  rintro g3 Y hgs hrow hbN
  have N_V3 := fun (W : World) (h : Below Y.heap.size Y W) => (hrow.below h hrow.inHeap : Row W g3 25 #[.slice none 0 0, .slice none 0 0])
  have N_G3 := fun (W : World) (h : Below Y.heap.size Y W) => (by have := hHeld.size; omega : W0.heap.size ≤ g3)
  have hHN := hHeld.trans (hbN.mono hHeld.size)
  refine hK.out _ _ hHN (fun hHeld => ?_)
  try simp only [zz]
  exact hG2 _ _ _ _ _ _ (T8_9_10_11 g3 g4 g5 g6 Y (Lib.hid hHN) (Lib.hid N_V3) (Lib.hid N_G3) (hxt V4 hbN) (hxt G4 hbN) (hxt V5 hbN) (hxt G5 hbN) (hxt V6 hbN) (hxt G6 hbN) (Lib.hid (by have h1 := (V4.out wL (Below.refl _ _)).inHeap; omega)) (Lib.hid (by have h1 := (V5.out wL (Below.refl _ _)).inHeap; omega)) (Lib.hid (by have h1 := (V6.out wL (Below.refl _ _)).inHeap; omega)) P4_5 P4_6 P5_6) (by kernel_rfl) (by kernel_rfl)
 have T8_9 : ∀ (g3 : Nat) (g4 : Nat) (wL : World) (hH : Hid (Below W0.heap.size W0 wL)) (V3 : Hid (∀ W : World, Below wL.heap.size wL W → Row W g3 25 #[.slice none 0 0, .slice none 0 0])) (G3 : Hid (∀ W : World, Below wL.heap.size wL W → W0.heap.size ≤ g3)) (V4 : Hid (∀ W : World, Below wL.heap.size wL W → Row W g4 31 (rfV frZ).toArray)) (G4 : Hid (∀ W : World, Below wL.heap.size wL W → W0.heap.size ≤ g4)) (P3_4 : Hid (¬ g3 = g4)), G 6 #[true, true, true, true, true, true, true, true, true, true, false, false, false, false, false, false] ((fr.put (some 3) (.pointer (some ⟨g3, 0, none⟩))).put (some 4) (.pointer (some ⟨g4, 0, none⟩))) wL := by as_aux_lemma =>
  intro g3 g4 wL hH V3 G3 V4 G4 P3_4
  refine hG1 _ _ _ _ ?_
  simp only [fr, zz]
  have hHeld := hH.out
  refine wpAnyH_ready (rs := [10, 11]) (by kernel_rfl) (by simp) ?_
  refine (AllReadyH.cons rfl (fun K hK => ?_) (AllReadyH.cons rfl (fun K hK => ?_) AllReadyH.nil))
  ·refine step_aalloc rfl (by rfl) ?_
   rintro g5 Y hgs hrow hbN
   have N_V5 := fun (W : World) (h : Below Y.heap.size Y W) => (hrow.below h hrow.inHeap : Row W g5 35 #[.int .i64 0, .int .i64 0, .int .i64 0, .int .i64 0, .slice none 0 0])
   have N_G5 := fun (W : World) (h : Below Y.heap.size Y W) => (by have := hHeld.size; omega : W0.heap.size ≤ g5)
   have hHN := hHeld.trans (hbN.mono hHeld.size)
   refine hK.out _ _ hHN (fun hHeld => ?_)
   try simp only [zz]
   exact hG2 _ _ _ _ _ _ (T8_9_10 g3 g4 g5 Y (Lib.hid hHN) (hxt V3 hbN) (hxt G3 hbN) (hxt V4 hbN) (hxt G4 hbN) (Lib.hid N_V5) (Lib.hid N_G5) P3_4 (Lib.hid (by have h1 := (V3.out wL (Below.refl _ _)).inHeap; omega)) (Lib.hid (by have h1 := (V4.out wL (Below.refl _ _)).inHeap; omega))) (by kernel_rfl) (by kernel_rfl)
  ·refine step_aalloc rfl (by rfl) ?_
   rintro g6 Y hgs hrow hbN
   have N_V6 := fun (W : World) (h : Below Y.heap.size Y W) => (hrow.below h hrow.inHeap : Row W g6 35 #[.int .i64 0, .int .i64 0, .int .i64 0, .int .i64 0, .slice none 0 0])
   have N_G6 := fun (W : World) (h : Below Y.heap.size Y W) => (by have := hHeld.size; omega : W0.heap.size ≤ g6)
   have hHN := hHeld.trans (hbN.mono hHeld.size)
   refine hK.out _ _ hHN (fun hHeld => ?_)
   try simp only [zz]
   exact hG2 _ _ _ _ _ _ (T8_9_11 g3 g4 g6 Y (Lib.hid hHN) (hxt V3 hbN) (hxt G3 hbN) (hxt V4 hbN) (hxt G4 hbN) (Lib.hid N_V6) (Lib.hid N_G6) P3_4 (Lib.hid (by have h1 := (V3.out wL (Below.refl _ _)).inHeap; omega)) (Lib.hid (by have h1 := (V4.out wL (Below.refl _ _)).inHeap; omega))) (by kernel_rfl) (by kernel_rfl)
 have T8_10 : ∀ (g3 : Nat) (g5 : Nat) (wL : World) (hH : Hid (Below W0.heap.size W0 wL)) (V3 : Hid (∀ W : World, Below wL.heap.size wL W → Row W g3 25 #[.slice none 0 0, .slice none 0 0])) (G3 : Hid (∀ W : World, Below wL.heap.size wL W → W0.heap.size ≤ g3)) (V5 : Hid (∀ W : World, Below wL.heap.size wL W → Row W g5 35 #[.int .i64 0, .int .i64 0, .int .i64 0, .int .i64 0, .slice none 0 0])) (G5 : Hid (∀ W : World, Below wL.heap.size wL W → W0.heap.size ≤ g5)) (P3_5 : Hid (¬ g3 = g5)), G 6 #[true, true, true, true, true, true, true, true, true, false, true, false, false, false, false, false] ((fr.put (some 3) (.pointer (some ⟨g3, 0, none⟩))).put (some 5) (.pointer (some ⟨g5, 0, none⟩))) wL := by as_aux_lemma =>
  intro g3 g5 wL hH V3 G3 V5 G5 P3_5
  refine hG1 _ _ _ _ ?_
  simp only [fr, zz]
  have hHeld := hH.out
  refine wpAnyH_ready (rs := [9, 11]) (by kernel_rfl) (by simp) ?_
  refine (AllReadyH.cons rfl (fun K hK => ?_) (AllReadyH.cons rfl (fun K hK => ?_) AllReadyH.nil))
  ·refine step_falloc rfl (by rfl) ?_
   rintro g4 Y hgs hrow hbN
   have N_V4 := fun (W : World) (h : Below Y.heap.size Y W) => (hrow.below h hrow.inHeap : Row W g4 31 (rfV frZ).toArray)
   have N_G4 := fun (W : World) (h : Below Y.heap.size Y W) => (by have := hHeld.size; omega : W0.heap.size ≤ g4)
   have hHN := hHeld.trans (hbN.mono hHeld.size)
   refine hK.out _ _ hHN (fun hHeld => ?_)
   try simp only [zz]
   exact hG2 _ _ _ _ _ _ (T8_9_10 g3 g4 g5 Y (Lib.hid hHN) (hxt V3 hbN) (hxt G3 hbN) (Lib.hid N_V4) (Lib.hid N_G4) (hxt V5 hbN) (hxt G5 hbN) (Lib.hid (by have h1 := (V3.out wL (Below.refl _ _)).inHeap; omega)) P3_5 (Lib.hid (by have h1 := (V5.out wL (Below.refl _ _)).inHeap; omega))) (by kernel_rfl) (by kernel_rfl)
  ·refine step_aalloc rfl (by rfl) ?_
   rintro g6 Y hgs hrow hbN
   have N_V6 := fun (W : World) (h : Below Y.heap.size Y W) => (hrow.below h hrow.inHeap : Row W g6 35 #[.int .i64 0, .int .i64 0, .int .i64 0, .int .i64 0, .slice none 0 0])
   have N_G6 := fun (W : World) (h : Below Y.heap.size Y W) => (by have := hHeld.size; omega : W0.heap.size ≤ g6)
   have hHN := hHeld.trans (hbN.mono hHeld.size)
   refine hK.out _ _ hHN (fun hHeld => ?_)
   try simp only [zz]
   exact hG2 _ _ _ _ _ _ (T8_10_11 g3 g5 g6 Y (Lib.hid hHN) (hxt V3 hbN) (hxt G3 hbN) (hxt V5 hbN) (hxt G5 hbN) (Lib.hid N_V6) (Lib.hid N_G6) P3_5 (Lib.hid (by have h1 := (V3.out wL (Below.refl _ _)).inHeap; omega)) (Lib.hid (by have h1 := (V5.out wL (Below.refl _ _)).inHeap; omega))) (by kernel_rfl) (by kernel_rfl)
 have T8_11 : ∀ (g3 : Nat) (g6 : Nat) (wL : World) (hH : Hid (Below W0.heap.size W0 wL)) (V3 : Hid (∀ W : World, Below wL.heap.size wL W → Row W g3 25 #[.slice none 0 0, .slice none 0 0])) (G3 : Hid (∀ W : World, Below wL.heap.size wL W → W0.heap.size ≤ g3)) (V6 : Hid (∀ W : World, Below wL.heap.size wL W → Row W g6 35 #[.int .i64 0, .int .i64 0, .int .i64 0, .int .i64 0, .slice none 0 0])) (G6 : Hid (∀ W : World, Below wL.heap.size wL W → W0.heap.size ≤ g6)) (P3_6 : Hid (¬ g3 = g6)), G 6 #[true, true, true, true, true, true, true, true, true, false, false, true, false, false, false, false] ((fr.put (some 3) (.pointer (some ⟨g3, 0, none⟩))).put (some 6) (.pointer (some ⟨g6, 0, none⟩))) wL := by as_aux_lemma =>
  intro g3 g6 wL hH V3 G3 V6 G6 P3_6
  refine hG1 _ _ _ _ ?_
  simp only [fr, zz]
  have hHeld := hH.out
  refine wpAnyH_ready (rs := [9, 10]) (by kernel_rfl) (by simp) ?_
  refine (AllReadyH.cons rfl (fun K hK => ?_) (AllReadyH.cons rfl (fun K hK => ?_) AllReadyH.nil))
  ·refine step_falloc rfl (by rfl) ?_
   rintro g4 Y hgs hrow hbN
   have N_V4 := fun (W : World) (h : Below Y.heap.size Y W) => (hrow.below h hrow.inHeap : Row W g4 31 (rfV frZ).toArray)
   have N_G4 := fun (W : World) (h : Below Y.heap.size Y W) => (by have := hHeld.size; omega : W0.heap.size ≤ g4)
   have hHN := hHeld.trans (hbN.mono hHeld.size)
   refine hK.out _ _ hHN (fun hHeld => ?_)
   try simp only [zz]
   exact hG2 _ _ _ _ _ _ (T8_9_11 g3 g4 g6 Y (Lib.hid hHN) (hxt V3 hbN) (hxt G3 hbN) (Lib.hid N_V4) (Lib.hid N_G4) (hxt V6 hbN) (hxt G6 hbN) (Lib.hid (by have h1 := (V3.out wL (Below.refl _ _)).inHeap; omega)) P3_6 (Lib.hid (by have h1 := (V6.out wL (Below.refl _ _)).inHeap; omega))) (by kernel_rfl) (by kernel_rfl)
  ·refine step_aalloc rfl (by rfl) ?_
   rintro g5 Y hgs hrow hbN
   have N_V5 := fun (W : World) (h : Below Y.heap.size Y W) => (hrow.below h hrow.inHeap : Row W g5 35 #[.int .i64 0, .int .i64 0, .int .i64 0, .int .i64 0, .slice none 0 0])
   have N_G5 := fun (W : World) (h : Below Y.heap.size Y W) => (by have := hHeld.size; omega : W0.heap.size ≤ g5)
   have hHN := hHeld.trans (hbN.mono hHeld.size)
   refine hK.out _ _ hHN (fun hHeld => ?_)
   try simp only [zz]
   exact hG2 _ _ _ _ _ _ (T8_10_11 g3 g5 g6 Y (Lib.hid hHN) (hxt V3 hbN) (hxt G3 hbN) (Lib.hid N_V5) (Lib.hid N_G5) (hxt V6 hbN) (hxt G6 hbN) (Lib.hid (by have h1 := (V3.out wL (Below.refl _ _)).inHeap; omega)) P3_6 (Lib.hid (by have h1 := (V6.out wL (Below.refl _ _)).inHeap; omega))) (by kernel_rfl) (by kernel_rfl)
 have T9_10 : ∀ (g4 : Nat) (g5 : Nat) (wL : World) (hH : Hid (Below W0.heap.size W0 wL)) (V4 : Hid (∀ W : World, Below wL.heap.size wL W → Row W g4 31 (rfV frZ).toArray)) (G4 : Hid (∀ W : World, Below wL.heap.size wL W → W0.heap.size ≤ g4)) (V5 : Hid (∀ W : World, Below wL.heap.size wL W → Row W g5 35 #[.int .i64 0, .int .i64 0, .int .i64 0, .int .i64 0, .slice none 0 0])) (G5 : Hid (∀ W : World, Below wL.heap.size wL W → W0.heap.size ≤ g5)) (P4_5 : Hid (¬ g4 = g5)), G 6 #[true, true, true, true, true, true, true, true, false, true, true, false, false, false, false, false] ((fr.put (some 4) (.pointer (some ⟨g4, 0, none⟩))).put (some 5) (.pointer (some ⟨g5, 0, none⟩))) wL := by as_aux_lemma =>
  intro g4 g5 wL hH V4 G4 V5 G5 P4_5
  refine hG1 _ _ _ _ ?_
  simp only [fr, zz]
  have hHeld := hH.out
  refine wpAnyH_ready (rs := [8, 11]) (by kernel_rfl) (by simp) ?_
  refine (AllReadyH.cons rfl (fun K hK => ?_) (AllReadyH.cons rfl (fun K hK => ?_) AllReadyH.nil))
  ·refine step_kalloc rfl (by rfl) ?_
   rintro g3 Y hgs hrow hbN
   have N_V3 := fun (W : World) (h : Below Y.heap.size Y W) => (hrow.below h hrow.inHeap : Row W g3 25 #[.slice none 0 0, .slice none 0 0])
   have N_G3 := fun (W : World) (h : Below Y.heap.size Y W) => (by have := hHeld.size; omega : W0.heap.size ≤ g3)
   have hHN := hHeld.trans (hbN.mono hHeld.size)
   refine hK.out _ _ hHN (fun hHeld => ?_)
   try simp only [zz]
   exact hG2 _ _ _ _ _ _ (T8_9_10 g3 g4 g5 Y (Lib.hid hHN) (Lib.hid N_V3) (Lib.hid N_G3) (hxt V4 hbN) (hxt G4 hbN) (hxt V5 hbN) (hxt G5 hbN) (Lib.hid (by have h1 := (V4.out wL (Below.refl _ _)).inHeap; omega)) (Lib.hid (by have h1 := (V5.out wL (Below.refl _ _)).inHeap; omega)) P4_5) (by kernel_rfl) (by kernel_rfl)
  ·refine step_aalloc rfl (by rfl) ?_
   rintro g6 Y hgs hrow hbN
   have N_V6 := fun (W : World) (h : Below Y.heap.size Y W) => (hrow.below h hrow.inHeap : Row W g6 35 #[.int .i64 0, .int .i64 0, .int .i64 0, .int .i64 0, .slice none 0 0])
   have N_G6 := fun (W : World) (h : Below Y.heap.size Y W) => (by have := hHeld.size; omega : W0.heap.size ≤ g6)
   have hHN := hHeld.trans (hbN.mono hHeld.size)
   refine hK.out _ _ hHN (fun hHeld => ?_)
   try simp only [zz]
   exact hG2 _ _ _ _ _ _ (T9_10_11 g4 g5 g6 Y (Lib.hid hHN) (hxt V4 hbN) (hxt G4 hbN) (hxt V5 hbN) (hxt G5 hbN) (Lib.hid N_V6) (Lib.hid N_G6) P4_5 (Lib.hid (by have h1 := (V4.out wL (Below.refl _ _)).inHeap; omega)) (Lib.hid (by have h1 := (V5.out wL (Below.refl _ _)).inHeap; omega))) (by kernel_rfl) (by kernel_rfl)
 have T9_11 : ∀ (g4 : Nat) (g6 : Nat) (wL : World) (hH : Hid (Below W0.heap.size W0 wL)) (V4 : Hid (∀ W : World, Below wL.heap.size wL W → Row W g4 31 (rfV frZ).toArray)) (G4 : Hid (∀ W : World, Below wL.heap.size wL W → W0.heap.size ≤ g4)) (V6 : Hid (∀ W : World, Below wL.heap.size wL W → Row W g6 35 #[.int .i64 0, .int .i64 0, .int .i64 0, .int .i64 0, .slice none 0 0])) (G6 : Hid (∀ W : World, Below wL.heap.size wL W → W0.heap.size ≤ g6)) (P4_6 : Hid (¬ g4 = g6)), G 6 #[true, true, true, true, true, true, true, true, false, true, false, true, false, false, false, false] ((fr.put (some 4) (.pointer (some ⟨g4, 0, none⟩))).put (some 6) (.pointer (some ⟨g6, 0, none⟩))) wL := by as_aux_lemma =>
  intro g4 g6 wL hH V4 G4 V6 G6 P4_6
  refine hG1 _ _ _ _ ?_
  simp only [fr, zz]
  have hHeld := hH.out
  refine wpAnyH_ready (rs := [8, 10]) (by kernel_rfl) (by simp) ?_
  refine (AllReadyH.cons rfl (fun K hK => ?_) (AllReadyH.cons rfl (fun K hK => ?_) AllReadyH.nil))
  ·refine step_kalloc rfl (by rfl) ?_
   rintro g3 Y hgs hrow hbN
   have N_V3 := fun (W : World) (h : Below Y.heap.size Y W) => (hrow.below h hrow.inHeap : Row W g3 25 #[.slice none 0 0, .slice none 0 0])
   have N_G3 := fun (W : World) (h : Below Y.heap.size Y W) => (by have := hHeld.size; omega : W0.heap.size ≤ g3)
   have hHN := hHeld.trans (hbN.mono hHeld.size)
   refine hK.out _ _ hHN (fun hHeld => ?_)
   try simp only [zz]
   exact hG2 _ _ _ _ _ _ (T8_9_11 g3 g4 g6 Y (Lib.hid hHN) (Lib.hid N_V3) (Lib.hid N_G3) (hxt V4 hbN) (hxt G4 hbN) (hxt V6 hbN) (hxt G6 hbN) (Lib.hid (by have h1 := (V4.out wL (Below.refl _ _)).inHeap; omega)) (Lib.hid (by have h1 := (V6.out wL (Below.refl _ _)).inHeap; omega)) P4_6) (by kernel_rfl) (by kernel_rfl)
  ·refine step_aalloc rfl (by rfl) ?_
   rintro g5 Y hgs hrow hbN
   have N_V5 := fun (W : World) (h : Below Y.heap.size Y W) => (hrow.below h hrow.inHeap : Row W g5 35 #[.int .i64 0, .int .i64 0, .int .i64 0, .int .i64 0, .slice none 0 0])
   have N_G5 := fun (W : World) (h : Below Y.heap.size Y W) => (by have := hHeld.size; omega : W0.heap.size ≤ g5)
   have hHN := hHeld.trans (hbN.mono hHeld.size)
   refine hK.out _ _ hHN (fun hHeld => ?_)
   try simp only [zz]
   exact hG2 _ _ _ _ _ _ (T9_10_11 g4 g5 g6 Y (Lib.hid hHN) (hxt V4 hbN) (hxt G4 hbN) (Lib.hid N_V5) (Lib.hid N_G5) (hxt V6 hbN) (hxt G6 hbN) (Lib.hid (by have h1 := (V4.out wL (Below.refl _ _)).inHeap; omega)) P4_6 (Lib.hid (by have h1 := (V6.out wL (Below.refl _ _)).inHeap; omega))) (by kernel_rfl) (by kernel_rfl)
 have T10_11 : ∀ (g5 : Nat) (g6 : Nat) (wL : World) (hH : Hid (Below W0.heap.size W0 wL)) (V5 : Hid (∀ W : World, Below wL.heap.size wL W → Row W g5 35 #[.int .i64 0, .int .i64 0, .int .i64 0, .int .i64 0, .slice none 0 0])) (G5 : Hid (∀ W : World, Below wL.heap.size wL W → W0.heap.size ≤ g5)) (V6 : Hid (∀ W : World, Below wL.heap.size wL W → Row W g6 35 #[.int .i64 0, .int .i64 0, .int .i64 0, .int .i64 0, .slice none 0 0])) (G6 : Hid (∀ W : World, Below wL.heap.size wL W → W0.heap.size ≤ g6)) (P5_6 : Hid (¬ g5 = g6)), G 6 #[true, true, true, true, true, true, true, true, false, false, true, true, false, false, false, false] ((fr.put (some 5) (.pointer (some ⟨g5, 0, none⟩))).put (some 6) (.pointer (some ⟨g6, 0, none⟩))) wL := by as_aux_lemma =>
  intro g5 g6 wL hH V5 G5 V6 G6 P5_6
  refine hG1 _ _ _ _ ?_
  simp only [fr, zz]
  have hHeld := hH.out
  refine wpAnyH_ready (rs := [8, 9]) (by kernel_rfl) (by simp) ?_
  refine (AllReadyH.cons rfl (fun K hK => ?_) (AllReadyH.cons rfl (fun K hK => ?_) AllReadyH.nil))
  ·refine step_kalloc rfl (by rfl) ?_
   rintro g3 Y hgs hrow hbN
   have N_V3 := fun (W : World) (h : Below Y.heap.size Y W) => (hrow.below h hrow.inHeap : Row W g3 25 #[.slice none 0 0, .slice none 0 0])
   have N_G3 := fun (W : World) (h : Below Y.heap.size Y W) => (by have := hHeld.size; omega : W0.heap.size ≤ g3)
   have hHN := hHeld.trans (hbN.mono hHeld.size)
   refine hK.out _ _ hHN (fun hHeld => ?_)
   try simp only [zz]
   exact hG2 _ _ _ _ _ _ (T8_10_11 g3 g5 g6 Y (Lib.hid hHN) (Lib.hid N_V3) (Lib.hid N_G3) (hxt V5 hbN) (hxt G5 hbN) (hxt V6 hbN) (hxt G6 hbN) (Lib.hid (by have h1 := (V5.out wL (Below.refl _ _)).inHeap; omega)) (Lib.hid (by have h1 := (V6.out wL (Below.refl _ _)).inHeap; omega)) P5_6) (by kernel_rfl) (by kernel_rfl)
  ·refine step_falloc rfl (by rfl) ?_
   rintro g4 Y hgs hrow hbN
   have N_V4 := fun (W : World) (h : Below Y.heap.size Y W) => (hrow.below h hrow.inHeap : Row W g4 31 (rfV frZ).toArray)
   have N_G4 := fun (W : World) (h : Below Y.heap.size Y W) => (by have := hHeld.size; omega : W0.heap.size ≤ g4)
   have hHN := hHeld.trans (hbN.mono hHeld.size)
   refine hK.out _ _ hHN (fun hHeld => ?_)
   try simp only [zz]
   exact hG2 _ _ _ _ _ _ (T9_10_11 g4 g5 g6 Y (Lib.hid hHN) (Lib.hid N_V4) (Lib.hid N_G4) (hxt V5 hbN) (hxt G5 hbN) (hxt V6 hbN) (hxt G6 hbN) (Lib.hid (by have h1 := (V5.out wL (Below.refl _ _)).inHeap; omega)) (Lib.hid (by have h1 := (V6.out wL (Below.refl _ _)).inHeap; omega)) P5_6) (by kernel_rfl) (by kernel_rfl)
 have T8 : ∀ (g3 : Nat) (wL : World) (hH : Hid (Below W0.heap.size W0 wL)) (V3 : Hid (∀ W : World, Below wL.heap.size wL W → Row W g3 25 #[.slice none 0 0, .slice none 0 0])) (G3 : Hid (∀ W : World, Below wL.heap.size wL W → W0.heap.size ≤ g3)), G 7 #[true, true, true, true, true, true, true, true, true, false, false, false, false, false, false, false] (fr.put (some 3) (.pointer (some ⟨g3, 0, none⟩))) wL := by as_aux_lemma =>
  intro g3 wL hH V3 G3
  refine hG1 _ _ _ _ ?_
  simp only [fr, zz]
  have hHeld := hH.out
  refine wpAnyH_ready (rs := [9, 10, 11]) (by kernel_rfl) (by simp) ?_
  refine (AllReadyH.cons rfl (fun K hK => ?_) (AllReadyH.cons rfl (fun K hK => ?_) (AllReadyH.cons rfl (fun K hK => ?_) AllReadyH.nil)))
  ·refine step_falloc rfl (by rfl) ?_
   rintro g4 Y hgs hrow hbN
   have N_V4 := fun (W : World) (h : Below Y.heap.size Y W) => (hrow.below h hrow.inHeap : Row W g4 31 (rfV frZ).toArray)
   have N_G4 := fun (W : World) (h : Below Y.heap.size Y W) => (by have := hHeld.size; omega : W0.heap.size ≤ g4)
   have hHN := hHeld.trans (hbN.mono hHeld.size)
   refine hK.out _ _ hHN (fun hHeld => ?_)
   try simp only [zz]
   exact hG2 _ _ _ _ _ _ (T8_9 g3 g4 Y (Lib.hid hHN) (hxt V3 hbN) (hxt G3 hbN) (Lib.hid N_V4) (Lib.hid N_G4) (Lib.hid (by have h1 := (V3.out wL (Below.refl _ _)).inHeap; omega))) (by kernel_rfl) (by kernel_rfl)
  ·refine step_aalloc rfl (by rfl) ?_
   rintro g5 Y hgs hrow hbN
   have N_V5 := fun (W : World) (h : Below Y.heap.size Y W) => (hrow.below h hrow.inHeap : Row W g5 35 #[.int .i64 0, .int .i64 0, .int .i64 0, .int .i64 0, .slice none 0 0])
   have N_G5 := fun (W : World) (h : Below Y.heap.size Y W) => (by have := hHeld.size; omega : W0.heap.size ≤ g5)
   have hHN := hHeld.trans (hbN.mono hHeld.size)
   refine hK.out _ _ hHN (fun hHeld => ?_)
   try simp only [zz]
   exact hG2 _ _ _ _ _ _ (T8_10 g3 g5 Y (Lib.hid hHN) (hxt V3 hbN) (hxt G3 hbN) (Lib.hid N_V5) (Lib.hid N_G5) (Lib.hid (by have h1 := (V3.out wL (Below.refl _ _)).inHeap; omega))) (by kernel_rfl) (by kernel_rfl)
  ·refine step_aalloc rfl (by rfl) ?_
   rintro g6 Y hgs hrow hbN
   have N_V6 := fun (W : World) (h : Below Y.heap.size Y W) => (hrow.below h hrow.inHeap : Row W g6 35 #[.int .i64 0, .int .i64 0, .int .i64 0, .int .i64 0, .slice none 0 0])
   have N_G6 := fun (W : World) (h : Below Y.heap.size Y W) => (by have := hHeld.size; omega : W0.heap.size ≤ g6)
   have hHN := hHeld.trans (hbN.mono hHeld.size)
   refine hK.out _ _ hHN (fun hHeld => ?_)
   try simp only [zz]
   exact hG2 _ _ _ _ _ _ (T8_11 g3 g6 Y (Lib.hid hHN) (hxt V3 hbN) (hxt G3 hbN) (Lib.hid N_V6) (Lib.hid N_G6) (Lib.hid (by have h1 := (V3.out wL (Below.refl _ _)).inHeap; omega))) (by kernel_rfl) (by kernel_rfl)
 have T9 : ∀ (g4 : Nat) (wL : World) (hH : Hid (Below W0.heap.size W0 wL)) (V4 : Hid (∀ W : World, Below wL.heap.size wL W → Row W g4 31 (rfV frZ).toArray)) (G4 : Hid (∀ W : World, Below wL.heap.size wL W → W0.heap.size ≤ g4)), G 7 #[true, true, true, true, true, true, true, true, false, true, false, false, false, false, false, false] (fr.put (some 4) (.pointer (some ⟨g4, 0, none⟩))) wL := by as_aux_lemma =>
  intro g4 wL hH V4 G4
  refine hG1 _ _ _ _ ?_
  simp only [fr, zz]
  have hHeld := hH.out
  refine wpAnyH_ready (rs := [8, 10, 11]) (by kernel_rfl) (by simp) ?_
  refine (AllReadyH.cons rfl (fun K hK => ?_) (AllReadyH.cons rfl (fun K hK => ?_) (AllReadyH.cons rfl (fun K hK => ?_) AllReadyH.nil)))
  ·refine step_kalloc rfl (by rfl) ?_
   rintro g3 Y hgs hrow hbN
   have N_V3 := fun (W : World) (h : Below Y.heap.size Y W) => (hrow.below h hrow.inHeap : Row W g3 25 #[.slice none 0 0, .slice none 0 0])
   have N_G3 := fun (W : World) (h : Below Y.heap.size Y W) => (by have := hHeld.size; omega : W0.heap.size ≤ g3)
   have hHN := hHeld.trans (hbN.mono hHeld.size)
   refine hK.out _ _ hHN (fun hHeld => ?_)
   try simp only [zz]
   exact hG2 _ _ _ _ _ _ (T8_9 g3 g4 Y (Lib.hid hHN) (Lib.hid N_V3) (Lib.hid N_G3) (hxt V4 hbN) (hxt G4 hbN) (Lib.hid (by have h1 := (V4.out wL (Below.refl _ _)).inHeap; omega))) (by kernel_rfl) (by kernel_rfl)
  ·refine step_aalloc rfl (by rfl) ?_
   rintro g5 Y hgs hrow hbN
   have N_V5 := fun (W : World) (h : Below Y.heap.size Y W) => (hrow.below h hrow.inHeap : Row W g5 35 #[.int .i64 0, .int .i64 0, .int .i64 0, .int .i64 0, .slice none 0 0])
   have N_G5 := fun (W : World) (h : Below Y.heap.size Y W) => (by have := hHeld.size; omega : W0.heap.size ≤ g5)
   have hHN := hHeld.trans (hbN.mono hHeld.size)
   refine hK.out _ _ hHN (fun hHeld => ?_)
   try simp only [zz]
   exact hG2 _ _ _ _ _ _ (T9_10 g4 g5 Y (Lib.hid hHN) (hxt V4 hbN) (hxt G4 hbN) (Lib.hid N_V5) (Lib.hid N_G5) (Lib.hid (by have h1 := (V4.out wL (Below.refl _ _)).inHeap; omega))) (by kernel_rfl) (by kernel_rfl)
  ·refine step_aalloc rfl (by rfl) ?_
   rintro g6 Y hgs hrow hbN
   have N_V6 := fun (W : World) (h : Below Y.heap.size Y W) => (hrow.below h hrow.inHeap : Row W g6 35 #[.int .i64 0, .int .i64 0, .int .i64 0, .int .i64 0, .slice none 0 0])
   have N_G6 := fun (W : World) (h : Below Y.heap.size Y W) => (by have := hHeld.size; omega : W0.heap.size ≤ g6)
   have hHN := hHeld.trans (hbN.mono hHeld.size)
   refine hK.out _ _ hHN (fun hHeld => ?_)
   try simp only [zz]
   exact hG2 _ _ _ _ _ _ (T9_11 g4 g6 Y (Lib.hid hHN) (hxt V4 hbN) (hxt G4 hbN) (Lib.hid N_V6) (Lib.hid N_G6) (Lib.hid (by have h1 := (V4.out wL (Below.refl _ _)).inHeap; omega))) (by kernel_rfl) (by kernel_rfl)
 have T10 : ∀ (g5 : Nat) (wL : World) (hH : Hid (Below W0.heap.size W0 wL)) (V5 : Hid (∀ W : World, Below wL.heap.size wL W → Row W g5 35 #[.int .i64 0, .int .i64 0, .int .i64 0, .int .i64 0, .slice none 0 0])) (G5 : Hid (∀ W : World, Below wL.heap.size wL W → W0.heap.size ≤ g5)), G 7 #[true, true, true, true, true, true, true, true, false, false, true, false, false, false, false, false] (fr.put (some 5) (.pointer (some ⟨g5, 0, none⟩))) wL := by as_aux_lemma =>
  intro g5 wL hH V5 G5
  refine hG1 _ _ _ _ ?_
  simp only [fr, zz]
  have hHeld := hH.out
  refine wpAnyH_ready (rs := [8, 9, 11]) (by kernel_rfl) (by simp) ?_
  refine (AllReadyH.cons rfl (fun K hK => ?_) (AllReadyH.cons rfl (fun K hK => ?_) (AllReadyH.cons rfl (fun K hK => ?_) AllReadyH.nil)))
  ·refine step_kalloc rfl (by rfl) ?_
   rintro g3 Y hgs hrow hbN
   have N_V3 := fun (W : World) (h : Below Y.heap.size Y W) => (hrow.below h hrow.inHeap : Row W g3 25 #[.slice none 0 0, .slice none 0 0])
   have N_G3 := fun (W : World) (h : Below Y.heap.size Y W) => (by have := hHeld.size; omega : W0.heap.size ≤ g3)
   have hHN := hHeld.trans (hbN.mono hHeld.size)
   refine hK.out _ _ hHN (fun hHeld => ?_)
   try simp only [zz]
   exact hG2 _ _ _ _ _ _ (T8_10 g3 g5 Y (Lib.hid hHN) (Lib.hid N_V3) (Lib.hid N_G3) (hxt V5 hbN) (hxt G5 hbN) (Lib.hid (by have h1 := (V5.out wL (Below.refl _ _)).inHeap; omega))) (by kernel_rfl) (by kernel_rfl)
  ·refine step_falloc rfl (by rfl) ?_
   rintro g4 Y hgs hrow hbN
   have N_V4 := fun (W : World) (h : Below Y.heap.size Y W) => (hrow.below h hrow.inHeap : Row W g4 31 (rfV frZ).toArray)
   have N_G4 := fun (W : World) (h : Below Y.heap.size Y W) => (by have := hHeld.size; omega : W0.heap.size ≤ g4)
   have hHN := hHeld.trans (hbN.mono hHeld.size)
   refine hK.out _ _ hHN (fun hHeld => ?_)
   try simp only [zz]
   exact hG2 _ _ _ _ _ _ (T9_10 g4 g5 Y (Lib.hid hHN) (Lib.hid N_V4) (Lib.hid N_G4) (hxt V5 hbN) (hxt G5 hbN) (Lib.hid (by have h1 := (V5.out wL (Below.refl _ _)).inHeap; omega))) (by kernel_rfl) (by kernel_rfl)
  ·refine step_aalloc rfl (by rfl) ?_
   rintro g6 Y hgs hrow hbN
   have N_V6 := fun (W : World) (h : Below Y.heap.size Y W) => (hrow.below h hrow.inHeap : Row W g6 35 #[.int .i64 0, .int .i64 0, .int .i64 0, .int .i64 0, .slice none 0 0])
   have N_G6 := fun (W : World) (h : Below Y.heap.size Y W) => (by have := hHeld.size; omega : W0.heap.size ≤ g6)
   have hHN := hHeld.trans (hbN.mono hHeld.size)
   refine hK.out _ _ hHN (fun hHeld => ?_)
   try simp only [zz]
   exact hG2 _ _ _ _ _ _ (T10_11 g5 g6 Y (Lib.hid hHN) (hxt V5 hbN) (hxt G5 hbN) (Lib.hid N_V6) (Lib.hid N_G6) (Lib.hid (by have h1 := (V5.out wL (Below.refl _ _)).inHeap; omega))) (by kernel_rfl) (by kernel_rfl)
 have T11 : ∀ (g6 : Nat) (wL : World) (hH : Hid (Below W0.heap.size W0 wL)) (V6 : Hid (∀ W : World, Below wL.heap.size wL W → Row W g6 35 #[.int .i64 0, .int .i64 0, .int .i64 0, .int .i64 0, .slice none 0 0])) (G6 : Hid (∀ W : World, Below wL.heap.size wL W → W0.heap.size ≤ g6)), G 7 #[true, true, true, true, true, true, true, true, false, false, false, true, false, false, false, false] (fr.put (some 6) (.pointer (some ⟨g6, 0, none⟩))) wL := by as_aux_lemma =>
  intro g6 wL hH V6 G6
  refine hG1 _ _ _ _ ?_
  simp only [fr, zz]
  have hHeld := hH.out
  refine wpAnyH_ready (rs := [8, 9, 10]) (by kernel_rfl) (by simp) ?_
  refine (AllReadyH.cons rfl (fun K hK => ?_) (AllReadyH.cons rfl (fun K hK => ?_) (AllReadyH.cons rfl (fun K hK => ?_) AllReadyH.nil)))
  ·refine step_kalloc rfl (by rfl) ?_
   rintro g3 Y hgs hrow hbN
   have N_V3 := fun (W : World) (h : Below Y.heap.size Y W) => (hrow.below h hrow.inHeap : Row W g3 25 #[.slice none 0 0, .slice none 0 0])
   have N_G3 := fun (W : World) (h : Below Y.heap.size Y W) => (by have := hHeld.size; omega : W0.heap.size ≤ g3)
   have hHN := hHeld.trans (hbN.mono hHeld.size)
   refine hK.out _ _ hHN (fun hHeld => ?_)
   try simp only [zz]
   exact hG2 _ _ _ _ _ _ (T8_11 g3 g6 Y (Lib.hid hHN) (Lib.hid N_V3) (Lib.hid N_G3) (hxt V6 hbN) (hxt G6 hbN) (Lib.hid (by have h1 := (V6.out wL (Below.refl _ _)).inHeap; omega))) (by kernel_rfl) (by kernel_rfl)
  ·refine step_falloc rfl (by rfl) ?_
   rintro g4 Y hgs hrow hbN
   have N_V4 := fun (W : World) (h : Below Y.heap.size Y W) => (hrow.below h hrow.inHeap : Row W g4 31 (rfV frZ).toArray)
   have N_G4 := fun (W : World) (h : Below Y.heap.size Y W) => (by have := hHeld.size; omega : W0.heap.size ≤ g4)
   have hHN := hHeld.trans (hbN.mono hHeld.size)
   refine hK.out _ _ hHN (fun hHeld => ?_)
   try simp only [zz]
   exact hG2 _ _ _ _ _ _ (T9_11 g4 g6 Y (Lib.hid hHN) (Lib.hid N_V4) (Lib.hid N_G4) (hxt V6 hbN) (hxt G6 hbN) (Lib.hid (by have h1 := (V6.out wL (Below.refl _ _)).inHeap; omega))) (by kernel_rfl) (by kernel_rfl)
  ·refine step_aalloc rfl (by rfl) ?_
   rintro g5 Y hgs hrow hbN
   have N_V5 := fun (W : World) (h : Below Y.heap.size Y W) => (hrow.below h hrow.inHeap : Row W g5 35 #[.int .i64 0, .int .i64 0, .int .i64 0, .int .i64 0, .slice none 0 0])
   have N_G5 := fun (W : World) (h : Below Y.heap.size Y W) => (by have := hHeld.size; omega : W0.heap.size ≤ g5)
   have hHN := hHeld.trans (hbN.mono hHeld.size)
   refine hK.out _ _ hHN (fun hHeld => ?_)
   try simp only [zz]
   exact hG2 _ _ _ _ _ _ (T10_11 g5 g6 Y (Lib.hid hHN) (Lib.hid N_V5) (Lib.hid N_G5) (hxt V6 hbN) (hxt G6 hbN) (Lib.hid (by have h1 := (V6.out wL (Below.refl _ _)).inHeap; omega))) (by kernel_rfl) (by kernel_rfl)
 refine hG1 _ _ _ _ ?_
 simp only [fr]
 generalize W0.drew = wd at *
 refine wpAnyH_ready (rs := [8, 9, 10, 11]) (by kernel_rfl) (by simp) ?_
 refine (AllReadyH.cons rfl (fun K hK => ?_) (AllReadyH.cons rfl (fun K hK => ?_) (AllReadyH.cons rfl (fun K hK => ?_) (AllReadyH.cons rfl (fun K hK => ?_) AllReadyH.nil))))
 ·refine step_kalloc rfl (by rfl) ?_
  rintro g3 Y hgs hrow hbN
  have N_V3 := fun (W : World) (h : Below Y.heap.size Y W) => (hrow.below h hrow.inHeap : Row W g3 25 #[.slice none 0 0, .slice none 0 0])
  have N_G3 := fun (W : World) (h : Below Y.heap.size Y W) => (by have := hHeld.size; omega : W0.heap.size ≤ g3)
  have hHN := hHeld.trans (hbN.mono hHeld.size)
  refine hK.out _ _ hHN (fun hHeld => ?_)
  try simp only [zz]
  exact hG2 _ _ _ _ _ _ (T8 g3 Y (Lib.hid hHN) (Lib.hid N_V3) (Lib.hid N_G3)) (by kernel_rfl) (by kernel_rfl)
 ·refine step_falloc rfl (by rfl) ?_
  rintro g4 Y hgs hrow hbN
  have N_V4 := fun (W : World) (h : Below Y.heap.size Y W) => (hrow.below h hrow.inHeap : Row W g4 31 (rfV frZ).toArray)
  have N_G4 := fun (W : World) (h : Below Y.heap.size Y W) => (by have := hHeld.size; omega : W0.heap.size ≤ g4)
  have hHN := hHeld.trans (hbN.mono hHeld.size)
  refine hK.out _ _ hHN (fun hHeld => ?_)
  try simp only [zz]
  exact hG2 _ _ _ _ _ _ (T9 g4 Y (Lib.hid hHN) (Lib.hid N_V4) (Lib.hid N_G4)) (by kernel_rfl) (by kernel_rfl)
 ·refine step_aalloc rfl (by rfl) ?_
  rintro g5 Y hgs hrow hbN
  have N_V5 := fun (W : World) (h : Below Y.heap.size Y W) => (hrow.below h hrow.inHeap : Row W g5 35 #[.int .i64 0, .int .i64 0, .int .i64 0, .int .i64 0, .slice none 0 0])
  have N_G5 := fun (W : World) (h : Below Y.heap.size Y W) => (by have := hHeld.size; omega : W0.heap.size ≤ g5)
  have hHN := hHeld.trans (hbN.mono hHeld.size)
  refine hK.out _ _ hHN (fun hHeld => ?_)
  try simp only [zz]
  exact hG2 _ _ _ _ _ _ (T10 g5 Y (Lib.hid hHN) (Lib.hid N_V5) (Lib.hid N_G5)) (by kernel_rfl) (by kernel_rfl)
 ·refine step_aalloc rfl (by rfl) ?_
  rintro g6 Y hgs hrow hbN
  have N_V6 := fun (W : World) (h : Below Y.heap.size Y W) => (hrow.below h hrow.inHeap : Row W g6 35 #[.int .i64 0, .int .i64 0, .int .i64 0, .int .i64 0, .slice none 0 0])
  have N_G6 := fun (W : World) (h : Below Y.heap.size Y W) => (by have := hHeld.size; omega : W0.heap.size ≤ g6)
  have hHN := hHeld.trans (hbN.mono hHeld.size)
  refine hK.out _ _ hHN (fun hHeld => ?_)
  try simp only [zz]
  exact hG2 _ _ _ _ _ _ (T11 g6 Y (Lib.hid hHN) (Lib.hid N_V6) (Lib.hid N_G6)) (by kernel_rfl) (by kernel_rfl)
end Go.Proofs.YtkcgmnhjofoeiaaGreat
