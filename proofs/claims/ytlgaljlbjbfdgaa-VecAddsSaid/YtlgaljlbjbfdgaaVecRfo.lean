/- The document's own answers of layer 13: Ends, Of. -/
import Derived.Test.YtlgaljlbjbfdgaaVecRef
import Derived.Test.YtlgaljlbjbfdgaaVecPut
import Derived.Laws.CopyOwn
set_option linter.unusedSimpArgs false
set_option linter.unusedVariables false
namespace Go.Proofs.Ytlgaljlbjbfdgaa
open Go.RowKit Go.Sort

set_option maxRecDepth 100000 in
set_option maxHeartbeats 1600000 in
theorem ref_vends (w : World) {v : List Int} (hv : v.length = 65) : Calls Try.prog 15 #[vecA v] w fun e w' => ∃ s, e = .returned s ∧ RowsOwn 25 2 verV w (Vec.ends v) s w' := by
  obtain ⟨i0, hi0, hz0, hz1, hz2⟩ := ver_parts verInfo
  have start : ∃ W, W = w.alloc (.cells (vecR v) 23) ∧ VRow W w.heap.size v ∧ Laid w W := ⟨_, rfl, VRow.made w hv, Laid.new w _⟩
  obtain ⟨W, hW, r0, hL⟩ := start
  have R0 := Lib.hid r0
  have HL := Lib.hid hL
  have HV := Lib.hid hv
  clear r0 hL hv
  go_enter Try.func15, Try.ntmps15
  go_wp2_with fail
  rw [← hW]
  clear hW
  go_loopw [3, 4] (fun sv i wr => ∃ k : Nat, 1 ≤ k ∧ k ≤ 65 ∧ i = .int .i64 (k : Int) ∧ RowsOwn 25 2 verV W (Vec.endsK v k) sv wr) (fun _ i _ => 65 - (intOf i).toNat)
  case atStart => exact ⟨1, Nat.le_refl _, by omega, rfl, by rw [Vec.endsK_one]; exact RowsOwn.first (Below.refl _ _)⟩
  case round =>
    obtain ⟨k, hk1, hk, rfl, hr⟩ := hrel
    by_cases hlt : k < 65
    · have AT := Lib.hid (fun W' => ref_vat W' (k : Int) HV.out)
      rw [Vec.num_nat v hlt] at AT
      have k1 : (k : Int) ≤ 64 := by omega
      have Hk := Lib.hid hk
      have V0 := Lib.hid (R0.out.below hr.2 R0.out.inHeap)
      have HR := Lib.hid hr
      clear hr
      by_cases hp : 0 < Vec.at_ v k
      · have HE := Lib.hid (Vec.endsK_more v k hp)
        have Hlen := Lib.hid (Vec.endsK_len v k)
        generalize Vec.at_ v k = n at *
        go_wp2_with (refine wpList_vload (by rfl) _ (by rfl) (by rfl) V0.out ?_)
        refine (AT.out _).mono ?_
        rintro e w1 ⟨rfl, h1⟩
        have V1 := Lib.hid (V0.out.below h1.below V0.out.inHeap)
        have HR1 := Lib.hid (HR.out.below h1.below)
        clear h1
        go_wp2_with (refine wpList_vload (by rfl) _ (by rfl) (by rfl) V1.out ?_)
        refine (AT.out _).mono ?_
        rintro e w2 ⟨rfl, h2⟩
        have HR2 := Lib.hid (HR1.out.below h2.below)
        have hown := HR2.out.1.alloc (.cells #[.int .i64 (k : Int), .int .i64 n] 25)
        have Hmd := Lib.hid (ver_made w2 25 ⟨(k : Int), n⟩)
        have hsz : W.heap.size ≤ w2.heap.size := HR2.out.2.size
        clear h2 hk
        go_wp2_with (at_builtin; refine wp_joins (f := verV) (k := 2) rfl _ _ 27 rfl W.heap.size 25 i0 (.agg #[.int .i64 0, .int .i64 0]) 16 Try.underlying27 hi0 hz0 hz1 hz2 rfl (by decide) rfl rfl hown Hmd.out (fun _ _ => rfl) (fun x _ => ver_one x) ?c1 ?c2 ?c3 ?_; (case c1 => (have e1 := Hlen.out; have e2 := Hk.out; rw [show ([(⟨(k : Int), n⟩ : Ver.V)]).length = 1 from rfl]; unfold maxLen; omega)); (case c2 => (have e1 := Hlen.out; have e2 := Hk.out; rw [show ([(⟨(k : Int), n⟩ : Ver.V)]).length = 1 from rfl]; omega)); (case c3 => (simp; omega)); intro v2 w3 own2 hg2 _; have F2 := Lib.hid (HR2.out.more (x := (⟨(k : Int), n⟩ : Ver.V)) (v' := v2) (by simpa [verV] using own2) hg2); clear own2 hg2)
        rw [← HE.out] at F2
        exact ⟨⟨k + 1, by omega, by omega, rfl, F2.out⟩, by show 65 - ((k : Int) + 1).toNat < 65 - (k : Int).toNat; omega⟩
      · have hp' : Vec.at_ v k ≤ 0 := by omega
        have HE := Lib.hid (Vec.endsK_same v k hp)
        generalize Vec.at_ v k = n at *
        go_wp2_with (refine wpList_vload (by rfl) _ (by rfl) (by rfl) V0.out ?_)
        refine (AT.out _).mono ?_
        rintro e w1 ⟨rfl, h1⟩
        have HR1 := HR.out.below h1.below
        rw [← HE.out] at HR1
        have HR1 := Lib.hid HR1
        clear h1
        go_wp2_with fail
        exact ⟨⟨k + 1, by omega, by omega, rfl, HR1.out⟩, by show 65 - ((k : Int) + 1).toNat < 65 - (k : Int).toNat; omega⟩
    · obtain rfl : k = 65 := by omega
      have HR := Lib.hid (hr.since HL.out.below)
      clear hr
      go_wp2_with fail
      go_ret
      exact ⟨_, rfl, HR.out⟩

set_option maxRecDepth 100000 in
set_option maxHeartbeats 3200000 in
theorem ref_vof {w : World} {F : Nat → Prop} {s : Value} {l : List Ver.V} (h : Vrs w F s l) (hl : l.length ≤ 1000000) : Calls Try.prog 20 #[s] w fun e w' => e = .returned (vecA (Vec.ofl l)) ∧ Below w.heap.size w w' := by
  have mixed : Try.prog.follows .mixedOrders = true := by kernel_rfl
  have hz := vecZero
  obtain ⟨A, c, rfl, hc⟩ := h.parts
  have start : ∃ W, W = (w.alloc (.cells (vecR Vec.zeros) 23)).alloc (.cells (vecR Vec.zeros) 23) ∧ VRow W w.heap.size Vec.zeros ∧ VRow W (w.heap.size + 1) Vec.zeros ∧ Laid w W := by
    refine ⟨_, rfl, (VRow.made w Vec.zeros_len).alloc _, ?_, (Laid.new w _).alloc _⟩
    have := VRow.made (w.alloc (.cells (vecR Vec.zeros) 23)) (v := Vec.zeros) Vec.zeros_len
    rwa [World.size_alloc] at this
  obtain ⟨W, hW, r0, r1, hL⟩ := start
  have HW := Lib.hid hW
  have R0 := Lib.hid r0
  have R1 := Lib.hid r1
  have HL := Lib.hid hL
  have H := Lib.hid h
  have hl' : (l.length : Int) ≤ 1000000 := by omega
  clear h r0 r1 hL
  go_enter Try.func20, Try.ntmps20
  go_wp2_with (refine wpList_vstore (by rfl) _ _ (by rfl) (by rfl) (by rfl) (HW.out ▸ R1.out) Vec.zeros_len ?_)
  rw [← hW]
  clear hW
  have S0 := Lib.hid (R0.out.setElsewhere (c := w.heap.size + 1) (by omega) (vecR Vec.zeros))
  have S1 := Lib.hid (R1.out.set Vec.zeros Vec.zeros_len)
  have SL := Lib.hid (HL.out.set (b := w.heap.size + 1) (Nat.le_succ _) (vecR Vec.zeros)).below
  generalize W.setRow (w.heap.size + 1) (vecR Vec.zeros) = W1 at *
  go_loopw [4] (fun i wr => ∃ k : Nat, k ≤ l.length ∧ i = .int .i64 (k : Int) ∧ VRow wr w.heap.size Vec.zeros ∧ VRow wr (w.heap.size + 1) (Vec.ofl (l.take k)) ∧ Below w.heap.size w wr) (fun i _ => l.length - (intOf i).toNat)
  case atStart => exact ⟨0, Nat.zero_le _, rfl, S0.out, by rw [List.take_zero]; exact S1.out, SL.out⟩
  case round =>
    obtain ⟨k, hk, rfl, h1, h2, h3⟩ := hrel
    by_cases hlt : k < l.length
    · obtain ⟨b, o, cap, e, -, -, hb⟩ := H.out.block (by omega)
      injection e with e1 e2 e3
      subst e1 e3
      clear e2
      obtain ⟨x, hx⟩ : ∃ x, l[k]? = some x := ⟨_, List.getElem?_eq_getElem hlt⟩
      have hk0 : (0 : Int) ≤ (k : Int) := by omega
      have hk1 : (k : Int) < (l.length : Int) := by omega
      have RI := Lib.hid (fun W' => ref_vright W' x)
      have hu : Vec.ofl (l.take (k + 1)) = Vec.up (Vec.ofl (l.take k)) x := Vec.ofl_take l k x hx
      have hp : Vec.Plain (Vec.ofl (l.take k)) := Vec.ofl_plain _
      have V1 : Hid (∀ w', InB wr w' → VRow w' w.heap.size Vec.zeros ∧ VRow w' (w.heap.size + 1) (Vec.ofl (l.take k)) ∧ Below w.heap.size w w') := Lib.hid (fun w' h => ⟨h1.inB h, h2.inB h, h3.trans (h.below.mono h3.size)⟩)
      have XC : Hid (∀ w', InB wr w' → w'.cell? ⟨b, o + k * 2, none⟩ = some (.int .i64 x.by_) ∧ w'.cell? ⟨b, o + k * 2 + 1, none⟩ = some (.int .i64 x.n)) := Lib.hid (fun w' h => Vrs.at (H.out.below (V1.out w' h).2.2) hx)
      by_cases hr : Ver.Right x
      · rw [decide_eq_true hr] at RI
        obtain ⟨j, hj, hj2⟩ : ∃ j : Nat, x.by_ = (j : Int) ∧ 1 ≤ j ∧ j ≤ 64 := by
          unfold Ver.Right at hr
          exact ⟨x.by_.toNat, by omega, by omega⟩
        have hat : (Vec.ofl (l.take k))[j]? = some (Vec.at_ (Vec.ofl (l.take k)) j) := hp.2 j (by omega)
        have had := vec_addr (k := j) (by omega) (w.heap.size + 1)
        have XC : Hid (∀ w', InB wr w' → w'.cell? ⟨b, o + k * 2, none⟩ = some (.int .i64 x.by_) ∧ w'.cell? ⟨b, o + k * 2 + 1, none⟩ = some (.int .i64 x.n) ∧ w'.cell? ⟨w.heap.size + 1, j, none⟩ = some (.int .i64 (Vec.at_ (Vec.ofl (l.take k)) j))) := Lib.hid (fun w' h => ⟨(XC.out w' h).1, (XC.out w' h).2, (V1.out w' h).2.1.at hat⟩)
        have hj0 : (0 : Int) ≤ (j : Int) := by omega
        have hj1 : (j : Int) < 65 := by omega
        by_cases hn : Vec.at_ (Vec.ofl (l.take k)) j < x.n
        · have E : Hid (Vec.ofl (l.take (k + 1)) = (Vec.ofl (l.take k)).set j x.n) := Lib.hid (by rw [hu, Vec.up_yes ⟨hr, by rw [hj, Int.toNat_natCast]; exact hn⟩, hj, Int.toNat_natCast])
          have hd : decide (Vec.at_ (Vec.ofl (l.take k)) j < x.n) = true := decide_eq_true hn
          obtain ⟨x1, x2⟩ := x
          simp only at RI XC hj hn hd E
          subst hj
          generalize Vec.at_ (Vec.ofl (l.take k)) j = n at *
          clear h1 h2 h3 hx hr hp hu hat hj2
          go_wp2_with fail
          refine wp_region_below (by assumption) (by kernel_rfl) ?_
          repeat ((first
            | (refine wq_skip (by rfl) ?_)
            | (refine wq_take (v := ?_) (by kernel_rfl) (by intro w hSw; have hXC := XC.out w hSw; go_simp; first | done | with_reducible rfl) ?_)
            | (refine wq_call (by kernel_rfl) ?hent (fun w hSw => inB_laid hSw (RI.out w)) ?_; (case hent => (intro w hSw; go_simp; done)))); (try simp only [Act.put, List.getElem_toArray, List.getElem_cons_zero, List.getElem_cons_succ, List.setIfInBounds_toArray, List.set_cons_zero, List.set_cons_succ]))
          refine wq_nil ?_
          intro wq hq
          obtain ⟨f1, f2, f3⟩ := V1.out wq hq
          obtain ⟨d0, d1, d2⟩ := XC.out wq hq
          have df := f2.free j
          have F1 := Lib.hid (f1.storedElsewhere (p := ⟨w.heap.size + 1, j, none⟩) (by show w.heap.size + 1 ≠ w.heap.size; omega) (.int .i64 x2))
          have f4 := f2.stored j x2
          rw [← E.out] at f4
          have F2 := Lib.hid f4
          have F3 := Lib.hid (f3.setCell (p := ⟨w.heap.size + 1, j, none⟩) (Nat.le_succ _) (.int .i64 x2))
          clear f1 f2 f3 f4 hq
          go_wp2_with fail
          refine wp_region_tail (n := 10) (S := (fun w' : World => w' = wq.drew)) (by kernel_rfl) (by kernel_rfl) (by rfl) rfl (fun hHeld => ?_)
          refine wpAnyH_take (i := 0) (v := ?_) rfl (by kernel_rfl) (by kernel_rfl) (by kernel_rfl) (fun _ _ _ h => h) (Or.inl ⟨by rfl, (by intro w hSw; subst hSw; go_simp; try with_reducible rfl)⟩) (by assumption) ?_
          simp only [Act.put, List.getElem_toArray, List.getElem_cons_zero, List.getElem_cons_succ, List.setIfInBounds_toArray, List.set_cons_zero, List.set_cons_succ]
          refine wpAnyH_take (i := 1) (v := ?_) rfl (by kernel_rfl) (by kernel_rfl) (by kernel_rfl) (fun _ _ _ h => h) (Or.inl ⟨by rfl, (by intro w hSw; subst hSw; go_simp; try with_reducible rfl)⟩) (by assumption) ?_
          simp only [Act.put, List.getElem_toArray, List.getElem_cons_zero, List.getElem_cons_succ, List.setIfInBounds_toArray, List.set_cons_zero, List.set_cons_succ]
          refine wpAnyH_take (i := 2) (v := ?_) rfl (by kernel_rfl) (by kernel_rfl) (by kernel_rfl) (fun _ _ _ h => h) (Or.inl ⟨by rfl, (by intro w hSw; subst hSw; go_simp; try with_reducible rfl)⟩) (by assumption) ?_
          simp only [Act.put, List.getElem_toArray, List.getElem_cons_zero, List.getElem_cons_succ, List.setIfInBounds_toArray, List.set_cons_zero, List.set_cons_succ]
          refine wpAnyH_take (i := 3) (v := ?_) rfl (by kernel_rfl) (by kernel_rfl) (by kernel_rfl) (fun _ _ _ h => h) (Or.inl ⟨by rfl, (by intro w hSw; subst hSw; go_simp; try with_reducible rfl)⟩) (by assumption) ?_
          simp only [Act.put, List.getElem_toArray, List.getElem_cons_zero, List.getElem_cons_succ, List.setIfInBounds_toArray, List.set_cons_zero, List.set_cons_succ]
          refine wpAnyH_take (i := 4) (v := ?_) rfl (by kernel_rfl) (by kernel_rfl) (by kernel_rfl) (fun _ _ _ h => h) (Or.inl ⟨by rfl, (by intro w hSw; subst hSw; go_simp; try with_reducible rfl)⟩) (by assumption) ?_
          simp only [Act.put, List.getElem_toArray, List.getElem_cons_zero, List.getElem_cons_succ, List.setIfInBounds_toArray, List.set_cons_zero, List.set_cons_succ]
          refine wpAnyH_take (i := 5) (v := ?_) rfl (by kernel_rfl) (by kernel_rfl) (by kernel_rfl) (fun _ _ _ h => h) (Or.inl ⟨by rfl, (by intro w hSw; subst hSw; go_simp; try with_reducible rfl)⟩) (by assumption) ?_
          simp only [Act.put, List.getElem_toArray, List.getElem_cons_zero, List.getElem_cons_succ, List.setIfInBounds_toArray, List.set_cons_zero, List.set_cons_succ]
          refine wpAnyH_take (i := 6) (v := ?_) rfl (by kernel_rfl) (by kernel_rfl) (by kernel_rfl) (fun _ _ _ h => h) (Or.inl ⟨by rfl, (by intro w hSw; subst hSw; go_simp; try with_reducible rfl)⟩) (by assumption) ?_
          simp only [Act.put, List.getElem_toArray, List.getElem_cons_zero, List.getElem_cons_succ, List.setIfInBounds_toArray, List.set_cons_zero, List.set_cons_succ]
          refine wpAnyH_take (i := 7) (v := ?_) rfl (by kernel_rfl) (by kernel_rfl) (by kernel_rfl) (fun _ _ _ h => h) (Or.inl ⟨by rfl, (by intro w hSw; subst hSw; go_simp; try with_reducible rfl)⟩) (by assumption) ?_
          simp only [Act.put, List.getElem_toArray, List.getElem_cons_zero, List.getElem_cons_succ, List.setIfInBounds_toArray, List.set_cons_zero, List.set_cons_succ]
          refine wpAnyH_take (i := 8) (v := ?_) rfl (by kernel_rfl) (by kernel_rfl) (by kernel_rfl) (fun _ _ _ h => h) (Or.inl ⟨by rfl, (by intro w hSw; subst hSw; go_simp; try with_reducible rfl)⟩) (by assumption) ?_
          simp only [Act.put, List.getElem_toArray, List.getElem_cons_zero, List.getElem_cons_succ, List.setIfInBounds_toArray, List.set_cons_zero, List.set_cons_succ]
          refine wpAnyH_take (i := 9) (v := ?_) rfl (by kernel_rfl) (by kernel_rfl) (by kernel_rfl) (fun _ _ _ h => h) (Or.inl ⟨by rfl, (by intro w hSw; subst hSw; go_simp; try with_reducible rfl)⟩) (by assumption) ?_
          simp only [Act.put, List.getElem_toArray, List.getElem_cons_zero, List.getElem_cons_succ, List.setIfInBounds_toArray, List.set_cons_zero, List.set_cons_succ]
          refine wpAnyH_done (by kernel_rfl) ?_ _
          refine wpAny_of_held (S := fun _ => True) _ _ _ _ ?_
          have hHeld : True := trivial
          refine wpAnyH_take (i := 10) (v := ?_) rfl (by kernel_rfl) (by kernel_rfl) (by kernel_rfl) (fun _ _ _ h => h) (Or.inl ⟨by rfl, (by intro w hSw; go_simp; try with_reducible rfl)⟩) (by assumption) ?_
          simp only [Act.put, List.getElem_toArray, List.getElem_cons_zero, List.getElem_cons_succ, List.setIfInBounds_toArray, List.set_cons_zero, List.set_cons_succ]
          refine wpAnyH_ready (rs := [11]) (by kernel_rfl) (by simp) ?_
          refine AllReadyH.cons rfl (fun K hK => ?_) AllReadyH.nil
          go_simp
          refine hK.out _ _ trivial (fun hHeld => ?_)
          clear hK K
          refine wpAnyH_done (by kernel_rfl) ?_ _
          go_wp2_with fail
          exact ⟨⟨k + 1, by omega, rfl, F1.out, F2.out, F3.out.drew⟩, by show l.length - ((k : Int) + 1).toNat < l.length - (k : Int).toNat; omega⟩
        · have E : Hid (Vec.ofl (l.take (k + 1)) = Vec.ofl (l.take k)) := Lib.hid (by rw [hu, Vec.up_no (fun h => hn (by have := h.2; rw [hj, Int.toNat_natCast] at this; exact this))])
          have hd : decide (Vec.at_ (Vec.ofl (l.take k)) j < x.n) = false := decide_eq_false hn
          obtain ⟨x1, x2⟩ := x
          simp only at RI XC hj hn hd E
          subst hj
          generalize Vec.at_ (Vec.ofl (l.take k)) j = n at *
          clear h1 h2 h3 hx hr hp hu hat hj2
          go_wp2_with fail
          refine wp_region_below (by assumption) (by kernel_rfl) ?_
          repeat ((first
            | (refine wq_skip (by rfl) ?_)
            | (refine wq_take (v := ?_) (by kernel_rfl) (by intro w hSw; have hXC := XC.out w hSw; go_simp; first | done | with_reducible rfl) ?_)
            | (refine wq_call (by kernel_rfl) ?hent (fun w hSw => inB_laid hSw (RI.out w)) ?_; (case hent => (intro w hSw; go_simp; done)))); (try simp only [Act.put, List.getElem_toArray, List.getElem_cons_zero, List.getElem_cons_succ, List.setIfInBounds_toArray, List.set_cons_zero, List.set_cons_succ]))
          refine wq_nil ?_
          intro wq hq
          have F := V1.out wq hq
          rw [← E.out] at F
          have F := Lib.hid F
          clear hq
          go_wp2_with fail
          exact ⟨⟨k + 1, by omega, rfl, F.out.1, F.out.2.1, F.out.2.2⟩, by show l.length - ((k : Int) + 1).toNat < l.length - (k : Int).toNat; omega⟩
      · rw [decide_eq_false hr] at RI
        have E : Hid (Vec.ofl (l.take (k + 1)) = Vec.ofl (l.take k)) := Lib.hid (by rw [hu, Vec.up_no (fun h => hr h.1)])
        obtain ⟨x1, x2⟩ := x
        simp only at RI XC E
        clear h1 h2 h3 hx hr hp hu
        go_wp2_with fail
        refine wp_region_below (by assumption) (by kernel_rfl) ?_
        repeat ((first
          | (refine wq_skip (by rfl) ?_)
          | (refine wq_take (v := ?_) (by kernel_rfl) (by intro w hSw; have hXC := XC.out w hSw; go_simp; first | done | with_reducible rfl) ?_)
          | (refine wq_call (by kernel_rfl) ?hent (fun w hSw => inB_laid hSw (RI.out w)) ?_; (case hent => (intro w hSw; go_simp; done)))); (try simp only [Act.put, List.getElem_toArray, List.getElem_cons_zero, List.getElem_cons_succ, List.setIfInBounds_toArray, List.set_cons_zero, List.set_cons_succ]))
        refine wq_nil ?_
        intro wq hq
        have F := V1.out wq hq
        rw [← E.out] at F
        have F := Lib.hid F
        clear hq
        go_wp2_with fail
        exact ⟨⟨k + 1, by omega, rfl, F.out.1, F.out.2.1, F.out.2.2⟩, by show l.length - ((k : Int) + 1).toNat < l.length - (k : Int).toNat; omega⟩
    · obtain rfl : k = l.length := by omega
      rw [List.take_length] at h2
      have H1 := Lib.hid h1
      have H2 := Lib.hid h2
      have H3 := Lib.hid h3
      have Hc : Hid ((Vec.ofl l).length = 65) := Lib.hid (Vec.ofl_plain l).1
      clear h1 h2 h3
      go_wp2_with (first | refine wpList_vload (by rfl) _ (by rfl) (by rfl) H2.out ?_ | refine wpList_vstore (by rfl) _ _ (by rfl) (by rfl) (by rfl) H1.out Hc.out ?_)
      exact bodyPost_ret (v := vecA (Vec.ofl l)) (results_cell_row (by rfl) _ _ w.heap.size 23 _ (0, 0) _ (by rfl) (H1.out.set _ Hc.out).row Try.underlying23 rfl (vecSize Hc.out)) rfl ⟨rfl, below_setRow H3.out (Nat.le_refl _) _⟩
end Go.Proofs.Ytlgaljlbjbfdgaa
