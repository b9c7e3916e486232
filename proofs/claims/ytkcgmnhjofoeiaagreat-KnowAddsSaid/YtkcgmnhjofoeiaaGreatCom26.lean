import Derived.Test.YtkcgmnhjofoeiaaGreatCom24
import Derived.Test.YtkcgmnhjofoeiaaGreatCom25
import Derived.Test.YtkcgmnhjofoeiaaGreatCom9
import Derived.Test.YtkcgmnhjofoeiaaGreatCom17
import Derived.Test.YtkcgmnhjofoeiaaGreatCom5
import Derived.Laws.CopyOwn
import Derived.Deep.QuietTactic
set_option maxRecDepth 100000
set_option linter.all false
set_option maxHeartbeats 12800000
namespace Go.Proofs.YtkcgmnhjofoeiaaGreat
open Go.RowKit Go.Sort
theorem ref_vends (w : World) {v : List Int} (hv : v.length = 65) : Calls Tryz.prog 29 #[vecA v] w fun e w' => ∃ s, e = .returned s ∧ RowsOwn 33 2 verV w (Vec.ends v) s w' := by
 obtain ⟨i0, hi0, hz0, hz1, hz2⟩ := ver_parts verInfo
 have start : ∃ W, W = w.alloc (.cells (vecR v) 28) ∧ VRow W w.heap.size v ∧ Laid w W := ⟨_, rfl, VRow.made w hv, Laid.new w _⟩
 obtain ⟨W, hW, r0, hL⟩ := start
 have R0 := Lib.hid r0
 have HL := Lib.hid hL
 have HV := Lib.hid hv
 clear r0 hL hv
 go_enter Tryz.func29, Tryz.ntmps29
 go_wp2_with fail
 rw [← hW]
 clear hW
 go_loopw [3, 4] (fun sv i wr => ∃ k : Nat, 1 ≤ k ∧ k ≤ 65 ∧ i = .int .i64 (k : Int) ∧ RowsOwn 33 2 verV W (Vec.endsK v k) sv wr) (fun _ i _ => 65 - (intOf i).toNat)
 case atStart => exact ⟨1, Nat.le_refl _, by omega, rfl, by rw [Vec.endsK_one]; exact RowsOwn.first (Below.refl _ _)⟩
 case round =>
  obtain ⟨k, hk1, hk, rfl, hr⟩ := hrel
  by_cases hlt : k < 65
  ·have AT := Lib.hid (fun W' => ref_vat W' (k : Int) HV.out)
   rw [Vec.num_nat v hlt] at AT
   have k1 : (k : Int) ≤ 64 := by omega
   have Hk := Lib.hid hk
   have V0 := Lib.hid (R0.out.below hr.2 R0.out.inHeap)
   have HR := Lib.hid hr
   clear hr
   by_cases hp : 0 < Vec.at_ v k
   ·have HE := Lib.hid (Vec.endsK_more v k hp)
    have Hlen := Lib.hid (Vec.endsK_len v k)
    generalize Vec.at_ v k = n at *
    go_wp2_with (refine wpList_vload (by rfl) _ (by rfl) (by rfl) V0.out ?_)
    refine (AT.out _).mono ?_
    rintro e w1 ⟨rfl, h1⟩
    have V1 := Lib.hid (V0.out.below h1.below V0.out.inHeap)
    have HR1 := Lib.hid (HR.out.below h1.below)
    clear h1
    go_wp2_with (refine wpList_vload (by rfl) _ (by rfl) (by rfl) V1.out ?_)
    refine (AT.out _).mono ?_
    rintro e w2 ⟨rfl, h2⟩
    have HR2 := Lib.hid (HR1.out.below h2.below)
    have hown := HR2.out.1.alloc (.cells #[.int .i64 (k : Int), .int .i64 n] 33)
    have Hmd := Lib.hid (ver_made w2 33 ⟨(k : Int), n⟩)
    have hsz : W.heap.size ≤ w2.heap.size := HR2.out.2.size
    clear h2 hk
    go_wp2_with (at_builtin; refine wp_joins (f := verV) (k := 2) rfl _ _ 29 rfl W.heap.size 33 i0 (.agg #[.int .i64 0, .int .i64 0]) 16 Tryz.underlying29 hi0 hz0 hz1 hz2 rfl (by decide) rfl rfl hown Hmd.out (fun _ _ => rfl) (fun x _ => ver_one x) ?c1 ?c2 ?c3 ?_; (case c1 => (have e1 := Hlen.out; have e2 := Hk.out; rw [show ([(⟨(k : Int), n⟩ : Ver.V)]).length = 1 from rfl]; unfold maxLen; omega)); (case c2 => (have e1 := Hlen.out; have e2 := Hk.out; rw [show ([(⟨(k : Int), n⟩ : Ver.V)]).length = 1 from rfl]; omega)); (case c3 => (simp; omega)); intro v2 w3 own2 hg2 _; have F2 := Lib.hid (HR2.out.more (x := (⟨(k : Int), n⟩ : Ver.V)) (v' := v2) (by simpa [verV] using own2) hg2); clear own2 hg2)
    rw [← HE.out] at F2
    exact ⟨⟨k + 1, by omega, by omega, rfl, F2.out⟩, by show 65 - ((k : Int) + 1).toNat < 65 - (k : Int).toNat; omega⟩
   ·have hp' : Vec.at_ v k ≤ 0 := by omega
    have HE := Lib.hid (Vec.endsK_same v k hp)
    generalize Vec.at_ v k = n at *
    go_wp2_with (refine wpList_vload (by rfl) _ (by rfl) (by rfl) V0.out ?_)
    refine (AT.out _).mono ?_
    rintro e w1 ⟨rfl, h1⟩
    have HR1 := HR.out.below h1.below
    rw [← HE.out] at HR1
    have HR1 := Lib.hid HR1
    clear h1
    go_wp2_with fail
    exact ⟨⟨k + 1, by omega, by omega, rfl, HR1.out⟩, by show 65 - ((k : Int) + 1).toNat < 65 - (k : Int).toNat; omega⟩
  ·obtain rfl : k = 65 := by omega
   have HR := Lib.hid (hr.since HL.out.below)
   clear hr
   go_wp2_with fail
   go_ret
   exact ⟨_, rfl, HR.out⟩
theorem ref_vof {w : World} {F : Nat → Prop} {s : Value} {l : List Ver.V} (h : Vrs w F s l) (hl : l.length ≤ 1000000) : Calls Tryz.prog 10 #[s] w fun e w' => e = .returned (vecA (Vec.ofl l)) ∧ Below w.heap.size w w' := by
 have mixed : Tryz.prog.follows .mixedOrders = true := by kernel_rfl
 have hz := vecZero
 obtain ⟨A, c, rfl, hc⟩ := h.parts
 have start : ∃ W, W = (w.alloc (.cells (vecR Vec.zeros) 28)).alloc (.cells (vecR Vec.zeros) 28) ∧ VRow W w.heap.size Vec.zeros ∧ VRow W (w.heap.size + 1) Vec.zeros ∧ Laid w W := by
  refine ⟨_, rfl, (VRow.made w Vec.zeros_len).alloc _, ?_, (Laid.new w _).alloc _⟩
  have := VRow.made (w.alloc (.cells (vecR Vec.zeros) 28)) (v := Vec.zeros) Vec.zeros_len
  rwa [World.size_alloc] at this
 obtain ⟨W, hW, r0, r1, hL⟩ := start
 have HW := Lib.hid hW
 have R0 := Lib.hid r0
 have R1 := Lib.hid r1
 have HL := Lib.hid hL
 have H := Lib.hid h
 have hl' : (l.length : Int) ≤ 1000000 := by omega
 clear h r0 r1 hL
 go_enter Tryz.func10, Tryz.ntmps10
 go_wp2_with (refine wpList_vstore (by rfl) _ _ (by rfl) (by rfl) (by rfl) (HW.out ▸ R1.out) Vec.zeros_len ?_)
 rw [← hW]
 clear hW
 have S0 := Lib.hid (R0.out.setElsewhere (c := w.heap.size + 1) (by omega) (vecR Vec.zeros))
 have S1 := Lib.hid (R1.out.set Vec.zeros Vec.zeros_len)
 have SL := Lib.hid (HL.out.set (b := w.heap.size + 1) (Nat.le_succ _) (vecR Vec.zeros)).below
 generalize W.setRow (w.heap.size + 1) (vecR Vec.zeros) = W1 at *
 go_loopw [4] (fun i wr => ∃ k : Nat, k ≤ l.length ∧ i = .int .i64 (k : Int) ∧ VRow wr w.heap.size Vec.zeros ∧ VRow wr (w.heap.size + 1) (Vec.ofl (l.take k)) ∧ Below w.heap.size w wr) (fun i _ => l.length - (intOf i).toNat)
 case atStart => exact ⟨0, Nat.zero_le _, rfl, S0.out, by rw [List.take_zero]; exact S1.out, SL.out⟩
 case round =>
  obtain ⟨k, hk, rfl, h1, h2, h3⟩ := hrel
  by_cases hlt : k < l.length
  ·obtain ⟨b, o, cap, e, -, -, hb⟩ := H.out.block (by omega)
   injection e with e1 e2 e3
   subst e1 e3
   clear e2
   obtain ⟨x, hx⟩ : ∃ x, l[k]? = some x := ⟨_, List.getElem?_eq_getElem hlt⟩
   have hk0 : (0 : Int) ≤ (k : Int) := by omega
   have hk1 : (k : Int) < (l.length : Int) := by omega
   have RI := Lib.hid (fun W' => ref_vright W' x)
   have hu : Vec.ofl (l.take (k + 1)) = Vec.up (Vec.ofl (l.take k)) x := Vec.ofl_take l k x hx
   have hp : Vec.Plain (Vec.ofl (l.take k)) := Vec.ofl_plain _
   have V1 : Hid (∀ w', InB wr w' → VRow w' w.heap.size Vec.zeros ∧ VRow w' (w.heap.size + 1) (Vec.ofl (l.take k)) ∧ Below w.heap.size w w') := Lib.hid (fun w' h => ⟨h1.inB h, h2.inB h, h3.trans (h.below.mono h3.size)⟩)
   have XC : Hid (∀ w', InB wr w' → w'.cell? ⟨b, o + k * 2, none⟩ = some (.int .i64 x.by_) ∧ w'.cell? ⟨b, o + k * 2 + 1, none⟩ = some (.int .i64 x.n)) := Lib.hid (fun w' h => Vrs.at (H.out.below (V1.out w' h).2.2) hx)
   by_cases hr : Ver.Right x
   ·rw [decide_eq_true hr] at RI
    obtain ⟨j, hj, hj2⟩ : ∃ j : Nat, x.by_ = (j : Int) ∧ 1 ≤ j ∧ j ≤ 64 := by
     unfold Ver.Right at hr
     exact ⟨x.by_.toNat, by omega, by omega⟩
    have hat : (Vec.ofl (l.take k))[j]? = some (Vec.at_ (Vec.ofl (l.take k)) j) := hp.2 j (by omega)
    have had := vec_addr (k := j) (by omega) (w.heap.size + 1)
    have XC : Hid (∀ w', InB wr w' → w'.cell? ⟨b, o + k * 2, none⟩ = some (.int .i64 x.by_) ∧ w'.cell? ⟨b, o + k * 2 + 1, none⟩ = some (.int .i64 x.n) ∧ w'.cell? ⟨w.heap.size + 1, j, none⟩ = some (.int .i64 (Vec.at_ (Vec.ofl (l.take k)) j))) := Lib.hid (fun w' h => ⟨(XC.out w' h).1, (XC.out w' h).2, (V1.out w' h).2.1.at hat⟩)
    have hj0 : (0 : Int) ≤ (j : Int) := by omega
    have hj1 : (j : Int) < 65 := by omega
    by_cases hn : Vec.at_ (Vec.ofl (l.take k)) j < x.n
    ·have E : Hid (Vec.ofl (l.take (k + 1)) = (Vec.ofl (l.take k)).set j x.n) := Lib.hid (by rw [hu, Vec.up_yes ⟨hr, by rw [hj, Int.toNat_natCast]; exact hn⟩, hj, Int.toNat_natCast])
     have hd : decide (Vec.at_ (Vec.ofl (l.take k)) j < x.n) = true := decide_eq_true hn
     obtain ⟨x1, x2⟩ := x
     simp only at RI XC hj hn hd E
     subst hj
     generalize Vec.at_ (Vec.ofl (l.take k)) j = n at *
     clear h1 h2 h3 hx hr hp hu hat hj2
     go_wp2_with fail
     refine wp_region_below (by assumption) (by kernel_rfl) ?_
     repeat ((first
      | (refine wq_skip (by rfl) ?_)
      | (refine wq_take (v := ?_) (by kernel_rfl) (by intro w hSw; have hXC := XC.out w hSw; go_simp; first | done | with_reducible rfl) ?_)
      | (refine wq_call (by kernel_rfl) ?hent (fun w hSw => inB_laid hSw (RI.out w)) ?_; (case hent => (intro w hSw; go_simp; done)))); (try simp only [zz]))
     refine wq_nil ?_
     intro wq hq
     obtain ⟨f1, f2, f3⟩ := V1.out wq hq
     obtain ⟨d0, d1, d2⟩ := XC.out wq hq
     have df := f2.free j
     have F1 := Lib.hid (f1.storedElsewhere (p := ⟨w.heap.size + 1, j, none⟩) (by show w.heap.size + 1 ≠ w.heap.size; omega) (.int .i64 x2))
     have f4 := f2.stored j x2
     rw [← E.out] at f4
     have F2 := Lib.hid f4
     have F3 := Lib.hid (f3.setCell (p := ⟨w.heap.size + 1, j, none⟩) (Nat.le_succ _) (.int .i64 x2))
     clear f1 f2 f3 f4 hq
     go_wp2_with fail
     refine wp_region_tail (n := 10) (S := (fun w' : World => w' = wq.drew)) (by kernel_rfl) (by kernel_rfl) (by rfl) rfl (fun hHeld => ?_)
     refine wpAnyH_tk (i := 0) (v := ?_) rfl (Or.inl ⟨by rfl, (by intro w hSw; subst hSw; go_simp; try with_reducible rfl)⟩) (by assumption) ?_
     simp only [zz]
     refine wpAnyH_tk (i := 1) (v := ?_) rfl (Or.inl ⟨by rfl, (by intro w hSw; subst hSw; go_simp; try with_reducible rfl)⟩) (by assumption) ?_
     simp only [zz]
     refine wpAnyH_tk (i := 2) (v := ?_) rfl (Or.inl ⟨by rfl, (by intro w hSw; subst hSw; go_simp; try with_reducible rfl)⟩) (by assumption) ?_
     simp only [zz]
     refine wpAnyH_tk (i := 3) (v := ?_) rfl (Or.inl ⟨by rfl, (by intro w hSw; subst hSw; go_simp; try with_reducible rfl)⟩) (by assumption) ?_
     simp only [zz]
     refine wpAnyH_tk (i := 4) (v := ?_) rfl (Or.inl ⟨by rfl, (by intro w hSw; subst hSw; go_simp; try with_reducible rfl)⟩) (by assumption) ?_
     simp only [zz]
     refine wpAnyH_tk (i := 5) (v := ?_) rfl (Or.inl ⟨by rfl, (by intro w hSw; subst hSw; go_simp; try with_reducible rfl)⟩) (by assumption) ?_
     simp only [zz]
     refine wpAnyH_tk (i := 6) (v := ?_) rfl (Or.inl ⟨by rfl, (by intro w hSw; subst hSw; go_simp; try with_reducible rfl)⟩) (by assumption) ?_
     simp only [zz]
     refine wpAnyH_tk (i := 7) (v := ?_) rfl (Or.inl ⟨by rfl, (by intro w hSw; subst hSw; go_simp; try with_reducible rfl)⟩) (by assumption) ?_
     simp only [zz]
     refine wpAnyH_tk (i := 8) (v := ?_) rfl (Or.inl ⟨by rfl, (by intro w hSw; subst hSw; go_simp; try with_reducible rfl)⟩) (by assumption) ?_
     simp only [zz]
     refine wpAnyH_tk (i := 9) (v := ?_) rfl (Or.inl ⟨by rfl, (by intro w hSw; subst hSw; go_simp; try with_reducible rfl)⟩) (by assumption) ?_
     simp only [zz]
     refine wpAnyH_done (by kernel_rfl) ?_ _
     refine wpAny_of_held (S := fun _ => True) _ _ _ _ ?_
     have hHeld : True := trivial
     refine wpAnyH_td (i := 10) rfl ?_
     simp only [zz]
     refine wpAnyH_ready (rs := [11]) (by kernel_rfl) (by simp) ?_
     refine AllReadyH.cons rfl (fun K hK => ?_) AllReadyH.nil
     go_simp
     refine hK.out _ _ trivial (fun hHeld => ?_)
     clear hK K
     refine wpAnyH_done (by kernel_rfl) ?_ _
     go_wp2_with fail
     exact ⟨⟨k + 1, by omega, rfl, F1.out, F2.out, F3.out.drew⟩, by show l.length - ((k : Int) + 1).toNat < l.length - (k : Int).toNat; omega⟩
    ·have E : Hid (Vec.ofl (l.take (k + 1)) = Vec.ofl (l.take k)) := Lib.hid (by rw [hu, Vec.up_no (fun h => hn (by have := h.2; rw [hj, Int.toNat_natCast] at this; exact this))])
     have hd : decide (Vec.at_ (Vec.ofl (l.take k)) j < x.n) = false := decide_eq_false hn
     obtain ⟨x1, x2⟩ := x
     simp only at RI XC hj hn hd E
     subst hj
     generalize Vec.at_ (Vec.ofl (l.take k)) j = n at *
     clear h1 h2 h3 hx hr hp hu hat hj2
     go_wp2_with fail
     refine wp_region_below (by assumption) (by kernel_rfl) ?_
     repeat ((first
      | (refine wq_skip (by rfl) ?_)
      | (refine wq_take (v := ?_) (by kernel_rfl) (by intro w hSw; have hXC := XC.out w hSw; go_simp; first | done | with_reducible rfl) ?_)
      | (refine wq_call (by kernel_rfl) ?hent (fun w hSw => inB_laid hSw (RI.out w)) ?_; (case hent => (intro w hSw; go_simp; done)))); (try simp only [zz]))
     refine wq_nil ?_
     intro wq hq
     have F := V1.out wq hq
     rw [← E.out] at F
     have F := Lib.hid F
     clear hq
     go_wp2_with fail
     exact ⟨⟨k + 1, by omega, rfl, F.out.1, F.out.2.1, F.out.2.2⟩, by show l.length - ((k : Int) + 1).toNat < l.length - (k : Int).toNat; omega⟩
   ·rw [decide_eq_false hr] at RI
    have E : Hid (Vec.ofl (l.take (k + 1)) = Vec.ofl (l.take k)) := Lib.hid (by rw [hu, Vec.up_no (fun h => hr h.1)])
    obtain ⟨x1, x2⟩ := x
    simp only at RI XC E
    clear h1 h2 h3 hx hr hp hu
    go_wp2_with fail
    refine wp_region_below (by assumption) (by kernel_rfl) ?_
    repeat ((first
     | (refine wq_skip (by rfl) ?_)
     | (refine wq_take (v := ?_) (by kernel_rfl) (by intro w hSw; have hXC := XC.out w hSw; go_simp; first | done | with_reducible rfl) ?_)
     | (refine wq_call (by kernel_rfl) ?hent (fun w hSw => inB_laid hSw (RI.out w)) ?_; (case hent => (intro w hSw; go_simp; done)))); (try simp only [zz]))
    refine wq_nil ?_
    intro wq hq
    have F := V1.out wq hq
    rw [← E.out] at F
    have F := Lib.hid F
    clear hq
    go_wp2_with fail
    exact ⟨⟨k + 1, by omega, rfl, F.out.1, F.out.2.1, F.out.2.2⟩, by show l.length - ((k : Int) + 1).toNat < l.length - (k : Int).toNat; omega⟩
  ·obtain rfl : k = l.length := by omega
   rw [List.take_length] at h2
   have H1 := Lib.hid h1
   have H2 := Lib.hid h2
   have H3 := Lib.hid h3
   have Hc : Hid ((Vec.ofl l).length = 65) := Lib.hid (Vec.ofl_plain l).1
   clear h1 h2 h3
   go_wp2_with (first | refine wpList_vload (by rfl) _ (by rfl) (by rfl) H2.out ?_ | refine wpList_vstore (by rfl) _ _ (by rfl) (by rfl) (by rfl) H1.out Hc.out ?_)
   exact bodyPost_ret (v := vecA (Vec.ofl l)) (results_cell_row (by rfl) _ _ w.heap.size 28 _ (0, 0) _ (by rfl) (H1.out.set _ Hc.out).row Tryz.underlying28 rfl (vecSize Hc.out)) rfl ⟨rfl, below_setRow H3.out (Nat.le_refl _) _⟩
open Go.RowKit Go.Sort
theorem ref_vsame {w : World} {F G : Nat → Prop} {u v : Value} {a b : List Ver.V} (ha : Vrs w F u a) (hb : Vrs w G v b) (la : a.length ≤ 1000000) (lb : b.length ≤ 1000000) :
  Calls Tryz.prog 27 #[u, v] w fun e w' => e = .returned (.bool (decide (a = b))) ∧ Below w.heap.size w w' := by
 obtain ⟨A, ca, rfl, hca⟩ := ha.parts
 obtain ⟨B, cb, rfl, hcb⟩ := hb.parts
 have HA := Lib.hid ha
 have HB := Lib.hid hb
 have la' : (a.length : Int) ≤ 1000000 := by omega
 have lb' : (b.length : Int) ≤ 1000000 := by omega
 clear ha hb
 by_cases hlen : a.length = b.length
 ·rw [← hlen]
  rw [← hlen] at HB
  have Hlen := Lib.hid hlen
  clear hlen
  go_enter Tryz.func27, Tryz.ntmps27
  go_wp2_with fail
  go_loopw [5] (fun i wr => ∃ n : Nat, n ≤ a.length ∧ i = .int .i64 (n : Int) ∧ Hid (a.take n = b.take n) ∧ Below w.heap.size w wr) (fun i _ => a.length - (intOf i).toNat)
  case atStart => exact ⟨0, Nat.zero_le _, rfl, Lib.hid (by rw [List.take_zero, List.take_zero]), Below.refl _ _⟩
  case round =>
   obtain ⟨n, hn, rfl, hsame, hbel⟩ := hrel
   by_cases hlt : n < a.length
   ·obtain ⟨b1, o1, cap1, e, -, -, hb1⟩ := HA.out.block (by omega)
    injection e with e1 e2 e3
    subst e1 e3
    obtain ⟨b2, o2, cap2, e, -, -, hb2⟩ := HB.out.block (by have := Hlen.out; omega)
    injection e with e1 e2 e3
    subst e1 e3
    clear e2
    obtain ⟨x, hx⟩ : ∃ x, a[n]? = some x := ⟨_, List.getElem?_eq_getElem hlt⟩
    obtain ⟨y, hy⟩ : ∃ y, b[n]? = some y := ⟨_, List.getElem?_eq_getElem (show n < b.length by have := Hlen.out; omega)⟩
    obtain ⟨c0, c1⟩ := Vrs.at (HA.out.below hbel) hx
    obtain ⟨d0, d1⟩ := Vrs.at (HB.out.below hbel) hy
    have hn0 : (0 : Int) ≤ (n : Int) := by omega
    have hn1 : (n : Int) < (a.length : Int) := by omega
    have Hbel := Lib.hid hbel
    clear hbel
    by_cases hxy : x = y
    ·subst hxy
     have hnext : Hid (a.take (n + 1) = b.take (n + 1)) := Lib.hid (by
      obtain ⟨h1, e1⟩ := List.getElem?_eq_some_iff.1 hx
      obtain ⟨h2, e2⟩ := List.getElem?_eq_some_iff.1 hy
      rw [List.take_succ_eq_append_getElem h1, List.take_succ_eq_append_getElem h2, e1, e2, hsame.out])
     obtain ⟨x1, x2⟩ := x
     simp only at c0 c1 d0 d1
     clear hx hy hsame
     go_wp2_with fail
     go_quiet (fail)
     go_wp2_with fail
     refine ⟨⟨n + 1, by omega, rfl, hnext, Hbel.out.trans ((ver_drews wr nq).mono Hbel.out.size)⟩, ?_⟩
     show a.length - ((n : Int) + 1).toNat < a.length - (n : Int).toNat
     omega
    ·have hne : Hid (¬ a = b) := Lib.hid (fun e => hxy (by rw [e, hy] at hx; injection hx with hx; exact hx.symm))
     obtain ⟨x1, x2⟩ := x
     obtain ⟨y1, y2⟩ := y
     simp only at c0 c1 d0 d1
     have hxy' : x1 = y1 → ¬ x2 = y2 := fun h k => hxy (by rw [h, k])
     clear hx hy hsame hxy
     by_cases h1 : x1 = y1
     ·have h2 := hxy' h1
      subst h1
      clear hxy'
      go_wp2_with fail
      go_quiet (fail)
      go_wp2_with fail
      go_ret
      exact ⟨by rw [decide_eq_false hne.out]; rfl, Hbel.out.trans ((ver_drews wr nq).mono Hbel.out.size)⟩
     ·clear hxy'
      go_wp2_with fail
      go_quiet (fail)
      go_wp2_with fail
      go_ret
      exact ⟨by rw [decide_eq_false hne.out]; rfl, Hbel.out.trans ((ver_drews wr nq).mono Hbel.out.size)⟩
   ·obtain rfl : n = a.length := by omega
    have hab : Hid (a = b) := Lib.hid (by
     have := hsame.out
     rw [List.take_length, Hlen.out, List.take_length] at this
     exact this)
    have Hbel := Lib.hid hbel
    clear hbel hsame
    go_wp2_with fail
    go_ret
    exact ⟨by rw [decide_eq_true hab.out]; rfl, Hbel.out⟩
 ·have hlen' : ¬ ((a.length : Nat) : Int) = ((b.length : Nat) : Int) := by omega
  have hne : Hid (¬ a = b) := Lib.hid (fun e => hlen (by rw [e]))
  clear hlen
  go_enter Tryz.func27, Tryz.ntmps27
  go_wp2_with fail
  go_ret
  exact ⟨by rw [decide_eq_false hne.out]; rfl, Below.refl _ _⟩
open Go.RowKit
theorem ref_fequal {w : World} {F G : Nat → Prop} {u v : Value} {f g : List Flt.Cl} (hf : Cls w F u f) (hg : Cls w G v g) (lf : f.length ≤ 100000000) (lg : g.length ≤ 100000000) :
  Calls Tryz.prog 37 #[u, v] w fun e w' => e = .returned (.bool (decide (f = g))) ∧ Below w.heap.size w w' := by
 obtain ⟨A, ca, rfl, hca⟩ := hf.parts
 obtain ⟨B, cb, rfl, hcb⟩ := hg.parts
 have HF := Lib.hid hf
 have HG := Lib.hid hg
 have la' : (f.length : Int) ≤ 100000000 := by omega
 have lb' : (g.length : Int) ≤ 100000000 := by omega
 clear hf hg
 by_cases hlen : f.length = g.length
 ·rw [← hlen]
  rw [← hlen] at HG
  have Hlen := Lib.hid hlen
  clear hlen
  go_enter Tryz.func37, Tryz.ntmps37
  go_wp2_with fail
  go_loopw [5] (fun i wr => ∃ n : Nat, n ≤ f.length ∧ i = .int .i64 (n : Int) ∧ Hid (f.take n = g.take n) ∧ Below w.heap.size w wr) (fun i _ => f.length - (intOf i).toNat)
  case atStart => exact ⟨0, Nat.zero_le _, rfl, Lib.hid (by rw [List.take_zero, List.take_zero]), Below.refl _ _⟩
  case round =>
   obtain ⟨n, hn, rfl, hsame, hbel⟩ := hrel
   by_cases hlt : n < f.length
   ·obtain ⟨b1, o1, cap1, e, -, -, hb1⟩ := HF.out.block (by omega)
    injection e with e1 e2 e3
    subst e1 e3
    obtain ⟨b2, o2, cap2, e, -, -, hb2⟩ := HG.out.block (by have := Hlen.out; omega)
    injection e with e1 e2 e3
    subst e1 e3
    clear e2
    obtain ⟨x, hx⟩ : ∃ x, f[n]? = some x := ⟨_, List.getElem?_eq_getElem hlt⟩
    obtain ⟨y, hy⟩ : ∃ y, g[n]? = some y := ⟨_, List.getElem?_eq_getElem (show n < g.length by have := Hlen.out; omega)⟩
    obtain ⟨c0, c1, c2⟩ := Cls.at (HF.out.below hbel) hx
    obtain ⟨d0, d1, d2⟩ := Cls.at (HG.out.below hbel) hy
    have hn0 : (0 : Int) ≤ (n : Int) := by omega
    have hn1 : (n : Int) < (f.length : Int) := by omega
    have Hbel := Lib.hid hbel
    clear hbel
    have es := str_same x.pre y.pre
    by_cases hxy : x = y
    ·subst hxy
     have hnext : Hid (f.take (n + 1) = g.take (n + 1)) := Lib.hid (by
      obtain ⟨h1, e1⟩ := List.getElem?_eq_some_iff.1 hx
      obtain ⟨h2, e2⟩ := List.getElem?_eq_some_iff.1 hy
      rw [List.take_succ_eq_append_getElem h1, List.take_succ_eq_append_getElem h2, e1, e2, hsame.out])
     obtain ⟨xp, x1, x2⟩ := x
     rw [decide_eq_true (rfl : xp = xp)] at es
     simp only at c0 c1 c2 d0 d1 d2 es
     clear hx hy hsame
     generalize mk xp = xs at *
     go_wp2_with fail
     go_quiet (fail)
     go_wp2_with fail
     refine ⟨⟨n + 1, by omega, rfl, hnext, Hbel.out.trans ((below_drews' wr nq).mono Hbel.out.size)⟩, ?_⟩
     show f.length - ((n : Int) + 1).toNat < f.length - (n : Int).toNat
     omega
    ·have hne : Hid (¬ f = g) := Lib.hid (fun e => hxy (by rw [e, hy] at hx; injection hx with hx; exact hx.symm))
     obtain ⟨xp, x1, x2⟩ := x
     obtain ⟨yp, y1, y2⟩ := y
     have hxy' : xp = yp → x1 = y1 → ¬ x2 = y2 := fun h k l => hxy (by rw [h, k, l])
     simp only at c0 c1 c2 d0 d1 d2 es
     clear hx hy hsame hxy
     by_cases h0 : xp = yp
     ·have hxy2 := hxy' h0
      subst h0
      rw [decide_eq_true (rfl : xp = xp)] at es
      clear hxy'
      generalize mk xp = xs at *
      by_cases h1 : x1 = y1
      ·have h2 := hxy2 h1
       subst h1
       clear hxy2
       go_wp2_with fail
       go_quiet (fail)
       go_wp2_with fail
       go_ret
       exact ⟨by rw [decide_eq_false hne.out]; rfl, Hbel.out.trans ((below_drews' wr nq).mono Hbel.out.size)⟩
      ·clear hxy2
       go_wp2_with fail
       go_quiet (fail)
       go_wp2_with fail
       go_ret
       exact ⟨by rw [decide_eq_false hne.out]; rfl, Hbel.out.trans ((below_drews' wr nq).mono Hbel.out.size)⟩
     ·rw [decide_eq_false h0] at es
      clear hxy' h0
      generalize mk xp = xs at *
      generalize mk yp = ys at *
      go_wp2_with fail
      go_quiet (fail)
      go_wp2_with fail
      go_ret
      exact ⟨by rw [decide_eq_false hne.out]; rfl, Hbel.out.trans ((below_drews' wr nq).mono Hbel.out.size)⟩
   ·obtain rfl : n = f.length := by omega
    have hab : Hid (f = g) := Lib.hid (by
     have := hsame.out
     rw [List.take_length, Hlen.out, List.take_length] at this
     exact this)
    have Hbel := Lib.hid hbel
    clear hbel hsame
    go_wp2_with fail
    go_ret
    exact ⟨by rw [decide_eq_true hab.out]; rfl, Hbel.out⟩
 ·have hlen' : ¬ ((f.length : Nat) : Int) = ((g.length : Nat) : Int) := by omega
  have hne : Hid (¬ f = g) := Lib.hid (fun e => hlen (by rw [e]))
  clear hlen
  go_enter Tryz.func37, Tryz.ntmps37
  go_wp2_with fail
  go_ret
  exact ⟨by rw [decide_eq_false hne.out]; rfl, Below.refl _ _⟩
open Go.RowKit Go.Sort
structure FrForm (x : Know.Fr) : Prop where
 f : Flt.norm x.f = x.f
 some : x.f ≠ []
 v : Vec.Plain x.v
 has : Vec.ends x.v ≠ []
 no : Ver.sort x.no = x.no
theorem ref_kfrag {w : World} {F : Nat → Prop} {r : RFr} (hr : r.In w F) (br : FrBd r.x) (hx : FrForm r.x) :
  Calls Tryz.prog 25 #[frA r] w fun e w' => e = .returned (.bool true) ∧ Below w.heap.size w w' := by
 obtain ⟨W, hW⟩ : ∃ W, W = w.alloc (.cells (rfV r).toArray 31) := ⟨_, rfl⟩
 have hb : Below w.heap.size w W := by rw [hW]; exact (Below.refl _ _).alloc (Nat.le_refl _) _
 have FB : FrAt W w.heap.size 0 r := by rw [hW]; exact FrAt.made w hr.len _
 have hs : w.heap.size < W.heap.size := by rw [hW]; simp
 obtain ⟨A0, a0, e0, -⟩ := hr.no.parts
 obtain ⟨B0, b0, e2, -⟩ := hr.f.parts
 have XC := Lib.hid (fun (W' : World) (h : Below W.heap.size W W') => (⟨((FB.below h hs).f.trans (congrArg some e2)), ((FB.below h hs).no0.trans (congrArg some e0)), (FB.below h hs).v0⟩ : W'.cell? ⟨w.heap.size, 0, none⟩ = some (.slice B0 r.x.f.length b0) ∧ W'.cell? ⟨w.heap.size, 66, none⟩ = some (.slice A0 r.x.no.length a0) ∧ Lies 28 W' w.heap.size 1 (vecL r.x.v)))
 have HF := Lib.hid (fun (W' : World) (h : Below W.heap.size W W') => (e2 ▸ (Rws.below (Rws.below hr.f hb) h) : Cls W' F (.slice B0 r.x.f.length b0) r.x.f))
 have HV := Lib.hid (fun (W' : World) (h : Below W.heap.size W W') => (e0 ▸ (Rws.below (Rws.below hr.no hb) h) : Vrs W' F (.slice A0 r.x.no.length a0) r.x.no))
 have NO := Lib.hid (fun (W' : World) (h : Below W.heap.size W W') => ref_fnorm (HF.out W' h) br.f br.pre)
 have EQ := Lib.hid (fun (W' : World) (G : Nat → Prop) (u : Value) (h : Below W.heap.size W W') (hu : Cls W' G u r.x.f) => ref_fequal (HF.out W' h) hu (Nat.le_trans br.f (by decide)) (Nat.le_trans br.f (by decide)))
 have PL := Lib.hid (fun (W' : World) => ref_vplain W' hr.len)
 have EN := Lib.hid (fun (W' : World) => ref_vends W' hr.len)
 have OF := Lib.hid (fun (W' : World) (h : Below W.heap.size W W') => ref_iof (HV.out W' h) br.no)
 have SM := Lib.hid (fun (W' : World) (G : Nat → Prop) (u : Value) (h : Below W.heap.size W W') (hu : Vrs W' G u r.x.no) => ref_vsame (HV.out W' h) hu br.no br.no)
 rw [decide_eq_true hx.v] at PL
 rw [hx.f] at NO
 rw [hx.no] at OF
 rw [decide_eq_true rfl] at EQ SM
 have hl0 : decide (0 < r.x.f.length) = true := decide_eq_true (List.length_pos_iff.2 hx.some)
 have hl1 : decide (0 < (Vec.ends r.x.v).length) = true := decide_eq_true (List.length_pos_iff.2 hx.has)
 have HB := Lib.hid hb
 clear hr br hx hb FB hs e0 e2
 go_enter Tryz.func25, Tryz.ntmps25
 go_wp2_with fail
 rw [← hW]
 clear hW
 refine wp_region_held_drew (S := (fun w' : World => Below W.heap.size W w')) (by kernel_rfl) ((Below.refl _ _).drew) (fun hHeld => ?_)
 refine wpAnyH_td (i := 0) rfl ?_
 simp only [zz]
 refine wpAnyH_tk (i := 1) (v := ?_) rfl (Or.inl ⟨by rfl, (by intro w hSw; obtain ⟨d0, d1, -⟩ := XC.out _ hSw; go_simp; try with_reducible rfl)⟩) (by assumption) ?_
 simp only [zz]
 refine wpAnyH_td (i := 2) rfl ?_
 simp only [zz]
 refine wpAnyH_tk (i := 3) (v := ?_) rfl (Or.inl ⟨by rfl, (by intro w hSw; obtain ⟨d0, d1, -⟩ := XC.out _ hSw; go_simp; try with_reducible rfl)⟩) (by assumption) ?_
 simp only [zz]
 refine wpAnyH_ready (rs := [4]) (by kernel_rfl) (by simp) ?_
 refine AllReadyH.cons rfl (fun K hK => ?_) AllReadyH.nil
 go_simp
 go_at_call 56
 refine (NO.out _ hHeld).mono ?_
 rintro e w4 ⟨v4, rfl, h4⟩
 have H4 := Lib.hid h4
 have hhN := hHeld.trans (h4.2.mono hHeld.size)
 clear h4
 refine hK.out _ _ hhN (fun hHeld => ?_)
 clear hhN
 clear hK K
 refine wpAnyH_ready (rs := [5]) (by kernel_rfl) (by simp) ?_
 refine AllReadyH.cons rfl (fun K hK => ?_) AllReadyH.nil
 go_simp
 go_at_call 37
 refine (EQ.out _ _ _ hHeld (H4.out.rows (fun _ _ => rfl))).mono ?_
 rintro e w5 ⟨rfl, hbN⟩
 have hhN := hHeld.trans (hbN.mono hHeld.size)
 clear hbN
 refine hK.out _ _ hhN (fun hHeld => ?_)
 clear hhN
 clear hK K
 refine wpAnyH_td (i := 6) rfl ?_
 simp only [zz]
 refine wpAnyH_td (i := 7) rfl ?_
 simp only [zz]
 refine wpAnyH_tk (i := 8) (v := ?_) rfl (Or.inl ⟨by rfl, (by intro w hSw; obtain ⟨d0, d1, -⟩ := XC.out _ hSw; go_simp; try with_reducible rfl)⟩) (by assumption) ?_
 simp only [zz]
 refine wpAnyH_td (i := 9) rfl ?_
 simp only [zz]
 refine wpAnyH_td (i := 10) rfl ?_
 simp only [zz]
 refine wpAnyH_td (i := 11) rfl ?_
 simp only [zz]
 refine wpAnyH_td (i := 12) rfl ?_
 simp only [zz]
 refine wpAnyH_td (i := 13) rfl ?_
 simp only [zz]
 refine wpAnyH_tk (i := 14) (v := .agg (vecL r.x.v).toArray) rfl (Or.inl ⟨by rfl, (by intro w hSw; exact exec_mload (by rfl) (by rfl) ((XC.out _ hSw).2.2))⟩) (by assumption) ?_
 simp only [zz]
 refine wpAnyH_ready (rs := [15]) (by kernel_rfl) (by simp) ?_
 refine AllReadyH.cons rfl (fun K hK => ?_) AllReadyH.nil
 go_simp
 go_at_call 28
 refine (PL.out _).mono ?_
 rintro e w6 ⟨rfl, hbN⟩
 have hhN := hHeld.trans (hbN.mono hHeld.size)
 clear hbN
 refine hK.out _ _ hhN (fun hHeld => ?_)
 clear hhN
 clear hK K
 refine wpAnyH_td (i := 16) rfl ?_
 simp only [zz]
 refine wpAnyH_td (i := 17) rfl ?_
 simp only [zz]
 refine wpAnyH_td (i := 18) rfl ?_
 simp only [zz]
 refine wpAnyH_tk (i := 19) (v := .agg (vecL r.x.v).toArray) rfl (Or.inl ⟨by rfl, (by intro w hSw; exact exec_mload (by rfl) (by rfl) ((XC.out _ hSw).2.2))⟩) (by assumption) ?_
 simp only [zz]
 refine wpAnyH_ready (rs := [20]) (by kernel_rfl) (by simp) ?_
 refine AllReadyH.cons rfl (fun K hK => ?_) AllReadyH.nil
 go_simp
 go_at_call 29
 refine (EN.out _).mono ?_
 rintro e w7 ⟨v7, rfl, h7⟩
 obtain ⟨A7, c7, e7, -⟩ := (h7.rows (fun _ _ => rfl)).parts
 subst e7
 have hhN := hHeld.trans (h7.2.mono hHeld.size)
 clear h7
 refine hK.out _ _ hhN (fun hHeld => ?_)
 clear hhN
 clear hK K
 refine wpAnyH_td (i := 21) rfl ?_
 simp only [zz]
 refine wpAnyH_td (i := 22) rfl ?_
 simp only [zz]
 refine wpAnyH_td (i := 23) rfl ?_
 simp only [zz]
 refine wpAnyH_td (i := 24) rfl ?_
 simp only [zz]
 refine wpAnyH_td (i := 25) rfl ?_
 simp only [zz]
 refine wpAnyH_tk (i := 26) (v := ?_) rfl (Or.inl ⟨by rfl, (by intro w hSw; obtain ⟨d0, d1, -⟩ := XC.out _ hSw; go_simp; try with_reducible rfl)⟩) (by assumption) ?_
 simp only [zz]
 refine wpAnyH_td (i := 27) rfl ?_
 simp only [zz]
 refine wpAnyH_tk (i := 28) (v := ?_) rfl (Or.inl ⟨by rfl, (by intro w hSw; obtain ⟨d0, d1, -⟩ := XC.out _ hSw; go_simp; try with_reducible rfl)⟩) (by assumption) ?_
 simp only [zz]
 refine wpAnyH_ready (rs := [29]) (by kernel_rfl) (by simp) ?_
 refine AllReadyH.cons rfl (fun K hK => ?_) AllReadyH.nil
 go_simp
 go_at_call 57
 refine (OF.out _ hHeld).mono ?_
 rintro e w8 ⟨v8, rfl, h8⟩
 have H8 := Lib.hid h8
 have hhN := hHeld.trans (h8.2.mono hHeld.size)
 clear h8
 refine hK.out _ _ hhN (fun hHeld => ?_)
 clear hhN
 clear hK K
 refine wpAnyH_ready (rs := [30]) (by kernel_rfl) (by simp) ?_
 refine AllReadyH.cons rfl (fun K hK => ?_) AllReadyH.nil
 go_simp
 go_at_call 27
 refine (SM.out _ _ _ hHeld (H8.out.rows (fun _ _ => rfl))).mono ?_
 rintro e w9 ⟨rfl, hbN⟩
 have hhN := hHeld.trans (hbN.mono hHeld.size)
 clear hbN
 refine hK.out _ _ hhN (fun hHeld => ?_)
 clear hhN
 clear hK K
 refine wpAnyH_td (i := 31) rfl ?_
 simp only [zz]
 refine wpAnyH_td (i := 32) rfl ?_
 simp only [zz]
 refine wpAnyH_done (by kernel_rfl) ?_ _
 have HE := Lib.hid (HB.out.trans (hHeld.mono HB.out.size))
 clear hHeld
 go_wp2_with fail
 go_ret
 exact ⟨rfl, HE.out⟩
end Go.Proofs.YtkcgmnhjofoeiaaGreat
