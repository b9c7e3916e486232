import Derived.Test.YtkacfmaogiblfaaUom8
import Derived.Test.YtkacfmaogiblfaaUom6
import Derived.Test.YtkacfmaogiblfaaUom3
import Derived.Test.YtkacfmaogiblfaaUom4
import Derived.Test.YtkacfmaogiblfaaUom5
set_option maxRecDepth 100000
set_option linter.all false
set_option maxHeartbeats 12800000
namespace Go.Proofs.Ytkacfmaogiblfaa
open Go.RowKit Go.Sort
theorem pck_nnbd {v : Ver.V} (h : Pck.NnV v) : Ver.Bd v := ⟨⟨by have := h.1.1; omega, h.1.2⟩, ⟨by have := h.2.1; omega, h.2.2⟩⟩
theorem pck_fold_bd : ∀ (l : List Ver.V) (v : List Int), (∀ x ∈ l, Ver.Bd x) → (∀ n ∈ v, Ver.I64 n) → ∀ n ∈ l.foldl Vec.up v, Ver.I64 n
 | [], v, _, hv => hv
 | x :: l, v, hl, hv => by
  refine pck_fold_bd l (Vec.up v x) (fun y hy => hl y (List.mem_cons_of_mem _ hy)) ?_
  intro n hn
  unfold Vec.up at hn
  split at hn
  ·rcases List.mem_or_eq_of_mem_set hn with h | h
   ·exact hv n h
   ·rw [h]; exact (hl x (by simp)).2
  ·exact hv n hn
theorem pck_rdVec_bd (l : List UInt8) (e : Int) : ∀ n ∈ (Pck.rdVec l e).1, Ver.I64 n :=
 pck_fold_bd _ _ (fun x hx => pck_nnbd (Pck.rdVers_nn l e x hx)) (fun n hn => by rw [(List.mem_replicate.1 hn).2]; exact ⟨by decide, by decide⟩)
theorem pck_vec (V : VecOk) {w : World} {b : Nat} {l : List UInt8} {e : Int} (h : RdL w b l e) (hm : l.length ≤ 100000) :
  Calls Try.prog 58 #[.pointer (some ⟨b, 0, none⟩)] w fun ed w' => ed = .returned (vecA (Pck.rdVec l e).1) ∧ RdL w' b (Pck.rdVec l e).2.1 (Pck.rdVec l e).2.2 ∧ w.grownBy w' (some b) := by
 have hz := vecZero
 have hbw := Lib.hid (Row.inHeap h)
 have Q2 := Lib.hid (VRow.made w Vec.zeros_len)
 have D0 : Hid (RdL (w.alloc (.cells (vecR Vec.zeros) 46)) b l e) := Lib.hid (Row.behindNew h _)
 have G0 := Lib.hid (gb_new (gb_refl w (some b)) (.cells (vecR Vec.zeros) 46))
 have LI := Lib.hid (fun W => pck_rlist_ver W)
 have LL := Lib.hid (fun (W : World) (c2 : Nat) (h1 : RdL W b l e) (h2 : W.cell? ⟨c2, 0, none⟩ = _) (h3 : c2 ≠ b) => pck_list_ver h1 h2 h3 hm)
 have HO : Hid (∀ (W : World) (F : Nat → Prop) (v : Value), Vrs W F v (Pck.rdVers l e).1 → _) := Lib.hid (fun W F v h1 => V.ofl h1 (by have := Pck.rdVers_len l e; omega) (fun x hx => pck_nnbd (Pck.rdVers_nn l e x hx)))
 have HX := Lib.hid (Pck.rdVec_plain l e).1
 rw [show Pck.list Pck.rdVer l e = Pck.rdVers l e from rfl] at LL
 have hR : Pck.rdVec l e = (Vec.ofl (Pck.rdVers l e).1, (Pck.rdVers l e).2) := rfl
 rw [hR] at HX ⊢
 clear h hm hR
 generalize Pck.rdVers l e = rr at *
 obtain ⟨xs, l1, e1⟩ := rr
 dsimp only at LL HO HX ⊢
 generalize Vec.ofl xs = X at *
 go_enter Try.func58, Try.ntmps58
 go_wp2_with fail
 refine (LI.out _).mono ?_
 rintro ed w1 ⟨c2, rfl, h1, b1⟩
 have hne : c2 ≠ b := fun e => by
  have h2 := Row.below D0.out b1 (Row.inHeap D0.out)
  rw [e] at h1
  have h3 : (Obj.cells #[.func (.func 61) #[] #[]] 101 (0, 0)) = Obj.cells #[.string ⟨l.toArray⟩, .int .i64 _] 150 (0, 0) := Option.some.inj ((show w1.heap[b]? = _ from h1).symm.trans (show w1.heap[b]? = _ from h2))
  injection h3 with _ h4
  exact absurd h4 (by decide)
 have HN := Lib.hid hne
 have C1 := Lib.hid h1
 have D1 : Hid (RdL w1 b l e) := Lib.hid (Row.below D0.out b1 (Row.inHeap D0.out))
 have Q3 := Lib.hid (Q2.out.below b1 Q2.out.inHeap)
 have G1 := Lib.hid (gb_trans G0.out (gb_below b1 _))
 clear h1 b1 hne
 go_wp2_with fail
 refine (LL.out _ _ D1.out (C1.out.at 0) HN.out).mono ?_
 rintro ed w2 ⟨v, rfl, h2, h3, g2⟩
 have U2 := Lib.hid h2
 have D2 := Lib.hid h3
 have Q4 : Hid (VRow w2 w.heap.size Vec.zeros) := Lib.hid ⟨Q3.out.1.grown g2 (fun e => by have := hbw.out; injection e with e; omega), Vec.zeros_len⟩
 have G2 := Lib.hid (gb_trans G1.out g2)
 clear h2 h3 g2
 go_wp2_with fail
 refine (HO.out _ _ _ U2.out).mono ?_
 rintro ed w3 ⟨rfl, h4⟩
 have Q5 := Lib.hid (Q4.out.below h4.below Q4.out.inHeap)
 have D3 : Hid (RdL w3 b l1 e1) := Lib.hid (Row.below D2.out h4.below (Row.inHeap D2.out))
 have G3 := Lib.hid (gb_trans G2.out (gb_below h4.below _))
 have R9 := Lib.hid (Q5.out.set X HX.out)
 have D9 : Hid (RdL (w3.setRow w.heap.size (vecR X)) b l1 e1) := Lib.hid (Row.kept D3.out (Kept.setRowK _ _ _) (fun e => by have := hbw.out; omega))
 have G9 := Lib.hid (gb_kept G3.out (Kept.setRowK _ w.heap.size (vecR X)) (fun i e => by omega))
 clear h4
 go_wp2_with (refine wpList_vstore (by rfl) (.tmp 2) (.tmp 6) (by rfl) (by rfl) (by rfl) Q5.out HX.out ?_)
 exact bodyPost_ret (v := vecA X) (results_cell_row (by rfl) _ _ w.heap.size 46 _ (0, 0) _ (by rfl) R9.out.1 Try.underlying46 rfl (vecSize HX.out)) rfl ⟨rfl, D9.out, G9.out⟩
theorem pck_vec_le (s : List UInt8) : ∀ n ∈ (Pck.rdVec s 0).1, n ≤ 9223372036854775807 := fun n hn => (pck_rdVec_bd s 0 n hn).2
theorem pck_getVec_len (s : List UInt8) : (Pck.getVec s).1.length = 65 := by
 unfold Pck.getVec Pck.getOf
 split
 ·exact Vec.zeros_len
 ·split
  ·exact (Pck.rdVec_plain s 0).1
  ·exact Vec.zeros_len
theorem pck_PutVec (V : VecOk) {v : List Int} (hv : v.length = 65) (hb : ∀ n ∈ v, n ≤ 9223372036854775807) (w : World) :
  Calls Try.prog 17 #[vecA v] w fun e w' => e = .returned (.tuple #[.string (mk (Pck.putVec v).1), .int .i64 (Pck.putVec v).2]) ∧ Below w.heap.size w w' := by
 have CK := Lib.hid (fun W => pck_validVec V hv W)
 have PP := Lib.hid (fun W => pck_put_vec V hv hb W)
 rw [show Pck.putOf (Pck.OkVec v) (Pck.vec v) = Pck.putVec v from rfl] at PP
 have HR : Hid ((Pck.putVec v) = _) := Lib.hid rfl
 generalize hres : (Pck.putVec v) = res at *
 clear HR hres
 generalize decide (Pck.OkVec v) = t at *
 obtain ⟨rb, re⟩ := res
 dsimp only at *
 generalize mk rb = B at *
 have RB := Lib.hid (VRow.made w hv)
 clear hv hb V
 have G0 : Hid (Below w.heap.size w (w.alloc (.cells (vecR v) 46))) := Lib.hid ((Below.refl _ _).alloc (Nat.le_refl _) _)
 go_enter Try.func17, Try.ntmps17
 go_wp2_with fail
 refine wp_region_held_drew (S := (Below (w.alloc (.cells (vecR v) 46)).heap.size (w.alloc (.cells (vecR v) 46)))) (by kernel_rfl) (Below.drew (Below.refl _ _)) (fun hHeld => ?_)
 refine wpAnyH_tk (i := 0) (v := vecA v) rfl (Or.inl ⟨by rfl, (by intro w hSw; exact exec_vload (by rfl) (by rfl) (RB.out.below hSw RB.out.inHeap))⟩) (by assumption) ?_
 simp only [zz]
 refine wpAnyH_tk (i := 1) (v := vecA v) rfl (Or.inl ⟨by rfl, (by intro w hSw; exact exec_vload (by rfl) (by rfl) (RB.out.below hSw RB.out.inHeap))⟩) (by assumption) ?_
 simp only [zz]
 refine wpAnyH_ready (rs := [2]) (by kernel_rfl) (by simp) ?_
 refine AllReadyH.cons rfl (fun K hK => ?_) AllReadyH.nil
 go_simp
 go_at_call 49
 refine (CK.out _).mono ?_
 rintro e w1 ⟨rfl, hb⟩
 have B1 := Lib.hid (hHeld.trans (hb.mono hHeld.size))
 refine hK.out _ _ B1.out (fun hHeld => ?_)
 clear hb
 clear hK K
 refine wpAnyH_ready (rs := [3]) (by kernel_rfl) (by simp) ?_
 refine AllReadyH.cons rfl (fun K hK => ?_) AllReadyH.nil
 go_simp
 go_at_call 48
 refine (PP.out _).mono ?_
 rintro e w2 ⟨rfl, hb⟩
 have B2 := Lib.hid (hHeld.trans (hb.mono hHeld.size))
 refine hK.out _ _ B2.out (fun hHeld => ?_)
 clear hb
 clear hK K
 refine wpAnyH_td (i := 4) rfl ?_
 simp only [zz]
 refine wpAnyH_td (i := 5) rfl ?_
 simp only [zz]
 refine wpAnyH_td (i := 6) rfl ?_
 simp only [zz]
 refine wpAnyH_td (i := 7) rfl ?_
 simp only [zz]
 refine wpAnyH_done (by kernel_rfl) ?_ _
 go_wp2_with fail
 go_ret2
 exact ⟨rfl, G0.out.trans (B2.out.mono G0.out.size)⟩
theorem pck_get_vec (V : VecOk) (s : List UInt8) (hs : s.length ≤ 140737488355328) (w : World) :
  Calls Try.prog 57 #[.string (mk s), .func (.func 58) #[] #[], .func (.func 17) #[] #[]] w fun e w' => e = .returned (.tuple #[vecA (Pck.getVec s).1, .int .i64 (Pck.getVec s).2]) ∧ Below w.heap.size w w' := by
 have hz := vecZero
 have Q6 : Hid (VRow ((w.alloc (.cells (vecR Vec.zeros) 46)).alloc (.cells (vecR Vec.zeros) 46)) w.heap.size Vec.zeros) := Lib.hid ((VRow.made w Vec.zeros_len).alloc _)
 have Q8 : Hid (VRow ((w.alloc (.cells (vecR Vec.zeros) 46)).alloc (.cells (vecR Vec.zeros) 46)) (w.heap.size + 1) Vec.zeros) := Lib.hid (by have := VRow.made (w.alloc (.cells (vecR Vec.zeros) 46)) Vec.zeros_len; rwa [World.size_alloc] at this)
 have G0 : Hid (Below w.heap.size w ((w.alloc (.cells (vecR Vec.zeros) 46)).alloc (.cells (vecR Vec.zeros) 46))) := Lib.hid (((Below.refl _ _).alloc (Nat.le_refl _) _).alloc (by simp) _)
 by_cases hbig : 65536 < s.length
 ·have hE : Pck.getVec s = (Vec.zeros, 6) := if_pos hbig
  have hsz : decide ((65536 : Int) < ((mk s).size : Int)) = true := decide_eq_true (by rw [mk_len]; omega)
  rw [hE]
  clear hE hbig hs
  generalize mk s = S at *
  have R9 := Lib.hid (Q6.out.set Vec.zeros Vec.zeros_len)
  have B9 := Lib.hid (below_kept G0.out (Kept.setRowK _ w.heap.size (vecR Vec.zeros)) (fun i e => by omega))
  go_enter Try.func57, Try.ntmps57
  go_wp2_with (first | (refine wpList_vload (by rfl) (.tmp 8) (by rfl) (by rfl) Q8.out ?_) | (refine wpList_vstore (by rfl) (.tmp 6) (.tmp 15) (by rfl) (by rfl) (by rfl) Q6.out Vec.zeros_len ?_))
  refine bodyPost_ret (v := .tuple #[vecA Vec.zeros, .int .i64 6]) ?_ rfl ⟨rfl, B9.out⟩
  rw [results_cell_tmp (by rfl)]
  have hl := run_loadVar_row (P := Try.prog) _ w.heap.size 46 46 _ (0, 0) _ (R9.out).1 Try.underlying46 rfl (vecSize (R9.out).2)
  simp [asAddr, hl, Result.andThen]
 ·have hsz : decide ((65536 : Int) < ((mk s).size : Int)) = false := decide_eq_false (by rw [mk_len]; omega)
  have hsl : s.length ≤ 65536 := by omega
  have OV := Lib.hid (fun W => pck_over s W)
  have RD := Lib.hid (fun (W : World) (p : Nat) (h : RdL W p s 0) => pck_vec V h (by omega))
  have PW := Lib.hid (fun W => pck_PutVec V (Pck.rdVec_plain s 0).1 (pck_vec_le s) W)
  have HX := Lib.hid (Pck.rdVec_plain s 0).1
  have hG : Pck.getVec s = if (Pck.putVec (Pck.rdVec s 0).1).2 = 0 ∧ (Pck.putVec (Pck.rdVec s 0).1).1 = s then ((Pck.rdVec s 0).1, 0) else (Vec.zeros, 6) := if_neg hbig
  generalize Pck.putVec (Pck.rdVec s 0).1 = pp at *
  generalize Pck.rdVec s 0 = rr at *
  obtain ⟨X, lr, er⟩ := rr
  obtain ⟨ab, r⟩ := pp
  dsimp only at hG RD PW HX
  have hS : (((mk ab).toList == (mk s).toList) = decide (ab = s)) := by
   rw [Lib.toList_data, Lib.toList_data, mk_data, mk_data]
   rw [Bool.eq_iff_iff, beq_iff_eq, decide_eq_true_iff]
  have hS2 : (((mk ab).toList != (mk s).toList) = !decide (ab = s)) := by
   unfold bne
   rw [hS]
  by_cases hr0 : r = 0
  ·by_cases hab : ab = s
   ·rw [if_pos ⟨hr0, hab⟩] at hG
    rw [hG]
    rw [decide_eq_true hab] at hS hS2
    have hrr : (r != 0) = false := by rw [hr0]; rfl
    clear hG hr0 hab hbig hs hsl
    rw [Bool.not_true] at hS2
    generalize mk ab = AB at *
    generalize mk s = S at *
    go_enter Try.func57, Try.ntmps57
    go_wp2_with fail
    refine (OV.out _).mono ?_
    rintro e w1 ⟨p, rfl, h1, hp, b1⟩
    have HP : Hid (w.heap.size + 1 + 1 ≤ p) := Lib.hid (by simpa using hp)
    have A6 := Lib.hid (Q6.out.below b1 Q6.out.inHeap)
    have A8 := Lib.hid (Q8.out.below b1 Q8.out.inHeap)
    have D1 := Lib.hid h1
    have B1 := Lib.hid (G0.out.trans (b1.mono G0.out.size))
    clear h1 b1 hp
    go_wp2_with fail
    refine (RD.out _ _ D1.out).mono ?_
    rintro e w2 ⟨rfl, h2, g2⟩
    have C6 : Hid (VRow w2 w.heap.size Vec.zeros) := Lib.hid ⟨A6.out.1.grown g2 (fun e => by have := HP.out; injection e with e; omega), Vec.zeros_len⟩
    have C8 : Hid (VRow w2 (w.heap.size + 1) Vec.zeros) := Lib.hid ⟨A8.out.1.grown g2 (fun e => by have := HP.out; injection e with e; omega), Vec.zeros_len⟩
    have B2 := Lib.hid (gb_out B1.out g2 (by have := HP.out; omega))
    have hs2 : w.heap.size + 1 < w2.heap.size := C8.out.inHeap
    have HS2 := Lib.hid hs2
    clear h2 g2 hs2
    have RZ := Lib.hid (VRow.made w2 Vec.zeros_len)
    have RX := Lib.hid (RZ.out.set X HX.out)
    have E6 := Lib.hid ((C6.out.alloc (.cells (vecR Vec.zeros) 46)).setElsewhere (c := w2.heap.size) (by have := HS2.out; omega) (vecR X))
    have E8 := Lib.hid ((C8.out.alloc (.cells (vecR Vec.zeros) 46)).setElsewhere (c := w2.heap.size) (by have := HS2.out; omega) (vecR X))
    have B3 : Hid (Below w.heap.size w ((w2.alloc (.cells (vecR Vec.zeros) 46)).setRow w2.heap.size (vecR X))) := Lib.hid (below_kept (B2.out.alloc B2.out.size _) (Kept.setRowK _ _ _) (fun i e => by have := HS2.out; omega))
    go_wp2_with (first | (refine wpList_vstore (by rfl) (.tmp 9) (.tmp 19) (by rfl) (by rfl) (by rfl) RZ.out HX.out ?_) | (refine wpList_vload (by rfl) (.tmp 9) (by rfl) (by rfl) RX.out ?_))
    refine (PW.out _).mono ?_
    rintro e w3 ⟨rfl, b3⟩
    have F6 := Lib.hid (E6.out.below b3 E6.out.inHeap)
    have F8 := Lib.hid (E8.out.below b3 E8.out.inHeap)
    have FX := Lib.hid (RX.out.below b3 RX.out.inHeap)
    have B4 := Lib.hid (B3.out.trans (b3.mono B3.out.size))
    clear b3
    have R9 := Lib.hid (F6.out.set X HX.out)
    have B9 := Lib.hid (below_kept B4.out (Kept.setRowK _ w.heap.size (vecR X)) (fun i e => by omega))
    go_wp2_with (first | (refine wpList_vload (by rfl) (.tmp 9) (by rfl) (by rfl) FX.out ?_) | (refine wpList_vstore (by rfl) (.tmp 6) (.tmp 34) (by rfl) (by rfl) (by rfl) F6.out HX.out ?_))
    refine bodyPost_ret (v := .tuple #[vecA X, .int .i64 0]) ?_ rfl ⟨rfl, B9.out⟩
    rw [results_cell_tmp (by rfl)]
    have hl := run_loadVar_row (P := Try.prog) _ w.heap.size 46 46 _ (0, 0) _ (R9.out).1 Try.underlying46 rfl (vecSize (R9.out).2)
    simp [asAddr, hl, Result.andThen]
   ·rw [if_neg (fun h => hab h.2)] at hG
    rw [hG]
    rw [decide_eq_false hab] at hS hS2
    have hrr : (r != 0) = false := by rw [hr0]; rfl
    clear hG hr0 hab hbig hs hsl
    rw [Bool.not_false] at hS2
    generalize mk ab = AB at *
    generalize mk s = S at *
    go_enter Try.func57, Try.ntmps57
    go_wp2_with fail
    refine (OV.out _).mono ?_
    rintro e w1 ⟨p, rfl, h1, hp, b1⟩
    have HP : Hid (w.heap.size + 1 + 1 ≤ p) := Lib.hid (by simpa using hp)
    have A6 := Lib.hid (Q6.out.below b1 Q6.out.inHeap)
    have A8 := Lib.hid (Q8.out.below b1 Q8.out.inHeap)
    have D1 := Lib.hid h1
    have B1 := Lib.hid (G0.out.trans (b1.mono G0.out.size))
    clear h1 b1 hp
    go_wp2_with fail
    refine (RD.out _ _ D1.out).mono ?_
    rintro e w2 ⟨rfl, h2, g2⟩
    have C6 : Hid (VRow w2 w.heap.size Vec.zeros) := Lib.hid ⟨A6.out.1.grown g2 (fun e => by have := HP.out; injection e with e; omega), Vec.zeros_len⟩
    have C8 : Hid (VRow w2 (w.heap.size + 1) Vec.zeros) := Lib.hid ⟨A8.out.1.grown g2 (fun e => by have := HP.out; injection e with e; omega), Vec.zeros_len⟩
    have B2 := Lib.hid (gb_out B1.out g2 (by have := HP.out; omega))
    have hs2 : w.heap.size + 1 < w2.heap.size := C8.out.inHeap
    have HS2 := Lib.hid hs2
    clear h2 g2 hs2
    have RZ := Lib.hid (VRow.made w2 Vec.zeros_len)
    have RX := Lib.hid (RZ.out.set X HX.out)
    have E6 := Lib.hid ((C6.out.alloc (.cells (vecR Vec.zeros) 46)).setElsewhere (c := w2.heap.size) (by have := HS2.out; omega) (vecR X))
    have E8 := Lib.hid ((C8.out.alloc (.cells (vecR Vec.zeros) 46)).setElsewhere (c := w2.heap.size) (by have := HS2.out; omega) (vecR X))
    have B3 : Hid (Below w.heap.size w ((w2.alloc (.cells (vecR Vec.zeros) 46)).setRow w2.heap.size (vecR X))) := Lib.hid (below_kept (B2.out.alloc B2.out.size _) (Kept.setRowK _ _ _) (fun i e => by have := HS2.out; omega))
    go_wp2_with (first | (refine wpList_vstore (by rfl) (.tmp 9) (.tmp 19) (by rfl) (by rfl) (by rfl) RZ.out HX.out ?_) | (refine wpList_vload (by rfl) (.tmp 9) (by rfl) (by rfl) RX.out ?_))
    refine (PW.out _).mono ?_
    rintro e w3 ⟨rfl, b3⟩
    have F6 := Lib.hid (E6.out.below b3 E6.out.inHeap)
    have F8 := Lib.hid (E8.out.below b3 E8.out.inHeap)
    have FX := Lib.hid (RX.out.below b3 RX.out.inHeap)
    have B4 := Lib.hid (B3.out.trans (b3.mono B3.out.size))
    clear b3
    have R9 := Lib.hid (F6.out.set Vec.zeros Vec.zeros_len)
    have B9 := Lib.hid (below_kept B4.out (Kept.setRowK _ w.heap.size (vecR Vec.zeros)) (fun i e => by omega))
    go_wp2_with (first | (refine wpList_vload (by rfl) (.tmp 8) (by rfl) (by rfl) F8.out ?_) | (refine wpList_vstore (by rfl) (.tmp 6) (.tmp 33) (by rfl) (by rfl) (by rfl) F6.out Vec.zeros_len ?_))
    refine bodyPost_ret (v := .tuple #[vecA Vec.zeros, .int .i64 6]) ?_ rfl ⟨rfl, B9.out⟩
    rw [results_cell_tmp (by rfl)]
    have hl := run_loadVar_row (P := Try.prog) _ w.heap.size 46 46 _ (0, 0) _ (R9.out).1 Try.underlying46 rfl (vecSize (R9.out).2)
    simp [asAddr, hl, Result.andThen]
  ·rw [if_neg (fun h => hr0 h.1)] at hG
   rw [hG]
   have hrr : (r != 0) = true := by simpa using hr0
   clear hG hr0 hbig hs hsl hS hS2
   generalize mk ab = AB at *
   generalize mk s = S at *
   go_enter Try.func57, Try.ntmps57
   go_wp2_with fail
   refine (OV.out _).mono ?_
   rintro e w1 ⟨p, rfl, h1, hp, b1⟩
   have HP : Hid (w.heap.size + 1 + 1 ≤ p) := Lib.hid (by simpa using hp)
   have A6 := Lib.hid (Q6.out.below b1 Q6.out.inHeap)
   have A8 := Lib.hid (Q8.out.below b1 Q8.out.inHeap)
   have D1 := Lib.hid h1
   have B1 := Lib.hid (G0.out.trans (b1.mono G0.out.size))
   clear h1 b1 hp
   go_wp2_with fail
   refine (RD.out _ _ D1.out).mono ?_
   rintro e w2 ⟨rfl, h2, g2⟩
   have C6 : Hid (VRow w2 w.heap.size Vec.zeros) := Lib.hid ⟨A6.out.1.grown g2 (fun e => by have := HP.out; injection e with e; omega), Vec.zeros_len⟩
   have C8 : Hid (VRow w2 (w.heap.size + 1) Vec.zeros) := Lib.hid ⟨A8.out.1.grown g2 (fun e => by have := HP.out; injection e with e; omega), Vec.zeros_len⟩
   have B2 := Lib.hid (gb_out B1.out g2 (by have := HP.out; omega))
   have hs2 : w.heap.size + 1 < w2.heap.size := C8.out.inHeap
   have HS2 := Lib.hid hs2
   clear h2 g2 hs2
   have RZ := Lib.hid (VRow.made w2 Vec.zeros_len)
   have RX := Lib.hid (RZ.out.set X HX.out)
   have E6 := Lib.hid ((C6.out.alloc (.cells (vecR Vec.zeros) 46)).setElsewhere (c := w2.heap.size) (by have := HS2.out; omega) (vecR X))
   have E8 := Lib.hid ((C8.out.alloc (.cells (vecR Vec.zeros) 46)).setElsewhere (c := w2.heap.size) (by have := HS2.out; omega) (vecR X))
   have B3 : Hid (Below w.heap.size w ((w2.alloc (.cells (vecR Vec.zeros) 46)).setRow w2.heap.size (vecR X))) := Lib.hid (below_kept (B2.out.alloc B2.out.size _) (Kept.setRowK _ _ _) (fun i e => by have := HS2.out; omega))
   go_wp2_with (first | (refine wpList_vstore (by rfl) (.tmp 9) (.tmp 19) (by rfl) (by rfl) (by rfl) RZ.out HX.out ?_) | (refine wpList_vload (by rfl) (.tmp 9) (by rfl) (by rfl) RX.out ?_))
   refine (PW.out _).mono ?_
   rintro e w3 ⟨rfl, b3⟩
   have F6 := Lib.hid (E6.out.below b3 E6.out.inHeap)
   have F8 := Lib.hid (E8.out.below b3 E8.out.inHeap)
   have FX := Lib.hid (RX.out.below b3 RX.out.inHeap)
   have B4 := Lib.hid (B3.out.trans (b3.mono B3.out.size))
   clear b3
   have R9 := Lib.hid (F6.out.set Vec.zeros Vec.zeros_len)
   have B9 := Lib.hid (below_kept B4.out (Kept.setRowK _ w.heap.size (vecR Vec.zeros)) (fun i e => by omega))
   go_wp2_with (first | (refine wpList_vload (by rfl) (.tmp 8) (by rfl) (by rfl) F8.out ?_) | (refine wpList_vstore (by rfl) (.tmp 6) (.tmp 33) (by rfl) (by rfl) (by rfl) F6.out Vec.zeros_len ?_))
   refine bodyPost_ret (v := .tuple #[vecA Vec.zeros, .int .i64 6]) ?_ rfl ⟨rfl, B9.out⟩
   rw [results_cell_tmp (by rfl)]
   have hl := run_loadVar_row (P := Try.prog) _ w.heap.size 46 46 _ (0, 0) _ (R9.out).1 Try.underlying46 rfl (vecSize (R9.out).2)
   simp [asAddr, hl, Result.andThen]
theorem pck_GetVec (V : VecOk) (s : List UInt8) (hs : s.length ≤ 140737488355328) (w : World) :
  Calls Try.prog 23 #[.string (mk s)] w fun e w' => e = .returned (.tuple #[vecA (Pck.getVec s).1, .int .i64 (Pck.getVec s).2]) ∧ Below w.heap.size w w' := by
 have hz := vecZero
 have Q6 := Lib.hid (VRow.made w Vec.zeros_len)
 have G0 : Hid (Below w.heap.size w (w.alloc (.cells (vecR Vec.zeros) 46))) := Lib.hid ((Below.refl _ _).alloc (Nat.le_refl _) _)
 have GT := Lib.hid (fun W => pck_get_vec V s hs W)
 have HX := Lib.hid (pck_getVec_len s)
 generalize Pck.getVec s = g at *
 obtain ⟨X, r⟩ := g
 clear hs
 generalize mk s = S at *
 dsimp only at GT HX ⊢
 go_enter Try.func23, Try.ntmps23
 go_wp2_with fail
 refine (GT.out _).mono ?_
 rintro e w1 ⟨rfl, b1⟩
 have A6 := Lib.hid (Q6.out.below b1 Q6.out.inHeap)
 have B1 := Lib.hid (G0.out.trans (b1.mono G0.out.size))
 have R9 := Lib.hid (A6.out.set X HX.out)
 have B9 := Lib.hid (below_kept B1.out (Kept.setRowK _ w.heap.size (vecR X)) (fun i e => by omega))
 clear b1
 go_wp2_with (refine wpList_vstore (by rfl) (.tmp 2) (.tmp 6) (by rfl) (by rfl) (by rfl) A6.out HX.out ?_)
 refine bodyPost_ret (v := .tuple #[vecA X, .int .i64 r]) ?_ rfl ⟨rfl, B9.out⟩
 rw [results_cell_tmp (by rfl)]
 have hl := run_loadVar_row (P := Try.prog) _ w.heap.size 46 46 _ (0, 0) _ (R9.out).1 Try.underlying46 rfl (vecSize (R9.out).2)
 simp [asAddr, hl, Result.andThen]
open Go.RowKit Go.Sort
theorem wpList_mloadD {ops : Array Oper} {rest : List Oper} {op : Oper} {a : Act} {w : World} {b o : Nat} {cs : List Value} {ty : TypeId} {Q : Exit → Act → World → Prop} (d : Nat) (hd : op.dst = some d) (hw : Region.wanted op (yielded ops a.tmps) = true) (x : Operand) (ho : op.op = .load ty x) (hx : a.eval x = .pointer (some ⟨b, o, none⟩)) (h : Lies ty w b o cs)
  (k : wpList Try.prog ops Q rest (a.put op.dst (.agg cs.toArray)) w) : wpList Try.prog ops Q (op :: rest) a w := wpList_mload hw x ho hx h k
def Pck.awV : List Int := Vec.ofl [⟨1, 5⟩]
theorem Pck.aw_len : Pck.awV.length = 65 := (Vec.ofl_plain _).1
theorem Pck.aw_put : Pck.putVec Pck.awV = ([1, 2, 1, 5], 0) := by decide +kernel
theorem Pck.aw_get : Pck.getVec [1, 2, 1, 5] = (Pck.awV, 0) := by decide +kernel
theorem Pck.aw_bd : ∀ n ∈ Pck.awV, n ≤ 9223372036854775807 := by decide +kernel
theorem pck_awake (V : VecOk) (w : World) : Calls Try.prog 7 #[] w fun e w' => e = .returned (.bool true) ∧ Below w.heap.size w w' := by
 have hz := vecZero
 have OF : Hid (∀ W : World, Calls Try.prog 31 #[.slice (some ⟨W.heap.size, 0, none⟩) 1 1] (W.alloc (.cells #[.int .i64 1, .int .i64 5] 23)) fun e w' => e = .returned (vecA Pck.awV) ∧ Laid (W.alloc (.cells #[.int .i64 1, .int .i64 5] 23)) w') := Lib.hid (fun W => V.ofl (rows_made (k := 2) (f := verV) W 23 ⟨1, 5⟩) (by decide) (by decide))
 have PV : Hid (∀ W : World, Calls Try.prog 17 #[vecA Pck.awV] W fun e w' => e = .returned (.tuple #[.string ⟨#[1, 2, 1, 5]⟩, .int .i64 0]) ∧ Below W.heap.size W w') := Lib.hid (fun W => by have := pck_PutVec V Pck.aw_len Pck.aw_bd W; rw [Pck.aw_put] at this; exact this)
 have GV : Hid (∀ W : World, Calls Try.prog 23 #[.string ⟨#[1, 2, 1, 5]⟩] W fun e w' => e = .returned (.tuple #[vecA Pck.awV, .int .i64 0]) ∧ Below W.heap.size W w') := Lib.hid (fun W => by have := pck_GetVec V [1, 2, 1, 5] (by decide) W; rw [Pck.aw_get] at this; exact this)
 have HV := Lib.hid Pck.aw_len
 have hE := fun W => vec_eq Pck.aw_len Pck.aw_len W
 rw [decide_eq_true rfl] at hE
 generalize Pck.awV = X at *
 have H0 := Lib.hid (fun W : World => Laid.new W (.cells #[.int .i64 1, .int .i64 5] 23))
 go_enter Try.func7, Try.ntmps7
 go_wp2_with fail
 refine (OF.out _).mono ?_
 rintro e w1 ⟨rfl, h1⟩
 have L1 := Lib.hid ((H0.out w).trans h1)
 have R1 := Lib.hid (VRow.made w1 Vec.zeros_len)
 have R2 := Lib.hid (R1.out.set X HV.out)
 have L2 := Lib.hid ((L1.out.alloc (.cells (vecR Vec.zeros) 46)).set (b := w1.heap.size) L1.out.size (vecR X)).below
 clear h1
 go_wp2_with (first | refine wpList_vstore (by rfl) _ _ (by rfl) (by rfl) (by rfl) R1.out HV.out ?_ | refine wpList_vload (by rfl) _ (by rfl) (by rfl) R2.out ?_)
 refine (PV.out _).mono ?_
 rintro e w3 ⟨rfl, h3⟩
 have R3 := Lib.hid (R2.out.below h3 R2.out.inHeap)
 have L3 := Lib.hid (L2.out.trans (h3.mono L2.out.size))
 clear h3
 go_wp2_with fail
 refine (GV.out _).mono ?_
 rintro e w4 ⟨rfl, h4⟩
 have R4 := Lib.hid (R3.out.below h4 R3.out.inHeap)
 have L4 := Lib.hid (L3.out.trans (h4.mono L3.out.size))
 have hlt : w1.heap.size < w4.heap.size := R4.out.inHeap
 have R5 := Lib.hid (VRow.made w4 Vec.zeros_len)
 have R6 := Lib.hid (R5.out.set X HV.out)
 have R7 := Lib.hid ((R4.out.alloc (.cells (vecR Vec.zeros) 46)).setElsewhere (c := w4.heap.size) (by omega) (vecR X))
 have L6 : Hid (Below w.heap.size w ((w4.alloc (.cells (vecR Vec.zeros) 46)).setRow w4.heap.size (vecR X))) := Lib.hid (below_kept (L4.out.alloc L4.out.size _) (Kept.setRowK _ _ _) (fun i e => by have := L4.out.size; omega))
 clear h4 hlt
 go_wp2_with (first | refine wpList_vstore (by rfl) _ _ (by rfl) (by rfl) (by rfl) R5.out HV.out ?_ | refine wpList_vload (by rfl) (.tmp 4) (by rfl) (by rfl) R6.out ?_ | refine wpList_vload (by rfl) (.tmp 1) (by rfl) (by rfl) R7.out ?_)
 go_ret
 exact ⟨rfl, L6.out⟩
theorem pck_answer (A S : ByteArray) (ea : Int) (may : Bool) (h : (may = true ∧ A = S ∧ ea = 0) ∨ (may = false ∧ A = ⟨#[]⟩ ∧ ea = 2)) (w : World) :
  Calls Try.prog 10 #[.string A, .int .i64 ea, .bool may, .string S] w fun e w' => e = .returned (.bool true) ∧ Below w.heap.size w w' := by
 have hb := Lib.hid (Below.refl w.heap.size w)
 rcases h with ⟨rfl, rfl, rfl⟩ | ⟨rfl, rfl, rfl⟩
 ·have hs : (A.toList == A.toList) = true := by simp
  go_enter Try.func10, Try.ntmps10
  go_wp2_with fail
  go_ret
  exact ⟨rfl, hb.out⟩
 ·go_enter Try.func10, Try.ntmps10
  go_wp2_with fail
  go_ret
  exact ⟨rfl, hb.out⟩
end Go.Proofs.Ytkacfmaogiblfaa
namespace Go.Proofs.Ytkacfmaogiblfaa.Upd
open Flt (Tx Cl)
open Ver (V S)
structure U where
 item : V
 stamp : S
 path : Tx
 data : Tx
 dead : Bool
deriving DecidableEq
structure M where
 item : V
 stamp : S
 path : Tx
 size : Int
 dead : Bool
deriving DecidableEq
def meta_ (u : U) : M := ⟨u.item, u.stamp, u.path, (u.data.length : Int), u.dead⟩
def check (u : U) : Nat := if ¬ (Ver.Right u.item ∧ Ver.RightS u.stamp) then 1 else if ¬ Pth.Right u.path then 2 else if 200 < u.data.length then 3 else if u.dead = true ∧ u.data ≠ [] then 4 else 0
def checkM (m : M) : Nat := if ¬ (Ver.Right m.item ∧ Ver.RightS m.stamp) then 1 else if ¬ Pth.Right m.path then 2 else if 200 < m.size then 3 else if m.size < 0 ∨ (m.dead = true ∧ 0 < m.size) then 4 else 0
def Wins (a b : U) : Prop := Ver.Older b.stamp a.stamp
instance (a b : U) : Decidable (Wins a b) := inferInstanceAs (Decidable (Ver.Older _ _))
def step (item : V) (acc : Option U) (u : U) : Option U := if u.item = item then match acc with
 | none => some u
 | some b => if Wins u b then some u else acc else acc
def best (l : List U) (item : V) : Option U := l.foldl (step item) none
end Go.Proofs.Ytkacfmaogiblfaa.Upd
namespace Go.Proofs.Ytkacfmaogiblfaa
open Go.RowKit
def upV (u : Upd.U) : List Value := [.int .i64 u.item.by_, .int .i64 u.item.n, .int .i64 u.stamp.v.by_, .int .i64 u.stamp.v.n, .int .i64 u.stamp.time, .string (mk u.path), .string (mk u.data), .bool u.dead]
def mtV (m : Upd.M) : List Value := [.int .i64 m.item.by_, .int .i64 m.item.n, .int .i64 m.stamp.v.by_, .int .i64 m.stamp.v.n, .int .i64 m.stamp.time, .string (mk m.path), .int .i64 m.size, .bool m.dead]
abbrev upA (u : Upd.U) : Value := .agg #[.int .i64 u.item.by_, .int .i64 u.item.n, .int .i64 u.stamp.v.by_, .int .i64 u.stamp.v.n, .int .i64 u.stamp.time, .string (mk u.path), .string (mk u.data), .bool u.dead]
abbrev mtA (m : Upd.M) : Value := .agg #[.int .i64 m.item.by_, .int .i64 m.item.n, .int .i64 m.stamp.v.by_, .int .i64 m.stamp.v.n, .int .i64 m.stamp.time, .string (mk m.path), .int .i64 m.size, .bool m.dead]
structure Upd.Bd (u : Upd.U) : Prop where
 item : Ver.Bd u.item
 stamp : Ver.BdS u.stamp
 path : u.path.length ≤ 100000
 data : u.data.length ≤ 100000
structure Upd.BdM (m : Upd.M) : Prop where
 item : Ver.Bd m.item
 stamp : Ver.BdS m.stamp
 path : m.path.length ≤ 100000
 size : Ver.I64 m.size
def Upd.errM (m : Upd.M) : Int := if ¬ (Ver.Right m.item ∧ Ver.RightS m.stamp) then 2 else if ¬ Pth.Right m.path then 13 else if 200 < m.size then 4 else if m.size < 0 ∨ (m.dead = true ∧ 0 < m.size) then 6 else 0
def Upd.err (u : Upd.U) : Int := Upd.errM (Upd.meta_ u)
def Upd.zeroU : Upd.U := ⟨⟨0, 0⟩, ⟨0, 0, 0⟩, [], [], false⟩
def Upd.hit (f : List Flt.Cl) (u : Upd.U) : Bool := Flt.hits f u.path (u.data.length : Int) u.dead
theorem up_len (u : Upd.U) : (upV u).length = 8 := rfl
theorem Upd.bd_meta {u : Upd.U} (h : Upd.Bd u) : Upd.BdM (Upd.meta_ u) := ⟨h.item, h.stamp, h.path, by have := h.data; show Ver.I64 (u.data.length : Int); unfold Ver.I64; omega⟩
structure UpdateOk : Prop where
 check : ∀ {w : World} (u : Upd.U), Upd.Bd u → Calls Try.prog 33 #[upA u] w fun e w' => e = .returned (.int .i64 (Upd.err u)) ∧ Below w.heap.size w w'
 checkM : ∀ {w : World} (m : Upd.M), Upd.BdM m → Calls Try.prog 36 #[mtA m] w fun e w' => e = .returned (.int .i64 (Upd.errM m)) ∧ Below w.heap.size w w'
 toMeta : ∀ {w : World} (u : Upd.U), Upd.Bd u → Calls Try.prog 73 #[upA u] w fun e w' => e = .returned (mtA (Upd.meta_ u)) ∧ Below w.heap.size w w'
end Go.Proofs.Ytkacfmaogiblfaa
namespace Go.Proofs.Ytkacfmaogiblfaa.Pck
def bit (b : Bool) : List UInt8 := num (if b then 1 else 0)
def upd (u : Upd.U) : List UInt8 := ver u.item ++ (stp u.stamp ++ (txt u.path ++ (txt u.data ++ bit u.dead)))
def met (m : Upd.M) : List UInt8 := ver m.item ++ (stp m.stamp ++ (txt m.path ++ (num m.size ++ bit m.dead)))
def rdUpd : Rdr Upd.U := bnd rdVer fun i => bnd rdStp fun s => bnd rt fun p => bnd rt fun d => bnd rn fun n => ret ⟨i, s, p, d, decide (n = 1)⟩
def rdMet : Rdr Upd.M := bnd rdVer fun i => bnd rdStp fun s => bnd rt fun p => bnd rn fun d => bnd rn fun n => ret ⟨i, s, p, d, decide (n = 1)⟩
def updR (u : Upd.U) : List UInt8 := verR u.item ++ (verR u.stamp.v ++ (numR u.stamp.time ++ (txt u.path ++ (txt u.data ++ bit u.dead))))
def metR (m : Upd.M) : List UInt8 := verR m.item ++ (verR m.stamp.v ++ (numR m.stamp.time ++ (txt m.path ++ (numR m.size ++ bit m.dead))))
def OkUpd (u : Upd.U) : Prop := Upd.err u = 0
def OkMet (m : Upd.M) : Prop := Upd.errM m = 0
instance (u : Upd.U) : Decidable (OkUpd u) := inferInstanceAs (Decidable (_ = _))
instance (m : Upd.M) : Decidable (OkMet m) := inferInstanceAs (Decidable (_ = _))
def putUpd (u : Upd.U) : List UInt8 × Int := putOf (OkUpd u) (upd u)
def putMet (m : Upd.M) : List UInt8 × Int := putOf (OkMet m) (met m)
def zeroM : Upd.M := ⟨⟨0, 0⟩, ⟨0, 0, 0⟩, [], 0, false⟩
def getUpd (s : List UInt8) : Upd.U × Int := getOf rdUpd putUpd Upd.zeroU s
def getMet (s : List UInt8) : Upd.M × Int := getOf rdMet putMet zeroM s
theorem okMet_iff (m : Upd.M) : OkMet m ↔ Ver.Right m.item ∧ Ver.RightS m.stamp ∧ Pth.Right m.path ∧ m.size ≤ 200 ∧ 0 ≤ m.size ∧ (m.dead = true → m.size = 0) := by
 unfold OkMet Upd.errM
 constructor
 ·intro h
  by_cases h1 : Ver.Right m.item ∧ Ver.RightS m.stamp
  ·rw [if_neg (fun h => h h1)] at h
   by_cases h2 : Pth.Right m.path
   ·rw [if_neg (fun h => h h2)] at h
    by_cases h3 : 200 < m.size
    ·rw [if_pos h3] at h; exact absurd h (by decide)
    ·rw [if_neg h3] at h
     by_cases h4 : m.size < 0 ∨ (m.dead = true ∧ 0 < m.size)
     ·rw [if_pos h4] at h; exact absurd h (by decide)
     ·exact ⟨h1.1, h1.2, h2, by omega, by omega, fun hd => by rcases Int.lt_or_le 0 m.size with h7 | h7; exact absurd (Or.inr ⟨hd, h7⟩) h4; omega⟩
   ·rw [if_pos h2] at h; exact absurd h (by decide)
  ·rw [if_pos h1] at h; exact absurd h (by decide)
 ·rintro ⟨h1, h2, h3, h4, h5, h6⟩
  rw [if_neg (fun h => h ⟨h1, h2⟩), if_neg (fun h => h h3), if_neg (by omega), if_neg (by rintro (h | ⟨h, h7⟩); omega; have := h6 h; omega)]
theorem okUpd_iff (u : Upd.U) : OkUpd u ↔ Ver.Right u.item ∧ Ver.RightS u.stamp ∧ Pth.Right u.path ∧ u.data.length ≤ 200 ∧ (u.dead = true → u.data = []) := by
 have h := okMet_iff (Upd.meta_ u)
 refine Iff.trans h ?_
 show (Ver.Right u.item ∧ Ver.RightS u.stamp ∧ Pth.Right u.path ∧ (u.data.length : Int) ≤ 200 ∧ 0 ≤ (u.data.length : Int) ∧ (u.dead = true → (u.data.length : Int) = 0)) ↔ _
 constructor
 ·rintro ⟨a, b, c, d, -, f⟩
  exact ⟨a, b, c, by omega, fun hd => List.eq_nil_of_length_eq_zero (by have := f hd; omega)⟩
 ·rintro ⟨a, b, c, d, f⟩
  exact ⟨a, b, c, by omega, by omega, fun hd => by rw [f hd]; rfl⟩
theorem right_nn {v : Ver.V} (h : Ver.Right v) (hb : Ver.Bd v) : NnV v := by
 obtain ⟨a, b, c⟩ := h
 obtain ⟨⟨-, d⟩, ⟨-, f⟩⟩ := hb
 exact ⟨⟨by omega, d⟩, ⟨by omega, f⟩⟩
theorem rightS_nn {s : Ver.S} (h : Ver.RightS s) (hb : Ver.BdS s) : NnS s := ⟨right_nn h.1 hb.1, by have := h.2; omega, hb.2.2⟩
theorem takes_bit (b : Bool) : Takes rn (bit b) (if b then 1 else 0) := by
 unfold bit
 cases b <;> exact Takes.num (by decide) (by decide)
theorem bit_back (b : Bool) : decide ((if b then 1 else 0 : Int) = 1) = b := by cases b <;> rfl
theorem takes_upd {u : Upd.U} (h : OkUpd u) (hb : Upd.Bd u) : Takes rdUpd (upd u) u := by
 obtain ⟨h1, h2, h3, h4, h5⟩ := (okUpd_iff u).1 h
 have hp := hb.path
 have := Takes.bnd (k := fun i => bnd rdStp fun s => bnd rt fun p => bnd rt fun d => bnd rn fun n => ret (⟨i, s, p, d, decide (n = 1)⟩ : Upd.U)) (takes_ver (right_nn h1 hb.item)) (Takes.bnd (takes_stp (rightS_nn h2 hb.stamp)) (Takes.bnd (Takes.txt (t := u.path) (by omega)) (Takes.bnd (Takes.txt (t := u.data) (by omega)) (Takes.bnd (takes_bit u.dead) (Takes.ret _)))))
 rw [bit_back, List.append_nil] at this
 exact this
theorem takes_met {m : Upd.M} (h : OkMet m) (hb : Upd.BdM m) : Takes rdMet (met m) m := by
 obtain ⟨h1, h2, h3, h4, h5, h6⟩ := (okMet_iff m).1 h
 have hp := hb.path
 have := Takes.bnd (k := fun i => bnd rdStp fun s => bnd rt fun p => bnd rn fun d => bnd rn fun n => ret (⟨i, s, p, d, decide (n = 1)⟩ : Upd.M)) (takes_ver (right_nn h1 hb.item)) (Takes.bnd (takes_stp (rightS_nn h2 hb.stamp)) (Takes.bnd (Takes.txt (t := m.path) (by omega)) (Takes.bnd (Takes.num h5 hb.size.2) (Takes.bnd (takes_bit m.dead) (Takes.ret _)))))
 rw [bit_back, List.append_nil] at this
 exact this
theorem upd_le {u : Upd.U} (h : OkUpd u) : (upd u).length ≤ 400 := by
 obtain ⟨h1, h2, h3, h4, h5⟩ := (okUpd_iff u).1 h
 have a := ver_le u.item
 have b := stp_le u.stamp
 have c := txt_len u.path
 have d := txt_len u.data
 have e := num_len (if u.dead then 1 else 0)
 have f := h3.2.1
 unfold upd bit
 simp only [List.length_append]
 omega
theorem met_le {m : Upd.M} (h : OkMet m) : (met m).length ≤ 400 := by
 obtain ⟨h1, h2, h3, h4, h5, h6⟩ := (okMet_iff m).1 h
 have a := ver_le m.item
 have b := stp_le m.stamp
 have c := txt_len m.path
 have d := num_len m.size
 have e := num_len (if m.dead then 1 else 0)
 have f := h3.2.1
 unfold met bit
 simp only [List.length_append]
 omega
theorem updR_is {u : Upd.U} (h : OkUpd u) (hb : Upd.Bd u) : updR u = upd u := by
 obtain ⟨h1, h2, h3, h4, h5⟩ := (okUpd_iff u).1 h
 have h6 := rightS_nn h2 hb.stamp
 unfold updR upd stp
 rw [verR_is (right_nn h1 hb.item), verR_is h6.1, numR_is h6.2.1, List.append_assoc]
theorem metR_is {m : Upd.M} (h : OkMet m) (hb : Upd.BdM m) : metR m = met m := by
 obtain ⟨h1, h2, h3, h4, h5, -⟩ := (okMet_iff m).1 h
 have h6 := rightS_nn h2 hb.stamp
 unfold metR met stp
 rw [verR_is (right_nn h1 hb.item), verR_is h6.1, numR_is h6.2.1, numR_is h5, List.append_assoc]
theorem nn_i64 {n : Int} (h : Nn n) : Ver.I64 n := ⟨by have := h.1; omega, h.2⟩
theorem nn_bd {v : Ver.V} (h : NnV v) : Ver.Bd v := ⟨nn_i64 h.1, nn_i64 h.2⟩
theorem nn_bdS {s : Ver.S} (h : NnS s) : Ver.BdS s := ⟨nn_bd h.1, nn_i64 h.2⟩
theorem rdUpd_bd {l : List UInt8} {e : Int} (h : l.length ≤ 100000) : Upd.Bd (rdUpd l e).1 := by
 have h1 := rdVer_left l e
 have h2 := rdStp_left (rdVer l e).2.1 (rdVer l e).2.2
 have h3 := rt_left (rdStp (rdVer l e).2.1 (rdVer l e).2.2).2.1 (rdStp (rdVer l e).2.1 (rdVer l e).2.2).2.2
 have h4 := rt_left (rt (rdStp (rdVer l e).2.1 (rdVer l e).2.2).2.1 (rdStp (rdVer l e).2.1 (rdVer l e).2.2).2.2).2.1 (rt (rdStp (rdVer l e).2.1 (rdVer l e).2.2).2.1 (rdStp (rdVer l e).2.1 (rdVer l e).2.2).2.2).2.2
 exact ⟨nn_bd (rdVer_nn l e), nn_bdS (rdStp_nn (rdVer l e).2.1 (rdVer l e).2.2), Nat.le_trans h3.1 (by omega), Nat.le_trans h4.1 (by omega)⟩
theorem rdMet_bd {l : List UInt8} {e : Int} (h : l.length ≤ 100000) : Upd.BdM (rdMet l e).1 := by
 have h1 := rdVer_left l e
 have h2 := rdStp_left (rdVer l e).2.1 (rdVer l e).2.2
 have h3 := rt_left (rdStp (rdVer l e).2.1 (rdVer l e).2.2).2.1 (rdStp (rdVer l e).2.1 (rdVer l e).2.2).2.2
 have h4 := rn_nonneg (rt (rdStp (rdVer l e).2.1 (rdVer l e).2.2).2.1 (rdStp (rdVer l e).2.1 (rdVer l e).2.2).2.2).2.1 (rt (rdStp (rdVer l e).2.1 (rdVer l e).2.2).2.1 (rdStp (rdVer l e).2.1 (rdVer l e).2.2).2.2).2.2
 exact ⟨nn_bd (rdVer_nn l e), nn_bdS (rdStp_nn (rdVer l e).2.1 (rdVer l e).2.2), Nat.le_trans h3.1 (by omega), nn_i64 h4⟩
end Go.Proofs.Ytkacfmaogiblfaa.Pck
