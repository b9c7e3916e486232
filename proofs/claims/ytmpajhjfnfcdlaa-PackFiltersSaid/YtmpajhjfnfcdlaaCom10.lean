import Derived.Test.YtmpajhjfnfcdlaaCom9
import Derived.Test.YtmpajhjfnfcdlaaCom6
set_option maxRecDepth 100000
set_option linter.all false
set_option maxHeartbeats 12800000
namespace Go.Proofs.Ytmpajhjfnfcdlaa
open Go.RowKit Go.Sort
theorem pck_nnbd {v : Ver.V} (h : Pck.NnV v) : Ver.Bd v := ⟨⟨by have := h.1.1; omega, h.1.2⟩, ⟨by have := h.2.1; omega, h.2.2⟩⟩
theorem pck_fold_bd : ∀ (l : List Ver.V) (v : List Int), (∀ x ∈ l, Ver.Bd x) → (∀ n ∈ v, Ver.I64 n) → ∀ n ∈ l.foldl Vec.up v, Ver.I64 n
 | [], v, _, hv => hv
 | x :: l, v, hl, hv => by
  refine pck_fold_bd l (Vec.up v x) (fun y hy => hl y (List.mem_cons_of_mem _ hy)) ?_
  intro n hn
  unfold Vec.up at hn
  split at hn
  ·rcases List.mem_or_eq_of_mem_set hn with h | h
   ·exact hv n h
   ·rw [h]; exact (hl x (by simp)).2
  ·exact hv n hn
theorem pck_rdVec_bd (l : List UInt8) (e : Int) : ∀ n ∈ (Pck.rdVec l e).1, Ver.I64 n :=
 pck_fold_bd _ _ (fun x hx => pck_nnbd (Pck.rdVers_nn l e x hx)) (fun n hn => by rw [(List.mem_replicate.1 hn).2]; exact ⟨by decide, by decide⟩)
theorem pck_vec (V : VecOk) {w : World} {b : Nat} {l : List UInt8} {e : Int} (h : RdL w b l e) (hm : l.length ≤ 100000) :
  Calls Try.prog 58 #[.pointer (some ⟨b, 0, none⟩)] w fun ed w' => ed = .returned (vecA (Pck.rdVec l e).1) ∧ RdL w' b (Pck.rdVec l e).2.1 (Pck.rdVec l e).2.2 ∧ w.grownBy w' (some b) := by
 have hz := vecZero
 have hbw := Lib.hid (Row.inHeap h)
 have Q2 := Lib.hid (VRow.made w Vec.zeros_len)
 have D0 : Hid (RdL (w.alloc (.cells (vecR Vec.zeros) 46)) b l e) := Lib.hid (Row.behindNew h _)
 have G0 := Lib.hid (gb_new (gb_refl w (some b)) (.cells (vecR Vec.zeros) 46))
 have LI := Lib.hid (fun W => pck_rlist_ver W)
 have LL := Lib.hid (fun (W : World) (c2 : Nat) (h1 : RdL W b l e) (h2 : W.cell? ⟨c2, 0, none⟩ = _) (h3 : c2 ≠ b) => pck_list_ver h1 h2 h3 hm)
 have HO : Hid (∀ (W : World) (F : Nat → Prop) (v : Value), Vrs W F v (Pck.rdVers l e).1 → _) := Lib.hid (fun W F v h1 => V.ofl h1 (by have := Pck.rdVers_len l e; omega) (fun x hx => pck_nnbd (Pck.rdVers_nn l e x hx)))
 have HX := Lib.hid (Pck.rdVec_plain l e).1
 rw [show Pck.list Pck.rdVer l e = Pck.rdVers l e from rfl] at LL
 have hR : Pck.rdVec l e = (Vec.ofl (Pck.rdVers l e).1, (Pck.rdVers l e).2) := rfl
 rw [hR] at HX ⊢
 clear h hm hR
 generalize Pck.rdVers l e = rr at *
 obtain ⟨xs, l1, e1⟩ := rr
 dsimp only at LL HO HX ⊢
 generalize Vec.ofl xs = X at *
 go_enter Try.func58, Try.ntmps58
 go_wp2_with fail
 refine (LI.out _).mono ?_
 rintro ed w1 ⟨c2, rfl, h1, b1⟩
 have hne : c2 ≠ b := fun e => by
  have h2 := Row.below D0.out b1 (Row.inHeap D0.out)
  rw [e] at h1
  have h3 : (Obj.cells #[.func (.func 61) #[] #[]] 101 (0, 0)) = Obj.cells #[.string ⟨l.toArray⟩, .int .i64 _] 150 (0, 0) := Option.some.inj ((show w1.heap[b]? = _ from h1).symm.trans (show w1.heap[b]? = _ from h2))
  injection h3 with _ h4
  exact absurd h4 (by decide)
 have HN := Lib.hid hne
 have C1 := Lib.hid h1
 have D1 : Hid (RdL w1 b l e) := Lib.hid (Row.below D0.out b1 (Row.inHeap D0.out))
 have Q3 := Lib.hid (Q2.out.below b1 Q2.out.inHeap)
 have G1 := Lib.hid (gb_trans G0.out (gb_below b1 _))
 clear h1 b1 hne
 go_wp2_with fail
 refine (LL.out _ _ D1.out (C1.out.at 0) HN.out).mono ?_
 rintro ed w2 ⟨v, rfl, h2, h3, g2⟩
 have U2 := Lib.hid h2
 have D2 := Lib.hid h3
 have Q4 : Hid (VRow w2 w.heap.size Vec.zeros) := Lib.hid ⟨Q3.out.1.grown g2 (fun e => by have := hbw.out; injection e with e; omega), Vec.zeros_len⟩
 have G2 := Lib.hid (gb_trans G1.out g2)
 clear h2 h3 g2
 go_wp2_with fail
 refine (HO.out _ _ _ U2.out).mono ?_
 rintro ed w3 ⟨rfl, h4⟩
 have Q5 := Lib.hid (Q4.out.below h4.below Q4.out.inHeap)
 have D3 : Hid (RdL w3 b l1 e1) := Lib.hid (Row.below D2.out h4.below (Row.inHeap D2.out))
 have G3 := Lib.hid (gb_trans G2.out (gb_below h4.below _))
 have R9 := Lib.hid (Q5.out.set X HX.out)
 have D9 : Hid (RdL (w3.setRow w.heap.size (vecR X)) b l1 e1) := Lib.hid (Row.kept D3.out (Kept.setRowK _ _ _) (fun e => by have := hbw.out; omega))
 have G9 := Lib.hid (gb_kept G3.out (Kept.setRowK _ w.heap.size (vecR X)) (fun i e => by omega))
 clear h4
 go_wp2_with (refine wpList_vstore (by rfl) (.tmp 2) (.tmp 6) (by rfl) (by rfl) (by rfl) Q5.out HX.out ?_)
 exact bodyPost_ret (v := vecA X) (results_cell_row (by rfl) _ _ w.heap.size 46 _ (0, 0) _ (by rfl) R9.out.1 Try.underlying46 rfl (vecSize HX.out)) rfl ⟨rfl, D9.out, G9.out⟩
theorem pck_vec_le (s : List UInt8) : ∀ n ∈ (Pck.rdVec s 0).1, n ≤ 9223372036854775807 := fun n hn => (pck_rdVec_bd s 0 n hn).2
theorem pck_getVec_len (s : List UInt8) : (Pck.getVec s).1.length = 65 := by
 unfold Pck.getVec Pck.getOf
 split
 ·exact Vec.zeros_len
 ·split
  ·exact (Pck.rdVec_plain s 0).1
  ·exact Vec.zeros_len
theorem pck_PutVec (V : VecOk) {v : List Int} (hv : v.length = 65) (hb : ∀ n ∈ v, n ≤ 9223372036854775807) (w : World) :
  Calls Try.prog 17 #[vecA v] w fun e w' => e = .returned (.tuple #[.string (mk (Pck.putVec v).1), .int .i64 (Pck.putVec v).2]) ∧ Below w.heap.size w w' := by
 have CK := Lib.hid (fun W => pck_validVec V hv W)
 have PP := Lib.hid (fun W => pck_put_vec V hv hb W)
 rw [show Pck.putOf (Pck.OkVec v) (Pck.vec v) = Pck.putVec v from rfl] at PP
 have HR : Hid ((Pck.putVec v) = _) := Lib.hid rfl
 generalize hres : (Pck.putVec v) = res at *
 clear HR hres
 generalize decide (Pck.OkVec v) = t at *
 obtain ⟨rb, re⟩ := res
 dsimp only at *
 generalize mk rb = B at *
 have RB := Lib.hid (VRow.made w hv)
 clear hv hb V
 have G0 : Hid (Below w.heap.size w (w.alloc (.cells (vecR v) 46))) := Lib.hid ((Below.refl _ _).alloc (Nat.le_refl _) _)
 go_enter Try.func17, Try.ntmps17
 go_wp2_with fail
 refine wp_region_held_drew (S := (Below (w.alloc (.cells (vecR v) 46)).heap.size (w.alloc (.cells (vecR v) 46)))) (by kernel_rfl) (Below.drew (Below.refl _ _)) (fun hHeld => ?_)
 refine wpAnyH_tk (i := 0) (v := vecA v) rfl (Or.inl ⟨by rfl, (by intro w hSw; exact exec_vload (by rfl) (by rfl) (RB.out.below hSw RB.out.inHeap))⟩) (by assumption) ?_
 simp only [zz]
 refine wpAnyH_tk (i := 1) (v := vecA v) rfl (Or.inl ⟨by rfl, (by intro w hSw; exact exec_vload (by rfl) (by rfl) (RB.out.below hSw RB.out.inHeap))⟩) (by assumption) ?_
 simp only [zz]
 refine wpAnyH_ready (rs := [2]) (by kernel_rfl) (by simp) ?_
 refine AllReadyH.cons rfl (fun K hK => ?_) AllReadyH.nil
 go_simp
 go_at_call 49
 refine (CK.out _).mono ?_
 rintro e w1 ⟨rfl, hb⟩
 have B1 := Lib.hid (hHeld.trans (hb.mono hHeld.size))
 refine hK.out _ _ B1.out (fun hHeld => ?_)
 clear hb
 clear hK K
 refine wpAnyH_ready (rs := [3]) (by kernel_rfl) (by simp) ?_
 refine AllReadyH.cons rfl (fun K hK => ?_) AllReadyH.nil
 go_simp
 go_at_call 48
 refine (PP.out _).mono ?_
 rintro e w2 ⟨rfl, hb⟩
 have B2 := Lib.hid (hHeld.trans (hb.mono hHeld.size))
 refine hK.out _ _ B2.out (fun hHeld => ?_)
 clear hb
 clear hK K
 refine wpAnyH_td (i := 4) rfl ?_
 simp only [zz]
 refine wpAnyH_td (i := 5) rfl ?_
 simp only [zz]
 refine wpAnyH_td (i := 6) rfl ?_
 simp only [zz]
 refine wpAnyH_td (i := 7) rfl ?_
 simp only [zz]
 refine wpAnyH_done (by kernel_rfl) ?_ _
 go_wp2_with fail
 go_ret2
 exact ⟨rfl, G0.out.trans (B2.out.mono G0.out.size)⟩
theorem pck_get_vec (V : VecOk) (s : List UInt8) (hs : s.length ≤ 140737488355328) (w : World) :
  Calls Try.prog 57 #[.string (mk s), .func (.func 58) #[] #[], .func (.func 17) #[] #[]] w fun e w' => e = .returned (.tuple #[vecA (Pck.getVec s).1, .int .i64 (Pck.getVec s).2]) ∧ Below w.heap.size w w' := by
 have hz := vecZero
 have Q6 : Hid (VRow ((w.alloc (.cells (vecR Vec.zeros) 46)).alloc (.cells (vecR Vec.zeros) 46)) w.heap.size Vec.zeros) := Lib.hid ((VRow.made w Vec.zeros_len).alloc _)
 have Q8 : Hid (VRow ((w.alloc (.cells (vecR Vec.zeros) 46)).alloc (.cells (vecR Vec.zeros) 46)) (w.heap.size + 1) Vec.zeros) := Lib.hid (by have := VRow.made (w.alloc (.cells (vecR Vec.zeros) 46)) Vec.zeros_len; rwa [World.size_alloc] at this)
 have G0 : Hid (Below w.heap.size w ((w.alloc (.cells (vecR Vec.zeros) 46)).alloc (.cells (vecR Vec.zeros) 46))) := Lib.hid (((Below.refl _ _).alloc (Nat.le_refl _) _).alloc (by simp) _)
 by_cases hbig : 65536 < s.length
 ·have hE : Pck.getVec s = (Vec.zeros, 6) := if_pos hbig
  have hsz : decide ((65536 : Int) < ((mk s).size : Int)) = true := decide_eq_true (by rw [mk_len]; omega)
  rw [hE]
  clear hE hbig hs
  generalize mk s = S at *
  have R9 := Lib.hid (Q6.out.set Vec.zeros Vec.zeros_len)
  have B9 := Lib.hid (below_kept G0.out (Kept.setRowK _ w.heap.size (vecR Vec.zeros)) (fun i e => by omega))
  go_enter Try.func57, Try.ntmps57
  go_wp2_with (first | (refine wpList_vload (by rfl) (.tmp 8) (by rfl) (by rfl) Q8.out ?_) | (refine wpList_vstore (by rfl) (.tmp 6) (.tmp 15) (by rfl) (by rfl) (by rfl) Q6.out Vec.zeros_len ?_))
  refine bodyPost_ret (v := .tuple #[vecA Vec.zeros, .int .i64 6]) ?_ rfl ⟨rfl, B9.out⟩
  rw [results_cell_tmp (by rfl)]
  have hl := run_loadVar_row (P := Try.prog) _ w.heap.size 46 46 _ (0, 0) _ (R9.out).1 Try.underlying46 rfl (vecSize (R9.out).2)
  simp [asAddr, hl, Result.andThen]
 ·have hsz : decide ((65536 : Int) < ((mk s).size : Int)) = false := decide_eq_false (by rw [mk_len]; omega)
  have hsl : s.length ≤ 65536 := by omega
  have OV := Lib.hid (fun W => pck_over s W)
  have RD := Lib.hid (fun (W : World) (p : Nat) (h : RdL W p s 0) => pck_vec V h (by omega))
  have PW := Lib.hid (fun W => pck_PutVec V (Pck.rdVec_plain s 0).1 (pck_vec_le s) W)
  have HX := Lib.hid (Pck.rdVec_plain s 0).1
  have hG : Pck.getVec s = if (Pck.putVec (Pck.rdVec s 0).1).2 = 0 ∧ (Pck.putVec (Pck.rdVec s 0).1).1 = s then ((Pck.rdVec s 0).1, 0) else (Vec.zeros, 6) := if_neg hbig
  generalize Pck.putVec (Pck.rdVec s 0).1 = pp at *
  generalize Pck.rdVec s 0 = rr at *
  obtain ⟨X, lr, er⟩ := rr
  obtain ⟨ab, r⟩ := pp
  dsimp only at hG RD PW HX
  have hS : (((mk ab).toList == (mk s).toList) = decide (ab = s)) := by
   rw [Lib.toList_data, Lib.toList_data, mk_data, mk_data]
   rw [Bool.eq_iff_iff, beq_iff_eq, decide_eq_true_iff]
  have hS2 : (((mk ab).toList != (mk s).toList) = !decide (ab = s)) := by
   unfold bne
   rw [hS]
  by_cases hr0 : r = 0
  ·by_cases hab : ab = s
   ·rw [if_pos ⟨hr0, hab⟩] at hG
    rw [hG]
    rw [decide_eq_true hab] at hS hS2
    have hrr : (r != 0) = false := by rw [hr0]; rfl
    clear hG hr0 hab hbig hs hsl
    rw [Bool.not_true] at hS2
    generalize mk ab = AB at *
    generalize mk s = S at *
    go_enter Try.func57, Try.ntmps57
    go_wp2_with fail
    refine (OV.out _).mono ?_
    rintro e w1 ⟨p, rfl, h1, hp, b1⟩
    have HP : Hid (w.heap.size + 1 + 1 ≤ p) := Lib.hid (by simpa using hp)
    have A6 := Lib.hid (Q6.out.below b1 Q6.out.inHeap)
    have A8 := Lib.hid (Q8.out.below b1 Q8.out.inHeap)
    have D1 := Lib.hid h1
    have B1 := Lib.hid (G0.out.trans (b1.mono G0.out.size))
    clear h1 b1 hp
    go_wp2_with fail
    refine (RD.out _ _ D1.out).mono ?_
    rintro e w2 ⟨rfl, h2, g2⟩
    have C6 : Hid (VRow w2 w.heap.size Vec.zeros) := Lib.hid ⟨A6.out.1.grown g2 (fun e => by have := HP.out; injection e with e; omega), Vec.zeros_len⟩
    have C8 : Hid (VRow w2 (w.heap.size + 1) Vec.zeros) := Lib.hid ⟨A8.out.1.grown g2 (fun e => by have := HP.out; injection e with e; omega), Vec.zeros_len⟩
    have B2 := Lib.hid (gb_out B1.out g2 (by have := HP.out; omega))
    have hs2 : w.heap.size + 1 < w2.heap.size := C8.out.inHeap
    have HS2 := Lib.hid hs2
    clear h2 g2 hs2
    have RZ := Lib.hid (VRow.made w2 Vec.zeros_len)
    have RX := Lib.hid (RZ.out.set X HX.out)
    have E6 := Lib.hid ((C6.out.alloc (.cells (vecR Vec.zeros) 46)).setElsewhere (c := w2.heap.size) (by have := HS2.out; omega) (vecR X))
    have E8 := Lib.hid ((C8.out.alloc (.cells (vecR Vec.zeros) 46)).setElsewhere (c := w2.heap.size) (by have := HS2.out; omega) (vecR X))
    have B3 : Hid (Below w.heap.size w ((w2.alloc (.cells (vecR Vec.zeros) 46)).setRow w2.heap.size (vecR X))) := Lib.hid (below_kept (B2.out.alloc B2.out.size _) (Kept.setRowK _ _ _) (fun i e => by have := HS2.out; omega))
    go_wp2_with (first | (refine wpList_vstore (by rfl) (.tmp 9) (.tmp 19) (by rfl) (by rfl) (by rfl) RZ.out HX.out ?_) | (refine wpList_vload (by rfl) (.tmp 9) (by rfl) (by rfl) RX.out ?_))
    refine (PW.out _).mono ?_
    rintro e w3 ⟨rfl, b3⟩
    have F6 := Lib.hid (E6.out.below b3 E6.out.inHeap)
    have F8 := Lib.hid (E8.out.below b3 E8.out.inHeap)
    have FX := Lib.hid (RX.out.below b3 RX.out.inHeap)
    have B4 := Lib.hid (B3.out.trans (b3.mono B3.out.size))
    clear b3
    have R9 := Lib.hid (F6.out.set X HX.out)
    have B9 := Lib.hid (below_kept B4.out (Kept.setRowK _ w.heap.size (vecR X)) (fun i e => by omega))
    go_wp2_with (first | (refine wpList_vload (by rfl) (.tmp 9) (by rfl) (by rfl) FX.out ?_) | (refine wpList_vstore (by rfl) (.tmp 6) (.tmp 34) (by rfl) (by rfl) (by rfl) F6.out HX.out ?_))
    refine bodyPost_ret (v := .tuple #[vecA X, .int .i64 0]) ?_ rfl ⟨rfl, B9.out⟩
    rw [results_cell_tmp (by rfl)]
    have hl := run_loadVar_row (P := Try.prog) _ w.heap.size 46 46 _ (0, 0) _ (R9.out).1 Try.underlying46 rfl (vecSize (R9.out).2)
    simp [asAddr, hl, Result.andThen]
   ·rw [if_neg (fun h => hab h.2)] at hG
    rw [hG]
    rw [decide_eq_false hab] at hS hS2
    have hrr : (r != 0) = false := by rw [hr0]; rfl
    clear hG hr0 hab hbig hs hsl
    rw [Bool.not_false] at hS2
    generalize mk ab = AB at *
    generalize mk s = S at *
    go_enter Try.func57, Try.ntmps57
    go_wp2_with fail
    refine (OV.out _).mono ?_
    rintro e w1 ⟨p, rfl, h1, hp, b1⟩
    have HP : Hid (w.heap.size + 1 + 1 ≤ p) := Lib.hid (by simpa using hp)
    have A6 := Lib.hid (Q6.out.below b1 Q6.out.inHeap)
    have A8 := Lib.hid (Q8.out.below b1 Q8.out.inHeap)
    have D1 := Lib.hid h1
    have B1 := Lib.hid (G0.out.trans (b1.mono G0.out.size))
    clear h1 b1 hp
    go_wp2_with fail
    refine (RD.out _ _ D1.out).mono ?_
    rintro e w2 ⟨rfl, h2, g2⟩
    have C6 : Hid (VRow w2 w.heap.size Vec.zeros) := Lib.hid ⟨A6.out.1.grown g2 (fun e => by have := HP.out; injection e with e; omega), Vec.zeros_len⟩
    have C8 : Hid (VRow w2 (w.heap.size + 1) Vec.zeros) := Lib.hid ⟨A8.out.1.grown g2 (fun e => by have := HP.out; injection e with e; omega), Vec.zeros_len⟩
    have B2 := Lib.hid (gb_out B1.out g2 (by have := HP.out; omega))
    have hs2 : w.heap.size + 1 < w2.heap.size := C8.out.inHeap
    have HS2 := Lib.hid hs2
    clear h2 g2 hs2
    have RZ := Lib.hid (VRow.made w2 Vec.zeros_len)
    have RX := Lib.hid (RZ.out.set X HX.out)
    have E6 := Lib.hid ((C6.out.alloc (.cells (vecR Vec.zeros) 46)).setElsewhere (c := w2.heap.size) (by have := HS2.out; omega) (vecR X))
    have E8 := Lib.hid ((C8.out.alloc (.cells (vecR Vec.zeros) 46)).setElsewhere (c := w2.heap.size) (by have := HS2.out; omega) (vecR X))
    have B3 : Hid (Below w.heap.size w ((w2.alloc (.cells (vecR Vec.zeros) 46)).setRow w2.heap.size (vecR X))) := Lib.hid (below_kept (B2.out.alloc B2.out.size _) (Kept.setRowK _ _ _) (fun i e => by have := HS2.out; omega))
    go_wp2_with (first | (refine wpList_vstore (by rfl) (.tmp 9) (.tmp 19) (by rfl) (by rfl) (by rfl) RZ.out HX.out ?_) | (refine wpList_vload (by rfl) (.tmp 9) (by rfl) (by rfl) RX.out ?_))
    refine (PW.out _).mono ?_
    rintro e w3 ⟨rfl, b3⟩
    have F6 := Lib.hid (E6.out.below b3 E6.out.inHeap)
    have F8 := Lib.hid (E8.out.below b3 E8.out.inHeap)
    have FX := Lib.hid (RX.out.below b3 RX.out.inHeap)
    have B4 := Lib.hid (B3.out.trans (b3.mono B3.out.size))
    clear b3
    have R9 := Lib.hid (F6.out.set Vec.zeros Vec.zeros_len)
    have B9 := Lib.hid (below_kept B4.out (Kept.setRowK _ w.heap.size (vecR Vec.zeros)) (fun i e => by omega))
    go_wp2_with (first | (refine wpList_vload (by rfl) (.tmp 8) (by rfl) (by rfl) F8.out ?_) | (refine wpList_vstore (by rfl) (.tmp 6) (.tmp 33) (by rfl) (by rfl) (by rfl) F6.out Vec.zeros_len ?_))
    refine bodyPost_ret (v := .tuple #[vecA Vec.zeros, .int .i64 6]) ?_ rfl ⟨rfl, B9.out⟩
    rw [results_cell_tmp (by rfl)]
    have hl := run_loadVar_row (P := Try.prog) _ w.heap.size 46 46 _ (0, 0) _ (R9.out).1 Try.underlying46 rfl (vecSize (R9.out).2)
    simp [asAddr, hl, Result.andThen]
  ·rw [if_neg (fun h => hr0 h.1)] at hG
   rw [hG]
   have hrr : (r != 0) = true := by simpa using hr0
   clear hG hr0 hbig hs hsl hS hS2
   generalize mk ab = AB at *
   generalize mk s = S at *
   go_enter Try.func57, Try.ntmps57
   go_wp2_with fail
   refine (OV.out _).mono ?_
   rintro e w1 ⟨p, rfl, h1, hp, b1⟩
   have HP : Hid (w.heap.size + 1 + 1 ≤ p) := Lib.hid (by simpa using hp)
   have A6 := Lib.hid (Q6.out.below b1 Q6.out.inHeap)
   have A8 := Lib.hid (Q8.out.below b1 Q8.out.inHeap)
   have D1 := Lib.hid h1
   have B1 := Lib.hid (G0.out.trans (b1.mono G0.out.size))
   clear h1 b1 hp
   go_wp2_with fail
   refine (RD.out _ _ D1.out).mono ?_
   rintro e w2 ⟨rfl, h2, g2⟩
   have C6 : Hid (VRow w2 w.heap.size Vec.zeros) := Lib.hid ⟨A6.out.1.grown g2 (fun e => by have := HP.out; injection e with e; omega), Vec.zeros_len⟩
   have C8 : Hid (VRow w2 (w.heap.size + 1) Vec.zeros) := Lib.hid ⟨A8.out.1.grown g2 (fun e => by have := HP.out; injection e with e; omega), Vec.zeros_len⟩
   have B2 := Lib.hid (gb_out B1.out g2 (by have := HP.out; omega))
   have hs2 : w.heap.size + 1 < w2.heap.size := C8.out.inHeap
   have HS2 := Lib.hid hs2
   clear h2 g2 hs2
   have RZ := Lib.hid (VRow.made w2 Vec.zeros_len)
   have RX := Lib.hid (RZ.out.set X HX.out)
   have E6 := Lib.hid ((C6.out.alloc (.cells (vecR Vec.zeros) 46)).setElsewhere (c := w2.heap.size) (by have := HS2.out; omega) (vecR X))
   have E8 := Lib.hid ((C8.out.alloc (.cells (vecR Vec.zeros) 46)).setElsewhere (c := w2.heap.size) (by have := HS2.out; omega) (vecR X))
   have B3 : Hid (Below w.heap.size w ((w2.alloc (.cells (vecR Vec.zeros) 46)).setRow w2.heap.size (vecR X))) := Lib.hid (below_kept (B2.out.alloc B2.out.size _) (Kept.setRowK _ _ _) (fun i e => by have := HS2.out; omega))
   go_wp2_with (first | (refine wpList_vstore (by rfl) (.tmp 9) (.tmp 19) (by rfl) (by rfl) (by rfl) RZ.out HX.out ?_) | (refine wpList_vload (by rfl) (.tmp 9) (by rfl) (by rfl) RX.out ?_))
   refine (PW.out _).mono ?_
   rintro e w3 ⟨rfl, b3⟩
   have F6 := Lib.hid (E6.out.below b3 E6.out.inHeap)
   have F8 := Lib.hid (E8.out.below b3 E8.out.inHeap)
   have FX := Lib.hid (RX.out.below b3 RX.out.inHeap)
   have B4 := Lib.hid (B3.out.trans (b3.mono B3.out.size))
   clear b3
   have R9 := Lib.hid (F6.out.set Vec.zeros Vec.zeros_len)
   have B9 := Lib.hid (below_kept B4.out (Kept.setRowK _ w.heap.size (vecR Vec.zeros)) (fun i e => by omega))
   go_wp2_with (first | (refine wpList_vload (by rfl) (.tmp 8) (by rfl) (by rfl) F8.out ?_) | (refine wpList_vstore (by rfl) (.tmp 6) (.tmp 33) (by rfl) (by rfl) (by rfl) F6.out Vec.zeros_len ?_))
   refine bodyPost_ret (v := .tuple #[vecA Vec.zeros, .int .i64 6]) ?_ rfl ⟨rfl, B9.out⟩
   rw [results_cell_tmp (by rfl)]
   have hl := run_loadVar_row (P := Try.prog) _ w.heap.size 46 46 _ (0, 0) _ (R9.out).1 Try.underlying46 rfl (vecSize (R9.out).2)
   simp [asAddr, hl, Result.andThen]
theorem pck_GetVec (V : VecOk) (s : List UInt8) (hs : s.length ≤ 140737488355328) (w : World) :
  Calls Try.prog 23 #[.string (mk s)] w fun e w' => e = .returned (.tuple #[vecA (Pck.getVec s).1, .int .i64 (Pck.getVec s).2]) ∧ Below w.heap.size w w' := by
 have hz := vecZero
 have Q6 := Lib.hid (VRow.made w Vec.zeros_len)
 have G0 : Hid (Below w.heap.size w (w.alloc (.cells (vecR Vec.zeros) 46))) := Lib.hid ((Below.refl _ _).alloc (Nat.le_refl _) _)
 have GT := Lib.hid (fun W => pck_get_vec V s hs W)
 have HX := Lib.hid (pck_getVec_len s)
 generalize Pck.getVec s = g at *
 obtain ⟨X, r⟩ := g
 clear hs
 generalize mk s = S at *
 dsimp only at GT HX ⊢
 go_enter Try.func23, Try.ntmps23
 go_wp2_with fail
 refine (GT.out _).mono ?_
 rintro e w1 ⟨rfl, b1⟩
 have A6 := Lib.hid (Q6.out.below b1 Q6.out.inHeap)
 have B1 := Lib.hid (G0.out.trans (b1.mono G0.out.size))
 have R9 := Lib.hid (A6.out.set X HX.out)
 have B9 := Lib.hid (below_kept B1.out (Kept.setRowK _ w.heap.size (vecR X)) (fun i e => by omega))
 clear b1
 go_wp2_with (refine wpList_vstore (by rfl) (.tmp 2) (.tmp 6) (by rfl) (by rfl) (by rfl) A6.out HX.out ?_)
 refine bodyPost_ret (v := .tuple #[vecA X, .int .i64 r]) ?_ rfl ⟨rfl, B9.out⟩
 rw [results_cell_tmp (by rfl)]
 have hl := run_loadVar_row (P := Try.prog) _ w.heap.size 46 46 _ (0, 0) _ (R9.out).1 Try.underlying46 rfl (vecSize (R9.out).2)
 simp [asAddr, hl, Result.andThen]
open Go.RowKit Go.Sort
def Pck.awV : List Int := Vec.ofl [⟨1, 5⟩]
theorem Pck.aw_len : Pck.awV.length = 65 := (Vec.ofl_plain _).1
theorem Pck.aw_put : Pck.putVec Pck.awV = ([1, 2, 1, 5], 0) := by decide +kernel
theorem Pck.aw_get : Pck.getVec [1, 2, 1, 5] = (Pck.awV, 0) := by decide +kernel
theorem Pck.aw_bd : ∀ n ∈ Pck.awV, n ≤ 9223372036854775807 := by decide +kernel
theorem pck_awake (V : VecOk) (w : World) : Calls Try.prog 7 #[] w fun e w' => e = .returned (.bool true) ∧ Below w.heap.size w w' := by
 have hz := vecZero
 have OF : Hid (∀ W : World, Calls Try.prog 31 #[.slice (some ⟨W.heap.size, 0, none⟩) 1 1] (W.alloc (.cells #[.int .i64 1, .int .i64 5] 23)) fun e w' => e = .returned (vecA Pck.awV) ∧ Laid (W.alloc (.cells #[.int .i64 1, .int .i64 5] 23)) w') := Lib.hid (fun W => V.ofl (rows_made (k := 2) (f := verV) W 23 ⟨1, 5⟩) (by decide) (by decide))
 have PV : Hid (∀ W : World, Calls Try.prog 17 #[vecA Pck.awV] W fun e w' => e = .returned (.tuple #[.string ⟨#[1, 2, 1, 5]⟩, .int .i64 0]) ∧ Below W.heap.size W w') := Lib.hid (fun W => by have := pck_PutVec V Pck.aw_len Pck.aw_bd W; rw [Pck.aw_put] at this; exact this)
 have GV : Hid (∀ W : World, Calls Try.prog 23 #[.string ⟨#[1, 2, 1, 5]⟩] W fun e w' => e = .returned (.tuple #[vecA Pck.awV, .int .i64 0]) ∧ Below W.heap.size W w') := Lib.hid (fun W => by have := pck_GetVec V [1, 2, 1, 5] (by decide) W; rw [Pck.aw_get] at this; exact this)
 have HV := Lib.hid Pck.aw_len
 have hE := fun W => vec_eq Pck.aw_len Pck.aw_len W
 rw [decide_eq_true rfl] at hE
 generalize Pck.awV = X at *
 have H0 := Lib.hid (fun W : World => Laid.new W (.cells #[.int .i64 1, .int .i64 5] 23))
 go_enter Try.func7, Try.ntmps7
 go_wp2_with fail
 refine (OF.out _).mono ?_
 rintro e w1 ⟨rfl, h1⟩
 have L1 := Lib.hid ((H0.out w).trans h1)
 have R1 := Lib.hid (VRow.made w1 Vec.zeros_len)
 have R2 := Lib.hid (R1.out.set X HV.out)
 have L2 := Lib.hid ((L1.out.alloc (.cells (vecR Vec.zeros) 46)).set (b := w1.heap.size) L1.out.size (vecR X)).below
 clear h1
 go_wp2_with (first | refine wpList_vstore (by rfl) _ _ (by rfl) (by rfl) (by rfl) R1.out HV.out ?_ | refine wpList_vload (by rfl) _ (by rfl) (by rfl) R2.out ?_)
 refine (PV.out _).mono ?_
 rintro e w3 ⟨rfl, h3⟩
 have R3 := Lib.hid (R2.out.below h3 R2.out.inHeap)
 have L3 := Lib.hid (L2.out.trans (h3.mono L2.out.size))
 clear h3
 go_wp2_with fail
 refine (GV.out _).mono ?_
 rintro e w4 ⟨rfl, h4⟩
 have R4 := Lib.hid (R3.out.below h4 R3.out.inHeap)
 have L4 := Lib.hid (L3.out.trans (h4.mono L3.out.size))
 have hlt : w1.heap.size < w4.heap.size := R4.out.inHeap
 have R5 := Lib.hid (VRow.made w4 Vec.zeros_len)
 have R6 := Lib.hid (R5.out.set X HV.out)
 have R7 := Lib.hid ((R4.out.alloc (.cells (vecR Vec.zeros) 46)).setElsewhere (c := w4.heap.size) (by omega) (vecR X))
 have L6 : Hid (Below w.heap.size w ((w4.alloc (.cells (vecR Vec.zeros) 46)).setRow w4.heap.size (vecR X))) := Lib.hid (below_kept (L4.out.alloc L4.out.size _) (Kept.setRowK _ _ _) (fun i e => by have := L4.out.size; omega))
 clear h4 hlt
 go_wp2_with (first | refine wpList_vstore (by rfl) _ _ (by rfl) (by rfl) (by rfl) R5.out HV.out ?_ | refine wpList_vload (by rfl) (.tmp 4) (by rfl) (by rfl) R6.out ?_ | refine wpList_vload (by rfl) (.tmp 1) (by rfl) (by rfl) R7.out ?_)
 go_ret
 exact ⟨rfl, L6.out⟩
theorem pck_answer (A S : ByteArray) (ea : Int) (may : Bool) (h : (may = true ∧ A = S ∧ ea = 0) ∨ (may = false ∧ A = ⟨#[]⟩ ∧ ea = 2)) (w : World) :
  Calls Try.prog 10 #[.string A, .int .i64 ea, .bool may, .string S] w fun e w' => e = .returned (.bool true) ∧ Below w.heap.size w w' := by
 have hb := Lib.hid (Below.refl w.heap.size w)
 rcases h with ⟨rfl, rfl, rfl⟩ | ⟨rfl, rfl, rfl⟩
 ·have hs : (A.toList == A.toList) = true := by simp
  go_enter Try.func10, Try.ntmps10
  go_wp2_with fail
  go_ret
  exact ⟨rfl, hb.out⟩
 ·go_enter Try.func10, Try.ntmps10
  go_wp2_with fail
  go_ret
  exact ⟨rfl, hb.out⟩
open Go.RowKit Go.Sort
theorem pck_valid_cl (FO : FilterOk) (x : Flt.Cl) (hb : Flt.Bd x) (w : World) :
  Calls Try.prog 102 #[clA x] w fun e w' => e = .returned (.bool (decide (Flt.Right x))) ∧ Below w.heap.size w w' := by
 have C := Lib.hid (fun W F v (h : Cls W F v [x]) => FO.check h (by simp) (by intro c hc; rw [List.mem_singleton.1 hc]; exact hb))
 have ht : (Flt.check [x] == 0) = decide (Flt.Right x) := by
  rw [Bool.eq_iff_iff, beq_iff_eq, decide_eq_true_iff]
  exact Pck.check_one x
 have MD := Lib.hid (fun W => rows_made (k := 3) (f := clV) W 64 x)
 generalize decide (Flt.Right x) = t at *
 generalize Flt.check [x] = r at *
 clear hb
 obtain ⟨p, x1, x2⟩ := x
 unfold clV at MD
 dsimp only [clA] at MD ⊢
 have HB0 := Lib.hid (((Below.refl w.heap.size w).alloc (Nat.le_refl _) (.cells #[.string (mk p), .int .i64 x1, .int .i64 x2] 64)).alloc (by simp) (.cells #[.string (mk p), .int .i64 x1, .int .i64 x2] 64))
 have M0 := Lib.hid (MD.out (w.alloc (.cells #[.string (mk p), .int .i64 x1, .int .i64 x2] 64)))
 rw [World.size_alloc] at M0
 have CC := Lib.hid (C.out _ _ _ M0.out)
 have HT := Lib.hid ht
 clear ht C M0 MD
 generalize mk p = q0 at *
 go_enter Try.func102, Try.ntmps102
 go_wp2_with fail
 refine CC.out.mono ?_
 rintro e w1 ⟨rfl, hb1⟩
 have HB1 := Lib.hid (HB0.out.trans (hb1.mono HB0.out.size))
 clear hb1
 go_wp2_with fail
 go_ret
 exact ⟨by rw [← HT.out]; rfl, HB1.out⟩
theorem pck_all1_cl (FO : FilterOk) (x : Flt.Cl) (hb : Flt.Bd x) {w : World} {q : Nat} (hq : w.cell? ⟨q, 0, none⟩ = some (.func (.func 102) #[] #[])) (hqw : q < w.heap.size) :
  Calls Try.prog 120 #[clA x, .pointer (some ⟨q, 0, none⟩)] w fun e w' => e = .returned (.bool (!decide (Flt.Right x))) ∧ Below w.heap.size w w' := by
 have C := Lib.hid (fun W => pck_valid_cl FO x hb W)
 obtain ⟨t, ht⟩ : ∃ t : Bool, t = decide (Flt.Right x) := ⟨_, rfl⟩
 rw [← ht] at C ⊢
 clear ht hb
 obtain ⟨p, x1, x2⟩ := x
 dsimp only [clA] at C ⊢
 generalize mk p = q0 at *
 have HB0 := Lib.hid ((Below.refl w.heap.size w).alloc (Nat.le_refl _) (.cells #[.string q0, .int .i64 x1, .int .i64 x2] 64))
 have hq1 : (w.alloc (.cells #[.string q0, .int .i64 x1, .int .i64 x2] 64)).cell? ⟨q, 0, none⟩ = _ := (HB0.out.cell (p := ⟨q, 0, none⟩) hqw).trans hq
 clear hqw hq
 go_enter Try.func120, Try.ntmps120
 go_wp2_with fail
 refine (C.out _).mono ?_
 rintro e w1 ⟨rfl, hb1⟩
 have HB1 := Lib.hid (HB0.out.trans (hb1.mono HB0.out.size))
 clear hb1
 go_wp2_with fail
 go_ret
 exact ⟨rfl, HB1.out⟩
theorem pck_idx_cl (FO : FilterOk) {w : World} {F : Nat → Prop} {v : Value} {l : List (Flt.Cl)} {q : Nat} (h : Cls w F v l) (hl : l.length ≤ 1000000) (hb : ∀ x ∈ l, Flt.Bd x) (hq : w.cell? ⟨q, 0, none⟩ = some (.func (.func 102) #[] #[])) (hqw : q < w.heap.size) :
  Calls Try.prog 132 #[v, .func (.func 120) #[] #[.pointer (some ⟨q, 0, none⟩)]] w fun e w' => (∃ k : Int, e = .returned (.int .i64 k) ∧ decide (0 ≤ k) = !decide (∀ x ∈ l, Flt.Right x)) ∧ Below w.heap.size w w' := by
 obtain ⟨A, cap, rfl, hcap⟩ := h.parts
 have H := Lib.hid h
 have hl' : (l.length : Int) ≤ 1000000 := by omega
 have P1 := Lib.hid (fun (x : Flt.Cl) (hx : x ∈ l) (W : World) (hW : Below w.heap.size w W) => pck_all1_cl FO x (hb x hx) (w := W) (q := q) ((hW.cell (p := ⟨q, 0, none⟩) hqw).trans hq) (Nat.lt_of_lt_of_le hqw hW.size))
 clear h hb hq hqw
 go_enter Try.func132, Try.ntmps132
 go_wp2_with fail
 go_loopw [8] (fun i wr => ∃ n : Nat, n ≤ l.length ∧ i = .int .i64 (n : Int) ∧ Hid (∀ x ∈ l.take n, Flt.Right x) ∧ Below w.heap.size w wr) (fun i _ => l.length - (intOf i).toNat)
 case atStart => exact ⟨0, Nat.zero_le _, rfl, Lib.hid (by simp), Below.refl _ _⟩
 case round =>
  obtain ⟨n, hn, rfl, hall, hbel⟩ := hrel
  by_cases hlt : n < l.length
  ·obtain ⟨b, o, cap1, e, -, -, hb⟩ := H.out.block (by omega)
   injection e with e1 e2 e3
   subst e1 e3
   clear e2
   obtain ⟨x, hx⟩ : ∃ x, l[n]? = some x := ⟨_, List.getElem?_eq_getElem hlt⟩
   obtain ⟨d0, d1, d2⟩ := Cls.at (Rws.below H.out hbel) hx
   have hn0 : (0 : Int) ≤ (n : Int) := by omega
   have hn1 : (n : Int) < (l.length : Int) := by omega
   have PX := P1.out x (List.mem_of_getElem? hx) wr hbel
   have HBL := Lib.hid hbel
   have Hlt := Lib.hid hlt
   clear hb hlt hn hbel
   by_cases hr : Flt.Right x
   ·rw [decide_eq_true hr] at PX
    have hnext : Hid (∀ y ∈ l.take (n + 1), Flt.Right y) := Lib.hid (by
     obtain ⟨h1, e1⟩ := List.getElem?_eq_some_iff.1 hx
     intro y hy
     rw [List.take_succ_eq_append_getElem h1, e1] at hy
     rcases List.mem_append.1 hy with hy | hy
     ·exact hall.out y hy
     ·rw [List.mem_singleton.1 hy]; exact hr)
    replace PX := Lib.hid PX
    clear hx hr hall
    obtain ⟨p, x1, x2⟩ := x
    dsimp only [clA] at PX d0 d1 d2
    generalize mk p = q0 at *
    go_wp2_with fail
    refine (PX.out).mono ?_
    rintro e w1 ⟨rfl, hb1⟩
    have HB1 := Lib.hid (HBL.out.trans (hb1.mono HBL.out.size))
    clear hb1
    go_wp2_with fail
    go_roundw
    case rel => exact ⟨n + 1, by have := Hlt.out; omega, by go_num, hnext, HB1.out⟩
    case measure => (have := Hlt.out; simp [intOf]; omega)
   ·rw [decide_eq_false hr] at PX
    have hno : Hid (¬ ∀ y ∈ l, Flt.Right y) := Lib.hid (fun h => hr (h x (List.mem_of_getElem? hx)))
    replace PX := Lib.hid PX
    clear hx hr hall
    obtain ⟨p, x1, x2⟩ := x
    dsimp only [clA] at PX d0 d1 d2
    generalize mk p = q0 at *
    go_wp2_with fail
    refine (PX.out).mono ?_
    rintro e w1 ⟨rfl, hb1⟩
    have HB1 := Lib.hid (HBL.out.trans (hb1.mono HBL.out.size))
    clear hb1
    go_wp2_with fail
    go_ret
    exact ⟨⟨_, rfl, by rw [decide_eq_false hno.out]; simp⟩, HB1.out⟩
  ·obtain rfl : n = l.length := by omega
   have hyes : Hid (∀ y ∈ l, Flt.Right y) := Lib.hid (by have := hall.out; rwa [List.take_length] at this)
   have HBL := Lib.hid hbel
   clear hall hbel
   go_wp2_with fail
   go_ret
   exact ⟨⟨_, rfl, by rw [decide_eq_true hyes.out]; rfl⟩, HBL.out⟩
theorem pck_all_cl (FO : FilterOk) {w : World} {F : Nat → Prop} {v : Value} {l : List (Flt.Cl)} (h : Cls w F v l) (hl : l.length ≤ 1000000) (hb : ∀ x ∈ l, Flt.Bd x) :
  Calls Try.prog 101 #[v, .func (.func 102) #[] #[]] w fun e w' => e = .returned (.bool (decide (∀ x ∈ l, Flt.Right x))) ∧ Below w.heap.size w w' := by
 have HB0 := Lib.hid ((Below.refl w.heap.size w).alloc (Nat.le_refl _) (.cells #[.func (.func 102) #[] #[]] 106))
 have RB := Row.made w 106 #[.func (.func 102) #[] #[]]
 have IX : Hid (Calls Try.prog 119 #[v, .func (.func 120) #[] #[.pointer (some ⟨w.heap.size, 0, none⟩)]] (w.alloc (.cells #[.func (.func 102) #[] #[]] 106)) fun e w' => e = .returned (.bool (!decide (∀ x ∈ l, Flt.Right x))) ∧ Below (w.alloc (.cells #[.func (.func 102) #[] #[]] 106)).heap.size (w.alloc (.cells #[.func (.func 102) #[] #[]] 106)) w') := Lib.hid (by
  have IX0 := pck_idx_cl FO (Rws.below h ((Below.refl _ _).alloc (Nat.le_refl _) (.cells #[.func (.func 102) #[] #[]] 106))) hl hb (RB.at 0) RB.inHeap
  generalize (!decide (∀ x ∈ l, Flt.Right x)) = t at *
  replace IX0 := Lib.hid IX0
  obtain ⟨A, cap, rfl, hcap⟩ := h.parts
  clear h hb RB HB0
  generalize w.alloc (.cells #[.func (.func 102) #[] #[]] 106) = W at *
  generalize w.heap.size = q at *
  go_enter Try.func119, Try.ntmps119
  go_wp2_with fail
  refine (IX0.out).mono ?_
  rintro e w1 ⟨⟨k, rfl, hk⟩, hb1⟩
  have HK := Lib.hid hk
  have HB1 := Lib.hid hb1
  clear hb1
  go_wp2_with fail
  go_ret
  exact ⟨by rw [← HK.out]; rfl, HB1.out⟩)
 generalize decide (∀ x ∈ l, Flt.Right x) = t at *
 clear h hb RB
 go_enter Try.func101, Try.ntmps101
 go_wp2_with fail
 refine IX.out.mono ?_
 rintro e w1 ⟨rfl, hb1⟩
 have HB1 := Lib.hid (HB0.out.trans (hb1.mono HB0.out.size))
 clear hb1
 go_wp2_with fail
 go_ret
 exact ⟨by first | rfl | rw [Bool.not_not], HB1.out⟩
theorem pck_validFilter (FO : FilterOk) {w : World} {F : Nat → Prop} {v : Value} {f : List Flt.Cl} (h : Cls w F v f) (hl : f.length ≤ 100000) (hb : ∀ x ∈ f, Flt.Bd x) :
  Calls Try.prog 63 #[v] w fun e w' => e = .returned (.bool (decide (Pck.OkFlt f))) ∧ Below w.heap.size w w' := by
 have AL := Lib.hid (pck_all_cl FO h (by omega) hb)
 obtain ⟨A, cap, rfl, hcap⟩ := h.parts
 have hl' : (f.length : Int) ≤ 100000 := by omega
 by_cases h64 : f.length ≤ 64
 ·have hd : decide ((f.length : Int) ≤ 64) = true := decide_eq_true (by omega)
  have hE : decide (∀ x ∈ f, Flt.Right x) = decide (Pck.OkFlt f) := by rw [decide_eq_decide]; exact ⟨fun h => ⟨h64, h⟩, fun h => h.2⟩
  rw [hE] at AL
  generalize decide (Pck.OkFlt f) = t at *
  clear h hl hb h64 hE
  go_enter Try.func63, Try.ntmps63
  go_wp2_with fail
  refine AL.out.mono ?_
  rintro e w1 ⟨rfl, h1⟩
  have B1 := Lib.hid h1
  clear h1
  go_wp2_with fail
  go_ret
  exact ⟨rfl, B1.out⟩
 ·have hd : decide ((f.length : Int) ≤ 64) = false := decide_eq_false (by omega)
  have hE : decide (Pck.OkFlt f) = false := decide_eq_false (fun h => h64 h.1)
  rw [hE]
  have hB := Lib.hid (Below.refl w.heap.size w)
  clear h hl hb h64 hE AL
  go_enter Try.func63, Try.ntmps63
  go_wp2_with fail
  go_ret
  exact ⟨rfl, hB.out⟩
open Go.RowKit Go.Sort
theorem pck_put_flt {w : World} {F : Nat → Prop} {v : Value} {l : List Flt.Cl} {c2 : Nat} (h : Cls w F v l) (hl : l.length ≤ 65536) (hc2 : w.cell? ⟨c2, 0, none⟩ = some (.func (.func 65) #[] #[])) (hcw : c2 < w.heap.size) :
  Calls Try.prog 62 #[v, .bool (decide (Pck.OkFlt l)), .func (.func 103) #[] #[.pointer (some ⟨c2, 0, none⟩)]] w fun e w' => e = .returned (.tuple #[.string (mk (Pck.putOf (Pck.OkFlt l) (Pck.flt l)).1), .int .i64 (Pck.putOf (Pck.OkFlt l) (Pck.flt l)).2]) ∧ Below w.heap.size w w' := by
 by_cases hok : Pck.OkFlt l
 ·rw [decide_eq_true hok, Pck.putOf_true hok]
  dsimp only
  have E0 : Hid (ErrAt (w.alloc (.cells #[.int .i64 0] 32)) (w.heap.size) true) := Lib.hid (by
   have := Row.made w 32 #[.int .i64 0]
   exact this)
  have hA : Below w.heap.size w (w.alloc (.cells #[.int .i64 0] 32)) := (Below.refl _ _).alloc (Nat.le_refl _) _
  have LW0 : Calls _ _ _ _ (PutTo _ _ true (Pck.flt l)) := pck_lay_cls lays_flt E0.out (Rws.below h.lt hA) (fun i hi e => by have := hi.2; omega) ((hA.cell (p := ⟨c2, 0, none⟩) hcw).trans hc2) (by omega) hl hok.2
  have G0 : Hid (Below w.heap.size w (w.alloc (.cells #[.int .i64 0] 32))) := Lib.hid ((Below.refl _ _).alloc (Nat.le_refl _) _)
  have LL := Lib.hid LW0
  unfold PutTo at LL
  generalize Pck.flt l = enc at *
  clear hA LW0 E0 hok h hl hc2 hcw
  have HT : Hid (Pck.bsTo true enc = Pck.bsTo true enc) := Lib.hid rfl
  generalize Pck.okTo true enc = oo at *
  generalize hbs : mk (Pck.bsTo true enc) = B at *
  clear hbs HT
  obtain ⟨r, hr⟩ : ∃ r : Int, (if oo then (0 : Int) else 4) = r := ⟨_, rfl⟩
  rw [hr]
  have HR := Lib.hid hr
  clear hr
  go_enter Try.func62, Try.ntmps62
  go_wp2_with fail
  refine LL.out.mono ?_
  rintro e w1 ⟨rfl, h1, h2⟩
  have c1 : w1.cell? ⟨w.heap.size, 0, none⟩ = some (.int .i64 r) := by rw [← HR.out]; exact Row.at h1 0
  have B1 := Lib.hid (gb_out G0.out h2 (by omega))
  clear h1 h2 HR
  go_wp2_with fail
  go_quiet (fail)
  go_wp2_with fail
  go_ret2
  exact ⟨rfl, below_drawsN B1.out _⟩
 ·rw [decide_eq_false hok, Pck.put_bad hok]
  dsimp only
  have G0 : Hid (Below w.heap.size w w) := Lib.hid (Below.refl _ _)
  clear hok h hl hc2 hcw
  go_enter Try.func62, Try.ntmps62
  go_wp2_with fail
  go_ret2
  exact ⟨rfl, G0.out⟩
end Go.Proofs.Ytmpajhjfnfcdlaa
