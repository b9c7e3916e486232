import Derived.Test.YtpafpegcodempaaCom9
import Derived.Test.YtpafpegcodempaaCom4
import Derived.Test.YtpafpegcodempaaCom1
import Derived.OwnWalk
import Derived.Lib.Hide
import Derived.Laws.BitsAllLaws
set_option maxRecDepth 100000
set_option linter.all false
set_option maxHeartbeats 12800000
namespace Go.Proofs.Ytpafpegcodempaa
open Go.RowKit Go.Sort
theorem pck_nnbd {v : Ver.V} (h : Pck.NnV v) : Ver.Bd v := ⟨⟨by have := h.1.1; omega, h.1.2⟩, ⟨by have := h.2.1; omega, h.2.2⟩⟩
theorem pck_fold_bd : ∀ (l : List Ver.V) (v : List Int), (∀ x ∈ l, Ver.Bd x) → (∀ n ∈ v, Ver.I64 n) → ∀ n ∈ l.foldl Vec.up v, Ver.I64 n
 | [], v, _, hv => hv
 | x :: l, v, hl, hv => by
  refine pck_fold_bd l (Vec.up v x) (fun y hy => hl y (List.mem_cons_of_mem _ hy)) ?_
  intro n hn
  unfold Vec.up at hn
  split at hn
  ·rcases List.mem_or_eq_of_mem_set hn with h | h
   ·exact hv n h
   ·rw [h]; exact (hl x (by simp)).2
  ·exact hv n hn
theorem pck_rdVec_bd (l : List UInt8) (e : Int) : ∀ n ∈ (Pck.rdVec l e).1, Ver.I64 n :=
 pck_fold_bd _ _ (fun x hx => pck_nnbd (Pck.rdVers_nn l e x hx)) (fun n hn => by rw [(List.mem_replicate.1 hn).2]; exact ⟨by decide, by decide⟩)
theorem pck_vec (V : VecOk) {w : World} {b : Nat} {l : List UInt8} {e : Int} (h : RdL w b l e) (hm : l.length ≤ 100000) :
  Calls Try.prog 30 #[.pointer (some ⟨b, 0, none⟩)] w fun ed w' => ed = .returned (vecA (Pck.rdVec l e).1) ∧ RdL w' b (Pck.rdVec l e).2.1 (Pck.rdVec l e).2.2 ∧ w.grownBy w' (some b) := by
 have hz := vecZero
 have hbw := Lib.hid (Row.inHeap h)
 have Q2 := Lib.hid (VRow.made w Vec.zeros_len)
 have D0 : Hid (RdL (w.alloc (.cells (vecR Vec.zeros) 23)) b l e) := Lib.hid (Row.behindNew h _)
 have G0 := Lib.hid (gb_new (gb_refl w (some b)) (.cells (vecR Vec.zeros) 23))
 have LI := Lib.hid (fun W => pck_rlist_ver W)
 have LL := Lib.hid (fun (W : World) (c2 : Nat) (h1 : RdL W b l e) (h2 : W.cell? ⟨c2, 0, none⟩ = _) (h3 : c2 ≠ b) => pck_list_ver h1 h2 h3 hm)
 have HO : Hid (∀ (W : World) (F : Nat → Prop) (v : Value), Vrs W F v (Pck.rdVers l e).1 → _) := Lib.hid (fun W F v h1 => V.ofl h1 (by have := Pck.rdVers_len l e; omega) (fun x hx => pck_nnbd (Pck.rdVers_nn l e x hx)))
 have HX := Lib.hid (Pck.rdVec_plain l e).1
 rw [show Pck.list Pck.rdVer l e = Pck.rdVers l e from rfl] at LL
 have hR : Pck.rdVec l e = (Vec.ofl (Pck.rdVers l e).1, (Pck.rdVers l e).2) := rfl
 rw [hR] at HX ⊢
 clear h hm hR
 generalize Pck.rdVers l e = rr at *
 obtain ⟨xs, l1, e1⟩ := rr
 dsimp only at LL HO HX ⊢
 generalize Vec.ofl xs = X at *
 go_enter Try.func30, Try.ntmps30
 go_wp2_with fail
 refine (LI.out _).mono ?_
 rintro ed w1 ⟨c2, rfl, h1, b1⟩
 have hne : c2 ≠ b := fun e => by
  have h2 := Row.below D0.out b1 (Row.inHeap D0.out)
  rw [e] at h1
  have h3 : (Obj.cells #[.func (.func 33) #[] #[]] 61 (0, 0)) = Obj.cells #[.string ⟨l.toArray⟩, .int .i64 _] 90 (0, 0) := Option.some.inj ((show w1.heap[b]? = _ from h1).symm.trans (show w1.heap[b]? = _ from h2))
  injection h3 with _ h4
  exact absurd h4 (by decide)
 have HN := Lib.hid hne
 have C1 := Lib.hid h1
 have D1 : Hid (RdL w1 b l e) := Lib.hid (Row.below D0.out b1 (Row.inHeap D0.out))
 have Q3 := Lib.hid (Q2.out.below b1 Q2.out.inHeap)
 have G1 := Lib.hid (gb_trans G0.out (gb_below b1 _))
 clear h1 b1 hne
 go_wp2_with fail
 refine (LL.out _ _ D1.out (C1.out.at 0) HN.out).mono ?_
 rintro ed w2 ⟨v, rfl, h2, h3, g2⟩
 have U2 := Lib.hid h2
 have D2 := Lib.hid h3
 have Q4 : Hid (VRow w2 w.heap.size Vec.zeros) := Lib.hid ⟨Q3.out.1.grown g2 (fun e => by have := hbw.out; injection e with e; omega), Vec.zeros_len⟩
 have G2 := Lib.hid (gb_trans G1.out g2)
 clear h2 h3 g2
 go_wp2_with fail
 refine (HO.out _ _ _ U2.out).mono ?_
 rintro ed w3 ⟨rfl, h4⟩
 have Q5 := Lib.hid (Q4.out.below h4.below Q4.out.inHeap)
 have D3 : Hid (RdL w3 b l1 e1) := Lib.hid (Row.below D2.out h4.below (Row.inHeap D2.out))
 have G3 := Lib.hid (gb_trans G2.out (gb_below h4.below _))
 have R9 := Lib.hid (Q5.out.set X HX.out)
 have D9 : Hid (RdL (w3.setRow w.heap.size (vecR X)) b l1 e1) := Lib.hid (Row.kept D3.out (Kept.setRowK _ _ _) (fun e => by have := hbw.out; omega))
 have G9 := Lib.hid (gb_kept G3.out (Kept.setRowK _ w.heap.size (vecR X)) (fun i e => by omega))
 clear h4
 go_wp2_with (refine wpList_vstore (by rfl) (.tmp 2) (.tmp 6) (by rfl) (by rfl) (by rfl) Q5.out HX.out ?_)
 exact bodyPost_ret (v := vecA X) (results_cell_row (by rfl) _ _ w.heap.size 23 _ (0, 0) _ (by rfl) R9.out.1 Try.underlying23 rfl (vecSize HX.out)) rfl ⟨rfl, D9.out, G9.out⟩
theorem pck_vec_le (s : List UInt8) : ∀ n ∈ (Pck.rdVec s 0).1, n ≤ 9223372036854775807 := fun n hn => (pck_rdVec_bd s 0 n hn).2
theorem pck_getVec_len (s : List UInt8) : (Pck.getVec s).1.length = 65 := by
 unfold Pck.getVec Pck.getOf
 split
 ·exact Vec.zeros_len
 ·split
  ·exact (Pck.rdVec_plain s 0).1
  ·exact Vec.zeros_len
theorem pck_PutVec (V : VecOk) {v : List Int} (hv : v.length = 65) (hb : ∀ n ∈ v, n ≤ 9223372036854775807) (w : World) :
  Calls Try.prog 5 #[vecA v] w fun e w' => e = .returned (.tuple #[.string (mk (Pck.putVec v).1), .int .i64 (Pck.putVec v).2]) ∧ Below w.heap.size w w' := by
 have CK := Lib.hid (fun W => pck_validVec V hv W)
 have PP := Lib.hid (fun W => pck_put_vec V hv hb W)
 rw [show Pck.putOf (Pck.OkVec v) (Pck.vec v) = Pck.putVec v from rfl] at PP
 have HR : Hid ((Pck.putVec v) = _) := Lib.hid rfl
 generalize hres : (Pck.putVec v) = res at *
 clear HR hres
 generalize decide (Pck.OkVec v) = t at *
 obtain ⟨rb, re⟩ := res
 dsimp only at *
 generalize mk rb = B at *
 have RB := Lib.hid (VRow.made w hv)
 clear hv hb V
 have G0 : Hid (Below w.heap.size w (w.alloc (.cells (vecR v) 23))) := Lib.hid ((Below.refl _ _).alloc (Nat.le_refl _) _)
 go_enter Try.func5, Try.ntmps5
 go_wp2_with fail
 refine wp_region_held_drew (S := (Below (w.alloc (.cells (vecR v) 23)).heap.size (w.alloc (.cells (vecR v) 23)))) (by kernel_rfl) (Below.drew (Below.refl _ _)) (fun hHeld => ?_)
 refine wpAnyH_tk (i := 0) (v := vecA v) rfl (Or.inl ⟨by rfl, (by intro w hSw; exact exec_vload (by rfl) (by rfl) (RB.out.below hSw RB.out.inHeap))⟩) (by assumption) ?_
 simp only [zz]
 refine wpAnyH_tk (i := 1) (v := vecA v) rfl (Or.inl ⟨by rfl, (by intro w hSw; exact exec_vload (by rfl) (by rfl) (RB.out.below hSw RB.out.inHeap))⟩) (by assumption) ?_
 simp only [zz]
 refine wpAnyH_ready (rs := [2]) (by kernel_rfl) (by simp) ?_
 refine AllReadyH.cons rfl (fun K hK => ?_) AllReadyH.nil
 go_simp
 go_at_call 17
 refine (CK.out _).mono ?_
 rintro e w1 ⟨rfl, hb⟩
 have B1 := Lib.hid (hHeld.trans (hb.mono hHeld.size))
 refine hK.out _ _ B1.out (fun hHeld => ?_)
 clear hb
 clear hK K
 refine wpAnyH_ready (rs := [3]) (by kernel_rfl) (by simp) ?_
 refine AllReadyH.cons rfl (fun K hK => ?_) AllReadyH.nil
 go_simp
 go_at_call 16
 refine (PP.out _).mono ?_
 rintro e w2 ⟨rfl, hb⟩
 have B2 := Lib.hid (hHeld.trans (hb.mono hHeld.size))
 refine hK.out _ _ B2.out (fun hHeld => ?_)
 clear hb
 clear hK K
 refine wpAnyH_td (i := 4) rfl ?_
 simp only [zz]
 refine wpAnyH_td (i := 5) rfl ?_
 simp only [zz]
 refine wpAnyH_td (i := 6) rfl ?_
 simp only [zz]
 refine wpAnyH_td (i := 7) rfl ?_
 simp only [zz]
 refine wpAnyH_done (by kernel_rfl) ?_ _
 go_wp2_with fail
 go_ret2
 exact ⟨rfl, G0.out.trans (B2.out.mono G0.out.size)⟩
theorem pck_get_vec (V : VecOk) (s : List UInt8) (hs : s.length ≤ 140737488355328) (w : World) :
  Calls Try.prog 29 #[.string (mk s), .func (.func 30) #[] #[], .func (.func 5) #[] #[]] w fun e w' => e = .returned (.tuple #[vecA (Pck.getVec s).1, .int .i64 (Pck.getVec s).2]) ∧ Below w.heap.size w w' := by
 have hz := vecZero
 have Q6 : Hid (VRow ((w.alloc (.cells (vecR Vec.zeros) 23)).alloc (.cells (vecR Vec.zeros) 23)) w.heap.size Vec.zeros) := Lib.hid ((VRow.made w Vec.zeros_len).alloc _)
 have Q8 : Hid (VRow ((w.alloc (.cells (vecR Vec.zeros) 23)).alloc (.cells (vecR Vec.zeros) 23)) (w.heap.size + 1) Vec.zeros) := Lib.hid (by have := VRow.made (w.alloc (.cells (vecR Vec.zeros) 23)) Vec.zeros_len; rwa [World.size_alloc] at this)
 have G0 : Hid (Below w.heap.size w ((w.alloc (.cells (vecR Vec.zeros) 23)).alloc (.cells (vecR Vec.zeros) 23))) := Lib.hid (((Below.refl _ _).alloc (Nat.le_refl _) _).alloc (by simp) _)
 by_cases hbig : 65536 < s.length
 ·have hE : Pck.getVec s = (Vec.zeros, 6) := if_pos hbig
  have hsz : decide ((65536 : Int) < ((mk s).size : Int)) = true := decide_eq_true (by rw [mk_len]; omega)
  rw [hE]
  clear hE hbig hs
  generalize mk s = S at *
  have R9 := Lib.hid (Q6.out.set Vec.zeros Vec.zeros_len)
  have B9 := Lib.hid (below_kept G0.out (Kept.setRowK _ w.heap.size (vecR Vec.zeros)) (fun i e => by omega))
  go_enter Try.func29, Try.ntmps29
  go_wp2_with (first | (refine wpList_vload (by rfl) (.tmp 8) (by rfl) (by rfl) Q8.out ?_) | (refine wpList_vstore (by rfl) (.tmp 6) (.tmp 15) (by rfl) (by rfl) (by rfl) Q6.out Vec.zeros_len ?_))
  refine bodyPost_ret (v := .tuple #[vecA Vec.zeros, .int .i64 6]) ?_ rfl ⟨rfl, B9.out⟩
  rw [results_cell_tmp (by rfl)]
  have hl := run_loadVar_row (P := Try.prog) _ w.heap.size 23 23 _ (0, 0) _ (R9.out).1 Try.underlying23 rfl (vecSize (R9.out).2)
  simp [asAddr, hl, Result.andThen]
 ·have hsz : decide ((65536 : Int) < ((mk s).size : Int)) = false := decide_eq_false (by rw [mk_len]; omega)
  have hsl : s.length ≤ 65536 := by omega
  have OV := Lib.hid (fun W => pck_over s W)
  have RD := Lib.hid (fun (W : World) (p : Nat) (h : RdL W p s 0) => pck_vec V h (by omega))
  have PW := Lib.hid (fun W => pck_PutVec V (Pck.rdVec_plain s 0).1 (pck_vec_le s) W)
  have HX := Lib.hid (Pck.rdVec_plain s 0).1
  have hG : Pck.getVec s = if (Pck.putVec (Pck.rdVec s 0).1).2 = 0 ∧ (Pck.putVec (Pck.rdVec s 0).1).1 = s then ((Pck.rdVec s 0).1, 0) else (Vec.zeros, 6) := if_neg hbig
  generalize Pck.putVec (Pck.rdVec s 0).1 = pp at *
  generalize Pck.rdVec s 0 = rr at *
  obtain ⟨X, lr, er⟩ := rr
  obtain ⟨ab, r⟩ := pp
  dsimp only at hG RD PW HX
  have hS : (((mk ab).toList == (mk s).toList) = decide (ab = s)) := by
   rw [Lib.toList_data, Lib.toList_data, mk_data, mk_data]
   rw [Bool.eq_iff_iff, beq_iff_eq, decide_eq_true_iff]
  have hS2 : (((mk ab).toList != (mk s).toList) = !decide (ab = s)) := by
   unfold bne
   rw [hS]
  by_cases hr0 : r = 0
  ·by_cases hab : ab = s
   ·rw [if_pos ⟨hr0, hab⟩] at hG
    rw [hG]
    rw [decide_eq_true hab] at hS hS2
    have hrr : (r != 0) = false := by rw [hr0]; rfl
    clear hG hr0 hab hbig hs hsl
    rw [Bool.not_true] at hS2
    generalize mk ab = AB at *
    generalize mk s = S at *
    go_enter Try.func29, Try.ntmps29
    go_wp2_with fail
    refine (OV.out _).mono ?_
    rintro e w1 ⟨p, rfl, h1, hp, b1⟩
    have HP : Hid (w.heap.size + 1 + 1 ≤ p) := Lib.hid (by simpa using hp)
    have A6 := Lib.hid (Q6.out.below b1 Q6.out.inHeap)
    have A8 := Lib.hid (Q8.out.below b1 Q8.out.inHeap)
    have D1 := Lib.hid h1
    have B1 := Lib.hid (G0.out.trans (b1.mono G0.out.size))
    clear h1 b1 hp
    go_wp2_with fail
    refine (RD.out _ _ D1.out).mono ?_
    rintro e w2 ⟨rfl, h2, g2⟩
    have C6 : Hid (VRow w2 w.heap.size Vec.zeros) := Lib.hid ⟨A6.out.1.grown g2 (fun e => by have := HP.out; injection e with e; omega), Vec.zeros_len⟩
    have C8 : Hid (VRow w2 (w.heap.size + 1) Vec.zeros) := Lib.hid ⟨A8.out.1.grown g2 (fun e => by have := HP.out; injection e with e; omega), Vec.zeros_len⟩
    have B2 := Lib.hid (gb_out B1.out g2 (by have := HP.out; omega))
    have hs2 : w.heap.size + 1 < w2.heap.size := C8.out.inHeap
    have HS2 := Lib.hid hs2
    clear h2 g2 hs2
    have RZ := Lib.hid (VRow.made w2 Vec.zeros_len)
    have RX := Lib.hid (RZ.out.set X HX.out)
    have E6 := Lib.hid ((C6.out.alloc (.cells (vecR Vec.zeros) 23)).setElsewhere (c := w2.heap.size) (by have := HS2.out; omega) (vecR X))
    have E8 := Lib.hid ((C8.out.alloc (.cells (vecR Vec.zeros) 23)).setElsewhere (c := w2.heap.size) (by have := HS2.out; omega) (vecR X))
    have B3 : Hid (Below w.heap.size w ((w2.alloc (.cells (vecR Vec.zeros) 23)).setRow w2.heap.size (vecR X))) := Lib.hid (below_kept (B2.out.alloc B2.out.size _) (Kept.setRowK _ _ _) (fun i e => by have := HS2.out; omega))
    go_wp2_with (first | (refine wpList_vstore (by rfl) (.tmp 9) (.tmp 19) (by rfl) (by rfl) (by rfl) RZ.out HX.out ?_) | (refine wpList_vload (by rfl) (.tmp 9) (by rfl) (by rfl) RX.out ?_))
    refine (PW.out _).mono ?_
    rintro e w3 ⟨rfl, b3⟩
    have F6 := Lib.hid (E6.out.below b3 E6.out.inHeap)
    have F8 := Lib.hid (E8.out.below b3 E8.out.inHeap)
    have FX := Lib.hid (RX.out.below b3 RX.out.inHeap)
    have B4 := Lib.hid (B3.out.trans (b3.mono B3.out.size))
    clear b3
    have R9 := Lib.hid (F6.out.set X HX.out)
    have B9 := Lib.hid (below_kept B4.out (Kept.setRowK _ w.heap.size (vecR X)) (fun i e => by omega))
    go_wp2_with (first | (refine wpList_vload (by rfl) (.tmp 9) (by rfl) (by rfl) FX.out ?_) | (refine wpList_vstore (by rfl) (.tmp 6) (.tmp 34) (by rfl) (by rfl) (by rfl) F6.out HX.out ?_))
    refine bodyPost_ret (v := .tuple #[vecA X, .int .i64 0]) ?_ rfl ⟨rfl, B9.out⟩
    rw [results_cell_tmp (by rfl)]
    have hl := run_loadVar_row (P := Try.prog) _ w.heap.size 23 23 _ (0, 0) _ (R9.out).1 Try.underlying23 rfl (vecSize (R9.out).2)
    simp [asAddr, hl, Result.andThen]
   ·rw [if_neg (fun h => hab h.2)] at hG
    rw [hG]
    rw [decide_eq_false hab] at hS hS2
    have hrr : (r != 0) = false := by rw [hr0]; rfl
    clear hG hr0 hab hbig hs hsl
    rw [Bool.not_false] at hS2
    generalize mk ab = AB at *
    generalize mk s = S at *
    go_enter Try.func29, Try.ntmps29
    go_wp2_with fail
    refine (OV.out _).mono ?_
    rintro e w1 ⟨p, rfl, h1, hp, b1⟩
    have HP : Hid (w.heap.size + 1 + 1 ≤ p) := Lib.hid (by simpa using hp)
    have A6 := Lib.hid (Q6.out.below b1 Q6.out.inHeap)
    have A8 := Lib.hid (Q8.out.below b1 Q8.out.inHeap)
    have D1 := Lib.hid h1
    have B1 := Lib.hid (G0.out.trans (b1.mono G0.out.size))
    clear h1 b1 hp
    go_wp2_with fail
    refine (RD.out _ _ D1.out).mono ?_
    rintro e w2 ⟨rfl, h2, g2⟩
    have C6 : Hid (VRow w2 w.heap.size Vec.zeros) := Lib.hid ⟨A6.out.1.grown g2 (fun e => by have := HP.out; injection e with e; omega), Vec.zeros_len⟩
    have C8 : Hid (VRow w2 (w.heap.size + 1) Vec.zeros) := Lib.hid ⟨A8.out.1.grown g2 (fun e => by have := HP.out; injection e with e; omega), Vec.zeros_len⟩
    have B2 := Lib.hid (gb_out B1.out g2 (by have := HP.out; omega))
    have hs2 : w.heap.size + 1 < w2.heap.size := C8.out.inHeap
    have HS2 := Lib.hid hs2
    clear h2 g2 hs2
    have RZ := Lib.hid (VRow.made w2 Vec.zeros_len)
    have RX := Lib.hid (RZ.out.set X HX.out)
    have E6 := Lib.hid ((C6.out.alloc (.cells (vecR Vec.zeros) 23)).setElsewhere (c := w2.heap.size) (by have := HS2.out; omega) (vecR X))
    have E8 := Lib.hid ((C8.out.alloc (.cells (vecR Vec.zeros) 23)).setElsewhere (c := w2.heap.size) (by have := HS2.out; omega) (vecR X))
    have B3 : Hid (Below w.heap.size w ((w2.alloc (.cells (vecR Vec.zeros) 23)).setRow w2.heap.size (vecR X))) := Lib.hid (below_kept (B2.out.alloc B2.out.size _) (Kept.setRowK _ _ _) (fun i e => by have := HS2.out; omega))
    go_wp2_with (first | (refine wpList_vstore (by rfl) (.tmp 9) (.tmp 19) (by rfl) (by rfl) (by rfl) RZ.out HX.out ?_) | (refine wpList_vload (by rfl) (.tmp 9) (by rfl) (by rfl) RX.out ?_))
    refine (PW.out _).mono ?_
    rintro e w3 ⟨rfl, b3⟩
    have F6 := Lib.hid (E6.out.below b3 E6.out.inHeap)
    have F8 := Lib.hid (E8.out.below b3 E8.out.inHeap)
    have FX := Lib.hid (RX.out.below b3 RX.out.inHeap)
    have B4 := Lib.hid (B3.out.trans (b3.mono B3.out.size))
    clear b3
    have R9 := Lib.hid (F6.out.set Vec.zeros Vec.zeros_len)
    have B9 := Lib.hid (below_kept B4.out (Kept.setRowK _ w.heap.size (vecR Vec.zeros)) (fun i e => by omega))
    go_wp2_with (first | (refine wpList_vload (by rfl) (.tmp 8) (by rfl) (by rfl) F8.out ?_) | (refine wpList_vstore (by rfl) (.tmp 6) (.tmp 33) (by rfl) (by rfl) (by rfl) F6.out Vec.zeros_len ?_))
    refine bodyPost_ret (v := .tuple #[vecA Vec.zeros, .int .i64 6]) ?_ rfl ⟨rfl, B9.out⟩
    rw [results_cell_tmp (by rfl)]
    have hl := run_loadVar_row (P := Try.prog) _ w.heap.size 23 23 _ (0, 0) _ (R9.out).1 Try.underlying23 rfl (vecSize (R9.out).2)
    simp [asAddr, hl, Result.andThen]
  ·rw [if_neg (fun h => hr0 h.1)] at hG
   rw [hG]
   have hrr : (r != 0) = true := by simpa using hr0
   clear hG hr0 hbig hs hsl hS hS2
   generalize mk ab = AB at *
   generalize mk s = S at *
   go_enter Try.func29, Try.ntmps29
   go_wp2_with fail
   refine (OV.out _).mono ?_
   rintro e w1 ⟨p, rfl, h1, hp, b1⟩
   have HP : Hid (w.heap.size + 1 + 1 ≤ p) := Lib.hid (by simpa using hp)
   have A6 := Lib.hid (Q6.out.below b1 Q6.out.inHeap)
   have A8 := Lib.hid (Q8.out.below b1 Q8.out.inHeap)
   have D1 := Lib.hid h1
   have B1 := Lib.hid (G0.out.trans (b1.mono G0.out.size))
   clear h1 b1 hp
   go_wp2_with fail
   refine (RD.out _ _ D1.out).mono ?_
   rintro e w2 ⟨rfl, h2, g2⟩
   have C6 : Hid (VRow w2 w.heap.size Vec.zeros) := Lib.hid ⟨A6.out.1.grown g2 (fun e => by have := HP.out; injection e with e; omega), Vec.zeros_len⟩
   have C8 : Hid (VRow w2 (w.heap.size + 1) Vec.zeros) := Lib.hid ⟨A8.out.1.grown g2 (fun e => by have := HP.out; injection e with e; omega), Vec.zeros_len⟩
   have B2 := Lib.hid (gb_out B1.out g2 (by have := HP.out; omega))
   have hs2 : w.heap.size + 1 < w2.heap.size := C8.out.inHeap
   have HS2 := Lib.hid hs2
   clear h2 g2 hs2
   have RZ := Lib.hid (VRow.made w2 Vec.zeros_len)
   have RX := Lib.hid (RZ.out.set X HX.out)
   have E6 := Lib.hid ((C6.out.alloc (.cells (vecR Vec.zeros) 23)).setElsewhere (c := w2.heap.size) (by have := HS2.out; omega) (vecR X))
   have E8 := Lib.hid ((C8.out.alloc (.cells (vecR Vec.zeros) 23)).setElsewhere (c := w2.heap.size) (by have := HS2.out; omega) (vecR X))
   have B3 : Hid (Below w.heap.size w ((w2.alloc (.cells (vecR Vec.zeros) 23)).setRow w2.heap.size (vecR X))) := Lib.hid (below_kept (B2.out.alloc B2.out.size _) (Kept.setRowK _ _ _) (fun i e => by have := HS2.out; omega))
   go_wp2_with (first | (refine wpList_vstore (by rfl) (.tmp 9) (.tmp 19) (by rfl) (by rfl) (by rfl) RZ.out HX.out ?_) | (refine wpList_vload (by rfl) (.tmp 9) (by rfl) (by rfl) RX.out ?_))
   refine (PW.out _).mono ?_
   rintro e w3 ⟨rfl, b3⟩
   have F6 := Lib.hid (E6.out.below b3 E6.out.inHeap)
   have F8 := Lib.hid (E8.out.below b3 E8.out.inHeap)
   have FX := Lib.hid (RX.out.below b3 RX.out.inHeap)
   have B4 := Lib.hid (B3.out.trans (b3.mono B3.out.size))
   clear b3
   have R9 := Lib.hid (F6.out.set Vec.zeros Vec.zeros_len)
   have B9 := Lib.hid (below_kept B4.out (Kept.setRowK _ w.heap.size (vecR Vec.zeros)) (fun i e => by omega))
   go_wp2_with (first | (refine wpList_vload (by rfl) (.tmp 8) (by rfl) (by rfl) F8.out ?_) | (refine wpList_vstore (by rfl) (.tmp 6) (.tmp 33) (by rfl) (by rfl) (by rfl) F6.out Vec.zeros_len ?_))
   refine bodyPost_ret (v := .tuple #[vecA Vec.zeros, .int .i64 6]) ?_ rfl ⟨rfl, B9.out⟩
   rw [results_cell_tmp (by rfl)]
   have hl := run_loadVar_row (P := Try.prog) _ w.heap.size 23 23 _ (0, 0) _ (R9.out).1 Try.underlying23 rfl (vecSize (R9.out).2)
   simp [asAddr, hl, Result.andThen]
theorem pck_GetVec (V : VecOk) (s : List UInt8) (hs : s.length ≤ 140737488355328) (w : World) :
  Calls Try.prog 12 #[.string (mk s)] w fun e w' => e = .returned (.tuple #[vecA (Pck.getVec s).1, .int .i64 (Pck.getVec s).2]) ∧ Below w.heap.size w w' := by
 have hz := vecZero
 have Q6 := Lib.hid (VRow.made w Vec.zeros_len)
 have G0 : Hid (Below w.heap.size w (w.alloc (.cells (vecR Vec.zeros) 23))) := Lib.hid ((Below.refl _ _).alloc (Nat.le_refl _) _)
 have GT := Lib.hid (fun W => pck_get_vec V s hs W)
 have HX := Lib.hid (pck_getVec_len s)
 generalize Pck.getVec s = g at *
 obtain ⟨X, r⟩ := g
 clear hs
 generalize mk s = S at *
 dsimp only at GT HX ⊢
 go_enter Try.func12, Try.ntmps12
 go_wp2_with fail
 refine (GT.out _).mono ?_
 rintro e w1 ⟨rfl, b1⟩
 have A6 := Lib.hid (Q6.out.below b1 Q6.out.inHeap)
 have B1 := Lib.hid (G0.out.trans (b1.mono G0.out.size))
 have R9 := Lib.hid (A6.out.set X HX.out)
 have B9 := Lib.hid (below_kept B1.out (Kept.setRowK _ w.heap.size (vecR X)) (fun i e => by omega))
 clear b1
 go_wp2_with (refine wpList_vstore (by rfl) (.tmp 2) (.tmp 6) (by rfl) (by rfl) (by rfl) A6.out HX.out ?_)
 refine bodyPost_ret (v := .tuple #[vecA X, .int .i64 r]) ?_ rfl ⟨rfl, B9.out⟩
 rw [results_cell_tmp (by rfl)]
 have hl := run_loadVar_row (P := Try.prog) _ w.heap.size 23 23 _ (0, 0) _ (R9.out).1 Try.underlying23 rfl (vecSize (R9.out).2)
 simp [asAddr, hl, Result.andThen]
open Go.RowKit Go.Sort
theorem wpList_vloadD {ops : Array Oper} {rest : List Oper} {op : Oper} {a : Act} {w : World} {b : Nat} {v : List Int} {Q : Exit → Act → World → Prop} (d : Nat) (hd : op.dst = some d) (hw : Region.wanted op (yielded ops a.tmps) = true) (x : Operand) (ho : op.op = .load 23 x) (hx : a.eval x = .pointer (some ⟨b, 0, none⟩)) (h : VRow w b v)
  (k : wpList Try.prog ops Q rest (a.put op.dst (vecA v)) w) : wpList Try.prog ops Q (op :: rest) a w := wpList_vload hw x ho hx h k
def Pck.awV : List Int := Vec.ofl [⟨1, 5⟩]
theorem Pck.aw_len : Pck.awV.length = 65 := (Vec.ofl_plain _).1
theorem Pck.aw_put : Pck.putVec Pck.awV = ([1, 2, 1, 5], 0) := by decide +kernel
theorem Pck.aw_get : Pck.getVec [1, 2, 1, 5] = (Pck.awV, 0) := by decide +kernel
theorem Pck.aw_bd : ∀ n ∈ Pck.awV, n ≤ 9223372036854775807 := by decide +kernel
theorem pck_awake (V : VecOk) (w : World) : Calls Try.prog 4 #[] w fun e w' => e = .returned (.bool true) ∧ Below w.heap.size w w' := by
 have hz := vecZero
 have OF : Hid (∀ W : World, Calls Try.prog 15 #[.slice (some ⟨W.heap.size, 0, none⟩) 1 1] (W.alloc (.cells #[.int .i64 1, .int .i64 5] 43)) fun e w' => e = .returned (vecA Pck.awV) ∧ Laid (W.alloc (.cells #[.int .i64 1, .int .i64 5] 43)) w') := Lib.hid (fun W => V.ofl (rows_made (k := 2) (f := verV) W 43 ⟨1, 5⟩) (by decide) (by decide))
 have PV : Hid (∀ W : World, Calls Try.prog 5 #[vecA Pck.awV] W fun e w' => e = .returned (.tuple #[.string ⟨#[1, 2, 1, 5]⟩, .int .i64 0]) ∧ Below W.heap.size W w') := Lib.hid (fun W => by have := pck_PutVec V Pck.aw_len Pck.aw_bd W; rw [Pck.aw_put] at this; exact this)
 have GV : Hid (∀ W : World, Calls Try.prog 12 #[.string ⟨#[1, 2, 1, 5]⟩] W fun e w' => e = .returned (.tuple #[vecA Pck.awV, .int .i64 0]) ∧ Below W.heap.size W w') := Lib.hid (fun W => by have := pck_GetVec V [1, 2, 1, 5] (by decide) W; rw [Pck.aw_get] at this; exact this)
 have HV := Lib.hid Pck.aw_len
 have hE := fun W => vec_eq Pck.aw_len Pck.aw_len W
 rw [decide_eq_true rfl] at hE
 generalize Pck.awV = X at *
 have H0 := Lib.hid (fun W : World => Laid.new W (.cells #[.int .i64 1, .int .i64 5] 43))
 go_enter Try.func4, Try.ntmps4
 go_wp2_with fail
 refine (OF.out _).mono ?_
 rintro e w1 ⟨rfl, h1⟩
 have L1 := Lib.hid ((H0.out w).trans h1)
 have R1 := Lib.hid (VRow.made w1 Vec.zeros_len)
 have R2 := Lib.hid (R1.out.set X HV.out)
 have L2 := Lib.hid ((L1.out.alloc (.cells (vecR Vec.zeros) 23)).set (b := w1.heap.size) L1.out.size (vecR X)).below
 clear h1
 go_wp2_with (first | refine wpList_vstore (by rfl) _ _ (by rfl) (by rfl) (by rfl) R1.out HV.out ?_ | refine wpList_vload (by rfl) _ (by rfl) (by rfl) R2.out ?_)
 refine (PV.out _).mono ?_
 rintro e w3 ⟨rfl, h3⟩
 have R3 := Lib.hid (R2.out.below h3 R2.out.inHeap)
 have L3 := Lib.hid (L2.out.trans (h3.mono L2.out.size))
 clear h3
 go_wp2_with fail
 refine (GV.out _).mono ?_
 rintro e w4 ⟨rfl, h4⟩
 have R4 := Lib.hid (R3.out.below h4 R3.out.inHeap)
 have L4 := Lib.hid (L3.out.trans (h4.mono L3.out.size))
 have hlt : w1.heap.size < w4.heap.size := R4.out.inHeap
 have R5 := Lib.hid (VRow.made w4 Vec.zeros_len)
 have R6 := Lib.hid (R5.out.set X HV.out)
 have R7 := Lib.hid ((R4.out.alloc (.cells (vecR Vec.zeros) 23)).setElsewhere (c := w4.heap.size) (by omega) (vecR X))
 have L6 : Hid (Below w.heap.size w ((w4.alloc (.cells (vecR Vec.zeros) 23)).setRow w4.heap.size (vecR X))) := Lib.hid (below_kept (L4.out.alloc L4.out.size _) (Kept.setRowK _ _ _) (fun i e => by have := L4.out.size; omega))
 clear h4 hlt
 go_wp2_with (first | refine wpList_vstore (by rfl) _ _ (by rfl) (by rfl) (by rfl) R5.out HV.out ?_ | refine wpList_vload (by rfl) (.tmp 4) (by rfl) (by rfl) R6.out ?_ | refine wpList_vload (by rfl) (.tmp 1) (by rfl) (by rfl) R7.out ?_)
 go_ret
 exact ⟨rfl, L6.out⟩
theorem pck_answer (A S : ByteArray) (ea : Int) (may : Bool) (h : (may = true ∧ A = S ∧ ea = 0) ∨ (may = false ∧ A = ⟨#[]⟩ ∧ ea = 2)) (w : World) :
  Calls Try.prog 7 #[.string A, .int .i64 ea, .bool may, .string S] w fun e w' => e = .returned (.bool true) ∧ Below w.heap.size w w' := by
 have hb := Lib.hid (Below.refl w.heap.size w)
 rcases h with ⟨rfl, rfl, rfl⟩ | ⟨rfl, rfl, rfl⟩
 ·have hs : (A.toList == A.toList) = true := by simp
  go_enter Try.func7, Try.ntmps7
  go_wp2_with fail
  go_ret
  exact ⟨rfl, hb.out⟩
 ·go_enter Try.func7, Try.ntmps7
  go_wp2_with fail
  go_ret
  exact ⟨rfl, hb.out⟩
open Go.RowKit Go.Sort
theorem pck_bd {v : Ver.V} (h : Pck.NnV v) : Ver.Bd v := ⟨⟨by have := h.1.1; omega, h.1.2⟩, ⟨by have := h.2.1; omega, h.2.2⟩⟩
theorem pck_PutItems (V : VersOk) (S : IsetOk) {w : World} {F : Nat → Prop} {v : Value} {l : List (Ver.V)} (h : Vrs w F v l) (hl : l.length ≤ 65536) (hb : ∀ x ∈ l, Ver.Bd x) :
  Calls Try.prog 6 #[v] w fun e w' => e = .returned (.tuple #[.string (mk (Pck.putItems l).1), .int .i64 (Pck.putItems l).2]) ∧ Below w.heap.size w w' := by
 have VI := Lib.hid (pck_validItems V S h (by omega) hb)
 have LI := Lib.hid (fun W => pck_list_of_ver W)
 have PP := Lib.hid (fun (W : World) (hW : Below w.heap.size w W) (c2 : Nat) (h1 : W.cell? ⟨c2, 0, none⟩ = _) (h2 : c2 < W.heap.size) => pck_put_items (Rws.below h hW) hl hb h1 h2)
 rw [show Pck.putOf (Pck.OkItems l) (Pck.vers l) = Pck.putItems l from rfl] at PP
 generalize Pck.putItems l = res at *
 generalize decide (Pck.OkItems l) = t at *
 obtain ⟨rb, re⟩ := res
 dsimp only at PP ⊢
 generalize mk rb = B at *
 clear h hl hb
 go_enter Try.func6, Try.ntmps6
 go_wp2_with fail
 refine VI.out.mono ?_
 rintro e w1 ⟨rfl, b1⟩
 have B1 := Lib.hid b1
 clear b1
 go_wp2_with fail
 refine (LI.out _).mono ?_
 rintro e w2 ⟨c2, rfl, -, h3, b2⟩
 have B2 := Lib.hid (B1.out.trans (b2.mono B1.out.size))
 have R2 := Lib.hid h3
 clear h3 b2
 go_wp2_with fail
 refine (PP.out _ B2.out _ (R2.out.at 0) R2.out.inHeap).mono ?_
 rintro e w3 ⟨rfl, b3⟩
 have B3 := Lib.hid (B2.out.trans (b3.mono B2.out.size))
 clear b3
 go_wp2_with fail
 go_ret2
 exact ⟨rfl, B3.out⟩
theorem pck_get_items (V : VersOk) (S : IsetOk) (s : List UInt8) (hs : s.length ≤ 140737488355328) {w : World} {c2 : Nat} (hc2 : w.cell? ⟨c2, 0, none⟩ = some (.func (.func 33) #[] #[])) (hcw : c2 < w.heap.size) :
  Calls Try.prog 31 #[.string (mk s), .func (.func 49) #[] #[.pointer (some ⟨c2, 0, none⟩)], .func (.func 6) #[] #[]] w fun e w' => (∃ v, e = .returned (.tuple #[v, .int .i64 (Pck.getItems s).2]) ∧ Vrs w' (NewIn w w') v (Pck.getItems s).1) ∧ Below w.heap.size w w' := by
 by_cases hbig : 65536 < s.length
 ·have hE : Pck.getItems s = ([], 6) := if_pos hbig
  have hsz : decide ((65536 : Int) < ((mk s).size : Int)) = true := decide_eq_true (by rw [mk_len]; omega)
  rw [hE]
  clear hE hbig hs hc2 hcw
  generalize mk s = S at *
  go_enter Try.func31, Try.ntmps31
  go_wp2_with fail
  go_ret2
  exact ⟨⟨_, rfl, Rws.none _ _ _⟩, Below.refl _ _⟩
 ·have hsz : decide ((65536 : Int) < ((mk s).size : Int)) = false := decide_eq_false (by rw [mk_len]; omega)
  have hsl : s.length ≤ 65536 := by omega
  have OV := Lib.hid (fun W => pck_over s W)
  have RD := Lib.hid (fun (W : World) (p : Nat) (h : RdL W p s 0) (h2 : W.cell? ⟨c2, 0, none⟩ = _) (h3 : c2 ≠ p) => pck_list_ver h h2 h3 (by omega))
  have HQ := Lib.hid (And.intro hc2 hcw)
  rw [show Pck.list Pck.rdVer s 0 = Pck.rdVers s 0 from rfl] at RD
  have PW := Lib.hid (fun (W : World) (F : Nat → Prop) (v : Value) (h : Vrs W F v (Pck.rdVers s 0).1) => pck_PutItems V S h (Nat.le_trans (Pck.rdVers_len s 0) (by omega)) (fun x hx => pck_bd (Pck.rdVers_nn s 0 x hx)))
  have hG : Pck.getItems s = if (Pck.putItems (Pck.rdVers s 0).1).2 = 0 ∧ (Pck.putItems (Pck.rdVers s 0).1).1 = s then ((Pck.rdVers s 0).1, 0) else ([], 6) := if_neg hbig
  generalize Pck.putItems (Pck.rdVers s 0).1 = pp at *
  generalize Pck.rdVers s 0 = rr at *
  obtain ⟨X, lr, er⟩ := rr
  obtain ⟨ab, r⟩ := pp
  dsimp only at hG RD PW
  have hS : (((mk ab).toList == (mk s).toList) = decide (ab = s)) := by
   rw [Lib.toList_data, Lib.toList_data, mk_data, mk_data]
   rw [Bool.eq_iff_iff, beq_iff_eq, decide_eq_true_iff]
  have hS2 : (((mk ab).toList != (mk s).toList) = !decide (ab = s)) := by
   unfold bne
   rw [hS]
  by_cases hr0 : r = 0
  ·by_cases hab : ab = s
   ·rw [if_pos ⟨hr0, hab⟩] at hG
    rw [hG]
    rw [decide_eq_true hab] at hS hS2
    have hrr : (r != 0) = false := by rw [hr0]; rfl
    clear hG hr0 hab hbig hs hsl hc2 hcw
    rw [Bool.not_true] at hS2
    generalize mk ab = AB at *
    generalize mk s = S at *
    go_enter Try.func31, Try.ntmps31
    go_wp2_with fail
    refine (OV.out _).mono ?_
    rintro e w1 ⟨p, rfl, h1, hp, b1⟩
    have D1 := Lib.hid h1
    have B1 := Lib.hid b1
    have HP := Lib.hid hp
    clear h1 b1 hp
    go_wp2_with fail
    refine (RD.out _ _ D1.out ((B1.out.cell (p := ⟨c2, 0, none⟩) HQ.out.2).trans HQ.out.1) (by have := HP.out; have := HQ.out.2; omega)).mono ?_
    rintro e w2 ⟨v, rfl, h2, -, g2⟩
    have B2 := Lib.hid (gb_out B1.out g2 HP.out)
    have U2 := Lib.hid (h2.mono (G := NewIn w w2) (fun i hi => ⟨Nat.le_trans B1.out.size hi.1, hi.2⟩))
    clear h2 g2
    go_wp2_with fail
    refine (PW.out _ _ _ U2.out).mono ?_
    rintro e w3 ⟨rfl, b3⟩
    have B3 := Lib.hid (B2.out.trans (b3.mono B2.out.size))
    have U3 := Lib.hid ((Rws.below U2.out b3).mono (G := NewIn w w3) (fun i hi => ⟨hi.1, Nat.lt_of_lt_of_le hi.2 b3.size⟩))
    clear b3
    go_wp2_with fail
    go_ret2
    exact ⟨⟨_, rfl, U3.out⟩, B3.out⟩
   ·rw [if_neg (fun h => hab h.2)] at hG
    rw [hG]
    rw [decide_eq_false hab] at hS hS2
    have hrr : (r != 0) = false := by rw [hr0]; rfl
    clear hG hr0 hab hbig hs hsl hc2 hcw
    rw [Bool.not_false] at hS2
    generalize mk ab = AB at *
    generalize mk s = S at *
    go_enter Try.func31, Try.ntmps31
    go_wp2_with fail
    refine (OV.out _).mono ?_
    rintro e w1 ⟨p, rfl, h1, hp, b1⟩
    have D1 := Lib.hid h1
    have B1 := Lib.hid b1
    have HP := Lib.hid hp
    clear h1 b1 hp
    go_wp2_with fail
    refine (RD.out _ _ D1.out ((B1.out.cell (p := ⟨c2, 0, none⟩) HQ.out.2).trans HQ.out.1) (by have := HP.out; have := HQ.out.2; omega)).mono ?_
    rintro e w2 ⟨v, rfl, h2, -, g2⟩
    have B2 := Lib.hid (gb_out B1.out g2 HP.out)
    have U2 := Lib.hid (h2.mono (G := NewIn w w2) (fun i hi => ⟨Nat.le_trans B1.out.size hi.1, hi.2⟩))
    clear h2 g2
    go_wp2_with fail
    refine (PW.out _ _ _ U2.out).mono ?_
    rintro e w3 ⟨rfl, b3⟩
    have B3 := Lib.hid (B2.out.trans (b3.mono B2.out.size))
    have U3 := Lib.hid ((Rws.below U2.out b3).mono (G := NewIn w w3) (fun i hi => ⟨hi.1, Nat.lt_of_lt_of_le hi.2 b3.size⟩))
    clear b3
    go_wp2_with fail
    go_ret2
    exact ⟨⟨_, rfl, Rws.none _ _ _⟩, B3.out⟩
  ·rw [if_neg (fun h => hr0 h.1)] at hG
   rw [hG]
   have hrr : (r != 0) = true := by simpa using hr0
   clear hG hr0 hbig hs hsl hS hS2 hc2 hcw
   generalize mk ab = AB at *
   generalize mk s = S at *
   go_enter Try.func31, Try.ntmps31
   go_wp2_with fail
   refine (OV.out _).mono ?_
   rintro e w1 ⟨p, rfl, h1, hp, b1⟩
   have D1 := Lib.hid h1
   have B1 := Lib.hid b1
   have HP := Lib.hid hp
   clear h1 b1 hp
   go_wp2_with fail
   refine (RD.out _ _ D1.out ((B1.out.cell (p := ⟨c2, 0, none⟩) HQ.out.2).trans HQ.out.1) (by have := HP.out; have := HQ.out.2; omega)).mono ?_
   rintro e w2 ⟨v, rfl, h2, -, g2⟩
   have B2 := Lib.hid (gb_out B1.out g2 HP.out)
   have U2 := Lib.hid (h2.mono (G := NewIn w w2) (fun i hi => ⟨Nat.le_trans B1.out.size hi.1, hi.2⟩))
   clear h2 g2
   go_wp2_with fail
   refine (PW.out _ _ _ U2.out).mono ?_
   rintro e w3 ⟨rfl, b3⟩
   have B3 := Lib.hid (B2.out.trans (b3.mono B2.out.size))
   have U3 := Lib.hid ((Rws.below U2.out b3).mono (G := NewIn w w3) (fun i hi => ⟨hi.1, Nat.lt_of_lt_of_le hi.2 b3.size⟩))
   clear b3
   go_wp2_with fail
   go_ret2
   exact ⟨⟨_, rfl, Rws.none _ _ _⟩, B3.out⟩
theorem pck_GetItems (V : VersOk) (S : IsetOk) (s : List UInt8) (hs : s.length ≤ 140737488355328) (w : World) :
  Calls Try.prog 13 #[.string (mk s)] w fun e w' => (∃ v, e = .returned (.tuple #[v, .int .i64 (Pck.getItems s).2]) ∧ Vrs w' (NewIn w w') v (Pck.getItems s).1) ∧ Below w.heap.size w w' := by
 have GT := Lib.hid (fun (W : World) (c2 : Nat) (h1 : W.cell? ⟨c2, 0, none⟩ = _) (h2 : c2 < W.heap.size) => pck_get_items V S s hs h1 h2)
 have LI := Lib.hid (fun W => pck_rlist_ver W)
 generalize Pck.getItems s = g at *
 obtain ⟨X, r⟩ := g
 clear hs
 generalize mk s = S at *
 dsimp only at GT ⊢
 go_enter Try.func13, Try.ntmps13
 go_wp2_with fail
 refine (LI.out _).mono ?_
 rintro e w1 ⟨c2, rfl, h1, b1⟩
 have R1 := Lib.hid h1
 have B1 := Lib.hid b1
 clear h1 b1
 go_wp2_with fail
 refine (GT.out _ _ (R1.out.at 0) R1.out.inHeap).mono ?_
 rintro e w2 ⟨⟨v, rfl, h2⟩, b2⟩
 have B2 := Lib.hid (B1.out.trans (b2.mono B1.out.size))
 have U2 := Lib.hid (h2.mono (G := NewIn w w2) (fun i hi => ⟨Nat.le_trans B1.out.size hi.1, hi.2⟩))
 clear h2 b2
 go_wp2_with fail
 go_ret2
 exact ⟨⟨_, rfl, U2.out⟩, B2.out⟩
open Go.RowKit
theorem one_byte (W : World) (g : Nat) (hg : g < 256) :
  (convert 75 9 (.slice (some ⟨W.heap.size, 0, none⟩) 1 1)).run Try.prog (W.alloc (.cells #[.int .u8 (g : Int)] 5)) = .ok (.string ⟨#[UInt8.ofNat g]⟩) (W.alloc (.cells #[.int .u8 (g : Int)] 5)) := by
 refine run_convert_bytes_back (P := Try.prog) _ 75 9 5 ⟨W.heap.size, 0, none⟩ 1 [UInt8.ofNat g] Try.underlying75 Try.underlying5 Try.underlying9 (fun j hj => ?_)
 have hj0 : j = 0 := by simpa using hj
 subst hj0
 have := (Row.made W 5 #[.int .u8 (g : Int)]).at 0
 rw [show (⟨W.heap.size, 0, none⟩ : Addr).add 0 = ⟨W.heap.size, 0, none⟩ from rfl, this]
 simp only [List.getElem_cons_zero, Leb.toNat_ofNat g hg]
 rfl
def RefLoop (w : World) (l : List UInt8) (out : ByteArray) (m : Nat) (wr : World) : Prop :=
 ∃ f, m < 128 ^ (f + 1) ∧ f ≤ 8 ∧ out.data.toList ++ Leb.encF f m = l ∧ Below w.heap.size w wr
theorem ref_number (n : Nat) (w : World) (hn : n < 9223372036854775808) :
  Calls Try.prog 24 #[.int .i64 n] w fun e w' => e = .returned (.string ⟨(Leb.enc n).toArray⟩) ∧ Below w.heap.size w w' := by
 have h0 : RefLoop w (Leb.enc n) ⟨#[]⟩ n w := ⟨8, by simpa using hn, by omega, rfl, Below.refl _ _⟩
 clear hn
 go_enter Try.func24, Try.ntmps24
 go_wp2
 go_loopw [0, 3] (fun x o wr => ∃ (m : Nat) (out : ByteArray), x = .int .i64 m ∧ o = .string out ∧ m ≤ n ∧ RefLoop w (Leb.enc n) out m wr) (fun x _ _ => (intOf x).toNat)
 case atStart => exact ⟨n, ⟨#[]⟩, rfl, rfl, Nat.le_refl _, h0⟩
 case round =>
  obtain ⟨m, out, rfl, rfl, hm, f, hf, hf8, hout, hbel⟩ := hrel
  have hol : out.size ≤ 9 := by
   have h1 := (Leb.enc_len n).2
   rw [← hout, List.length_append, ← Lib.size_eq] at h1
   omega
  have hmm : (m : Int) ≤ 9223372036854775807 := by
   have : (128 : Nat) ^ (f + 1) ≤ 128 ^ 9 := Nat.pow_le_pow_right (by omega) (by omega)
   have h9 : (128 : Nat) ^ 9 = 9223372036854775808 := by decide
   omega
  have Hf := Lib.hid hf
  have Hout := Lib.hid hout
  clear hf hout
  by_cases hbig : 127 < m
  ·obtain ⟨g, hg⟩ : ∃ g : Nat, g = m % 128 + 128 := ⟨_, rfl⟩
   have hg1 : g < 256 := by omega
   have hgi : (m : Int) % 128 + 128 = (g : Int) := by omega
   have hconv := one_byte wr g hg1
   have Hg := Lib.hid hg
   clear hg
   have hnew : RefLoop w (Leb.enc n) (out ++ ⟨#[UInt8.ofNat g]⟩) (m / 128) (wr.alloc (.cells #[.int .u8 (g : Int)] 5)) := by
    have h1 := Hf.out
    have h2 := Hout.out
    cases f with
    | zero => simp at h1; omega
    | succ f =>
     refine ⟨f, ?_, by omega, ?_, hbel.alloc hbel.size _⟩
     ·rw [Nat.div_lt_iff_lt_mul (by omega), ← Nat.pow_succ]; exact h1
     ·rw [← h2, Leb.encF, if_neg (by omega), Hg.out]; simp [ByteArray.data_append]
   have Hnew := Lib.hid hnew
   clear hnew
   go_wp2
   go_roundw
   case rel => exact ⟨m / 128, _, by simp, rfl, by omega, Hnew.out⟩
   case measure => simp [intOf]; omega
  ·have hconv := one_byte wr m (by omega)
   have hfin : Hid ((out ++ ⟨#[UInt8.ofNat m]⟩ : ByteArray) = ⟨(Leb.enc n).toArray⟩) := by
    have h2 := Hout.out
    have he : Leb.encF f m = [UInt8.ofNat m] := by
     cases f with
     | zero => rfl
     | succ f => rw [Leb.encF, if_pos (by omega)]
    rw [he] at h2
    refine bytes_ext ?_
    rw [← h2]; simp [ByteArray.data_append]
   go_wp2
   go_ret
   refine ⟨?_, hbel.alloc hbel.size _⟩
   rw [← hfin.out]; rfl
theorem ref_text (s : ByteArray) (w : World) (hs : s.size ≤ 281474976710656) :
  Calls Try.prog 25 #[.string s] w fun e w' => e = .returned (.string ⟨(Leb.enc s.size ++ s.data.toList).toArray⟩) ∧ Below w.heap.size w w' := by
 have hl := (Leb.enc_len s.size).2
 have hz : (⟨(Leb.enc s.size).toArray⟩ : ByteArray).size ≤ 9 := by rw [mk_size]; exact hl
 have hfin : Hid ((⟨(Leb.enc s.size).toArray⟩ ++ s : ByteArray) = ⟨(Leb.enc s.size ++ s.data.toList).toArray⟩) := bytes_ext (by simp [ByteArray.data_append])
 have hnum : Hid (∀ W, Calls Try.prog 24 #[.int .i64 s.size] W fun e w' => e = .returned (.string ⟨(Leb.enc s.size).toArray⟩) ∧ Below W.heap.size W w') := fun W => ref_number s.size W (by omega)
 generalize (⟨(Leb.enc s.size).toArray⟩ : ByteArray) = t at *
 go_enter Try.func25, Try.ntmps25
 go_wp2_with (go_at_call 24; refine (hnum.out _).mono ?_; rintro e w' ⟨rfl, hb⟩)
 go_ret
 refine ⟨?_, hb⟩
 rw [← hfin.out]; rfl
end Go.Proofs.Ytpafpegcodempaa
