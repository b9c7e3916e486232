import Derived.Test.YtpafpegcodempaaGreatCom11
import Derived.Test.YtpafpegcodempaaGreatCom6
import Derived.Test.YtpafpegcodempaaGreatCom3
import Derived.Test.YtpafpegcodempaaGreatCom5
import Derived.Test.YtpafpegcodempaaGreatCom4
set_option maxRecDepth 100000
set_option linter.all false
set_option maxHeartbeats 12800000
namespace Go.Proofs.YtpafpegcodempaaGreat
open Go.RowKit Go.Sort
theorem pck_nnbd {v : Ver.V} (h : Pck.NnV v) : Ver.Bd v := ⟨⟨by have := h.1.1; omega, h.1.2⟩, ⟨by have := h.2.1; omega, h.2.2⟩⟩
theorem pck_fold_bd : ∀ (l : List Ver.V) (v : List Int), (∀ x ∈ l, Ver.Bd x) → (∀ n ∈ v, Ver.I64 n) → ∀ n ∈ l.foldl Vec.up v, Ver.I64 n
 | [], v, _, hv => hv
 | x :: l, v, hl, hv => by
  refine pck_fold_bd l (Vec.up v x) (fun y hy => hl y (List.mem_cons_of_mem _ hy)) ?_
  intro n hn
  unfold Vec.up at hn
  split at hn
  ·rcases List.mem_or_eq_of_mem_set hn with h | h
   ·exact hv n h
   ·rw [h]; exact (hl x (by simp)).2
  ·exact hv n hn
theorem pck_rdVec_bd (l : List UInt8) (e : Int) : ∀ n ∈ (Pck.rdVec l e).1, Ver.I64 n :=
 pck_fold_bd _ _ (fun x hx => pck_nnbd (Pck.rdVers_nn l e x hx)) (fun n hn => by rw [(List.mem_replicate.1 hn).2]; exact ⟨by decide, by decide⟩)
theorem pck_vec (V : VecOk) {w : World} {b : Nat} {l : List UInt8} {e : Int} (h : RdL w b l e) (hm : l.length ≤ 100000) :
  Calls Tryz.prog 167 #[.pointer (some ⟨b, 0, none⟩)] w fun ed w' => ed = .returned (vecA (Pck.rdVec l e).1) ∧ RdL w' b (Pck.rdVec l e).2.1 (Pck.rdVec l e).2.2 ∧ w.grownBy w' (some b) := by
 have hz := vecZero
 have hbw := Lib.hid (Row.inHeap h)
 have Q2 := Lib.hid (VRow.made w Vec.zeros_len)
 have D0 : Hid (RdL (w.alloc (.cells (vecR Vec.zeros) 32)) b l e) := Lib.hid (Row.behindNew h _)
 have G0 := Lib.hid (gb_new (gb_refl w (some b)) (.cells (vecR Vec.zeros) 32))
 have LI := Lib.hid (fun W => pck_rlist_ver W)
 have LL := Lib.hid (fun (W : World) (c2 : Nat) (h1 : RdL W b l e) (h2 : W.cell? ⟨c2, 0, none⟩ = _) (h3 : c2 ≠ b) => pck_list_ver h1 h2 h3 hm)
 have HO : Hid (∀ (W : World) (F : Nat → Prop) (v : Value), Vrs W F v (Pck.rdVers l e).1 → _) := Lib.hid (fun W F v h1 => V.ofl h1 (by have := Pck.rdVers_len l e; omega) (fun x hx => pck_nnbd (Pck.rdVers_nn l e x hx)))
 have HX := Lib.hid (Pck.rdVec_plain l e).1
 rw [show Pck.list Pck.rdVer l e = Pck.rdVers l e from rfl] at LL
 have hR : Pck.rdVec l e = (Vec.ofl (Pck.rdVers l e).1, (Pck.rdVers l e).2) := rfl
 rw [hR] at HX ⊢
 clear h hm hR
 generalize Pck.rdVers l e = rr at *
 obtain ⟨xs, l1, e1⟩ := rr
 dsimp only at LL HO HX ⊢
 generalize Vec.ofl xs = X at *
 go_enter Tryz.func167, Tryz.ntmps167
 go_wp2_with fail
 refine (LI.out _).mono ?_
 rintro ed w1 ⟨c2, rfl, h1, b1⟩
 have hne : c2 ≠ b := fun e => by
  have h2 := Row.below D0.out b1 (Row.inHeap D0.out)
  rw [e] at h1
  have h3 : (Obj.cells #[.func (.func 269) #[] #[]] 306 (0, 0)) = Obj.cells #[.string ⟨l.toArray⟩, .int .i64 _] 190 (0, 0) := Option.some.inj ((show w1.heap[b]? = _ from h1).symm.trans (show w1.heap[b]? = _ from h2))
  injection h3 with _ h4
  exact absurd h4 (by decide)
 have HN := Lib.hid hne
 have C1 := Lib.hid h1
 have D1 : Hid (RdL w1 b l e) := Lib.hid (Row.below D0.out b1 (Row.inHeap D0.out))
 have Q3 := Lib.hid (Q2.out.below b1 Q2.out.inHeap)
 have G1 := Lib.hid (gb_trans G0.out (gb_below b1 _))
 clear h1 b1 hne
 go_wp2_with fail
 refine (LL.out _ _ D1.out (C1.out.at 0) HN.out).mono ?_
 rintro ed w2 ⟨v, rfl, h2, h3, g2⟩
 have U2 := Lib.hid h2
 have D2 := Lib.hid h3
 have Q4 : Hid (VRow w2 w.heap.size Vec.zeros) := Lib.hid ⟨Q3.out.1.grown g2 (fun e => by have := hbw.out; injection e with e; omega), Vec.zeros_len⟩
 have G2 := Lib.hid (gb_trans G1.out g2)
 clear h2 h3 g2
 go_wp2_with fail
 refine (HO.out _ _ _ U2.out).mono ?_
 rintro ed w3 ⟨rfl, h4⟩
 have Q5 := Lib.hid (Q4.out.below h4.below Q4.out.inHeap)
 have D3 : Hid (RdL w3 b l1 e1) := Lib.hid (Row.below D2.out h4.below (Row.inHeap D2.out))
 have G3 := Lib.hid (gb_trans G2.out (gb_below h4.below _))
 have R9 := Lib.hid (Q5.out.set X HX.out)
 have D9 : Hid (RdL (w3.setRow w.heap.size (vecR X)) b l1 e1) := Lib.hid (Row.kept D3.out (Kept.setRowK _ _ _) (fun e => by have := hbw.out; omega))
 have G9 := Lib.hid (gb_kept G3.out (Kept.setRowK _ w.heap.size (vecR X)) (fun i e => by omega))
 clear h4
 go_wp2_with (refine wpList_vstore (by rfl) (.tmp 2) (.tmp 6) (by rfl) (by rfl) (by rfl) Q5.out HX.out ?_)
 exact bodyPost_ret (v := vecA X) (results_cell_row (by rfl) _ _ w.heap.size 32 _ (0, 0) _ (by rfl) R9.out.1 Tryz.underlying32 rfl (vecSize HX.out)) rfl ⟨rfl, D9.out, G9.out⟩
theorem pck_vec_le (s : List UInt8) : ∀ n ∈ (Pck.rdVec s 0).1, n ≤ 9223372036854775807 := fun n hn => (pck_rdVec_bd s 0 n hn).2
theorem pck_getVec_len (s : List UInt8) : (Pck.getVec s).1.length = 65 := by
 unfold Pck.getVec Pck.getOf
 split
 ·exact Vec.zeros_len
 ·split
  ·exact (Pck.rdVec_plain s 0).1
  ·exact Vec.zeros_len
theorem pck_PutVec (V : VecOk) {v : List Int} (hv : v.length = 65) (hb : ∀ n ∈ v, n ≤ 9223372036854775807) (w : World) :
  Calls Tryz.prog 82 #[vecA v] w fun e w' => e = .returned (.tuple #[.string (mk (Pck.putVec v).1), .int .i64 (Pck.putVec v).2]) ∧ Below w.heap.size w w' := by
 have CK := Lib.hid (fun W => pck_validVec V hv W)
 have PP := Lib.hid (fun W => pck_put_vec V hv hb W)
 rw [show Pck.putOf (Pck.OkVec v) (Pck.vec v) = Pck.putVec v from rfl] at PP
 have HR : Hid ((Pck.putVec v) = _) := Lib.hid rfl
 generalize hres : (Pck.putVec v) = res at *
 clear HR hres
 generalize decide (Pck.OkVec v) = t at *
 obtain ⟨rb, re⟩ := res
 dsimp only at *
 generalize mk rb = B at *
 have RB := Lib.hid (VRow.made w hv)
 clear hv hb V
 have G0 : Hid (Below w.heap.size w (w.alloc (.cells (vecR v) 32))) := Lib.hid ((Below.refl _ _).alloc (Nat.le_refl _) _)
 go_enter Tryz.func82, Tryz.ntmps82
 go_wp2_with fail
 refine wp_region_held_drew (S := (Below (w.alloc (.cells (vecR v) 32)).heap.size (w.alloc (.cells (vecR v) 32)))) (by kernel_rfl) (Below.drew (Below.refl _ _)) (fun hHeld => ?_)
 refine wpAnyH_tk (i := 0) (v := vecA v) rfl (Or.inl ⟨by rfl, (by intro w hSw; exact exec_vload (by rfl) (by rfl) (RB.out.below hSw RB.out.inHeap))⟩) (by assumption) ?_
 simp only [zz]
 refine wpAnyH_tk (i := 1) (v := vecA v) rfl (Or.inl ⟨by rfl, (by intro w hSw; exact exec_vload (by rfl) (by rfl) (RB.out.below hSw RB.out.inHeap))⟩) (by assumption) ?_
 simp only [zz]
 refine wpAnyH_ready (rs := [2]) (by kernel_rfl) (by simp) ?_
 refine AllReadyH.cons rfl (fun K hK => ?_) AllReadyH.nil
 go_simp
 go_at_call 164
 refine (CK.out _).mono ?_
 rintro e w1 ⟨rfl, hb⟩
 have B1 := Lib.hid (hHeld.trans (hb.mono hHeld.size))
 refine hK.out _ _ B1.out (fun hHeld => ?_)
 clear hb
 clear hK K
 refine wpAnyH_ready (rs := [3]) (by kernel_rfl) (by simp) ?_
 refine AllReadyH.cons rfl (fun K hK => ?_) AllReadyH.nil
 go_simp
 go_at_call 163
 refine (PP.out _).mono ?_
 rintro e w2 ⟨rfl, hb⟩
 have B2 := Lib.hid (hHeld.trans (hb.mono hHeld.size))
 refine hK.out _ _ B2.out (fun hHeld => ?_)
 clear hb
 clear hK K
 refine wpAnyH_td (i := 4) rfl ?_
 simp only [zz]
 refine wpAnyH_td (i := 5) rfl ?_
 simp only [zz]
 refine wpAnyH_td (i := 6) rfl ?_
 simp only [zz]
 refine wpAnyH_td (i := 7) rfl ?_
 simp only [zz]
 refine wpAnyH_done (by kernel_rfl) ?_ _
 go_wp2_with fail
 go_ret2
 exact ⟨rfl, G0.out.trans (B2.out.mono G0.out.size)⟩
theorem pck_get_vec (V : VecOk) (s : List UInt8) (hs : s.length ≤ 140737488355328) (w : World) :
  Calls Tryz.prog 166 #[.string (mk s), .func (.func 167) #[] #[], .func (.func 82) #[] #[]] w fun e w' => e = .returned (.tuple #[vecA (Pck.getVec s).1, .int .i64 (Pck.getVec s).2]) ∧ Below w.heap.size w w' := by
 have hz := vecZero
 have Q6 : Hid (VRow ((w.alloc (.cells (vecR Vec.zeros) 32)).alloc (.cells (vecR Vec.zeros) 32)) w.heap.size Vec.zeros) := Lib.hid ((VRow.made w Vec.zeros_len).alloc _)
 have Q8 : Hid (VRow ((w.alloc (.cells (vecR Vec.zeros) 32)).alloc (.cells (vecR Vec.zeros) 32)) (w.heap.size + 1) Vec.zeros) := Lib.hid (by have := VRow.made (w.alloc (.cells (vecR Vec.zeros) 32)) Vec.zeros_len; rwa [World.size_alloc] at this)
 have G0 : Hid (Below w.heap.size w ((w.alloc (.cells (vecR Vec.zeros) 32)).alloc (.cells (vecR Vec.zeros) 32))) := Lib.hid (((Below.refl _ _).alloc (Nat.le_refl _) _).alloc (by simp) _)
 by_cases hbig : 65536 < s.length
 ·have hE : Pck.getVec s = (Vec.zeros, 6) := if_pos hbig
  have hsz : decide ((65536 : Int) < ((mk s).size : Int)) = true := decide_eq_true (by rw [mk_len]; omega)
  rw [hE]
  clear hE hbig hs
  generalize mk s = S at *
  have R9 := Lib.hid (Q6.out.set Vec.zeros Vec.zeros_len)
  have B9 := Lib.hid (below_kept G0.out (Kept.setRowK _ w.heap.size (vecR Vec.zeros)) (fun i e => by omega))
  go_enter Tryz.func166, Tryz.ntmps166
  go_wp2_with (first | (refine wpList_vload (by rfl) (.tmp 8) (by rfl) (by rfl) Q8.out ?_) | (refine wpList_vstore (by rfl) (.tmp 6) (.tmp 15) (by rfl) (by rfl) (by rfl) Q6.out Vec.zeros_len ?_))
  refine bodyPost_ret (v := .tuple #[vecA Vec.zeros, .int .i64 6]) ?_ rfl ⟨rfl, B9.out⟩
  rw [results_cell_tmp (by rfl)]
  have hl := run_loadVar_row (P := Tryz.prog) _ w.heap.size 32 32 _ (0, 0) _ (R9.out).1 Tryz.underlying32 rfl (vecSize (R9.out).2)
  simp [asAddr, hl, Result.andThen]
 ·have hsz : decide ((65536 : Int) < ((mk s).size : Int)) = false := decide_eq_false (by rw [mk_len]; omega)
  have hsl : s.length ≤ 65536 := by omega
  have OV := Lib.hid (fun W => pck_over s W)
  have RD := Lib.hid (fun (W : World) (p : Nat) (h : RdL W p s 0) => pck_vec V h (by omega))
  have PW := Lib.hid (fun W => pck_PutVec V (Pck.rdVec_plain s 0).1 (pck_vec_le s) W)
  have HX := Lib.hid (Pck.rdVec_plain s 0).1
  have hG : Pck.getVec s = if (Pck.putVec (Pck.rdVec s 0).1).2 = 0 ∧ (Pck.putVec (Pck.rdVec s 0).1).1 = s then ((Pck.rdVec s 0).1, 0) else (Vec.zeros, 6) := if_neg hbig
  generalize Pck.putVec (Pck.rdVec s 0).1 = pp at *
  generalize Pck.rdVec s 0 = rr at *
  obtain ⟨X, lr, er⟩ := rr
  obtain ⟨ab, r⟩ := pp
  dsimp only at hG RD PW HX
  have hS : (((mk ab).toList == (mk s).toList) = decide (ab = s)) := by
   rw [Lib.toList_data, Lib.toList_data, mk_data, mk_data]
   rw [Bool.eq_iff_iff, beq_iff_eq, decide_eq_true_iff]
  have hS2 : (((mk ab).toList != (mk s).toList) = !decide (ab = s)) := by
   unfold bne
   rw [hS]
  by_cases hr0 : r = 0
  ·by_cases hab : ab = s
   ·rw [if_pos ⟨hr0, hab⟩] at hG
    rw [hG]
    rw [decide_eq_true hab] at hS hS2
    have hrr : (r != 0) = false := by rw [hr0]; rfl
    clear hG hr0 hab hbig hs hsl
    rw [Bool.not_true] at hS2
    generalize mk ab = AB at *
    generalize mk s = S at *
    go_enter Tryz.func166, Tryz.ntmps166
    go_wp2_with fail
    refine (OV.out _).mono ?_
    rintro e w1 ⟨p, rfl, h1, hp, b1⟩
    have HP : Hid (w.heap.size + 1 + 1 ≤ p) := Lib.hid (by simpa using hp)
    have A6 := Lib.hid (Q6.out.below b1 Q6.out.inHeap)
    have A8 := Lib.hid (Q8.out.below b1 Q8.out.inHeap)
    have D1 := Lib.hid h1
    have B1 := Lib.hid (G0.out.trans (b1.mono G0.out.size))
    clear h1 b1 hp
    go_wp2_with fail
    refine (RD.out _ _ D1.out).mono ?_
    rintro e w2 ⟨rfl, h2, g2⟩
    have C6 : Hid (VRow w2 w.heap.size Vec.zeros) := Lib.hid ⟨A6.out.1.grown g2 (fun e => by have := HP.out; injection e with e; omega), Vec.zeros_len⟩
    have C8 : Hid (VRow w2 (w.heap.size + 1) Vec.zeros) := Lib.hid ⟨A8.out.1.grown g2 (fun e => by have := HP.out; injection e with e; omega), Vec.zeros_len⟩
    have B2 := Lib.hid (gb_out B1.out g2 (by have := HP.out; omega))
    have hs2 : w.heap.size + 1 < w2.heap.size := C8.out.inHeap
    have HS2 := Lib.hid hs2
    clear h2 g2 hs2
    have RZ := Lib.hid (VRow.made w2 Vec.zeros_len)
    have RX := Lib.hid (RZ.out.set X HX.out)
    have E6 := Lib.hid ((C6.out.alloc (.cells (vecR Vec.zeros) 32)).setElsewhere (c := w2.heap.size) (by have := HS2.out; omega) (vecR X))
    have E8 := Lib.hid ((C8.out.alloc (.cells (vecR Vec.zeros) 32)).setElsewhere (c := w2.heap.size) (by have := HS2.out; omega) (vecR X))
    have B3 : Hid (Below w.heap.size w ((w2.alloc (.cells (vecR Vec.zeros) 32)).setRow w2.heap.size (vecR X))) := Lib.hid (below_kept (B2.out.alloc B2.out.size _) (Kept.setRowK _ _ _) (fun i e => by have := HS2.out; omega))
    go_wp2_with (first | (refine wpList_vstore (by rfl) (.tmp 9) (.tmp 19) (by rfl) (by rfl) (by rfl) RZ.out HX.out ?_) | (refine wpList_vload (by rfl) (.tmp 9) (by rfl) (by rfl) RX.out ?_))
    refine (PW.out _).mono ?_
    rintro e w3 ⟨rfl, b3⟩
    have F6 := Lib.hid (E6.out.below b3 E6.out.inHeap)
    have F8 := Lib.hid (E8.out.below b3 E8.out.inHeap)
    have FX := Lib.hid (RX.out.below b3 RX.out.inHeap)
    have B4 := Lib.hid (B3.out.trans (b3.mono B3.out.size))
    clear b3
    have R9 := Lib.hid (F6.out.set X HX.out)
    have B9 := Lib.hid (below_kept B4.out (Kept.setRowK _ w.heap.size (vecR X)) (fun i e => by omega))
    go_wp2_with (first | (refine wpList_vload (by rfl) (.tmp 9) (by rfl) (by rfl) FX.out ?_) | (refine wpList_vstore (by rfl) (.tmp 6) (.tmp 34) (by rfl) (by rfl) (by rfl) F6.out HX.out ?_))
    refine bodyPost_ret (v := .tuple #[vecA X, .int .i64 0]) ?_ rfl ⟨rfl, B9.out⟩
    rw [results_cell_tmp (by rfl)]
    have hl := run_loadVar_row (P := Tryz.prog) _ w.heap.size 32 32 _ (0, 0) _ (R9.out).1 Tryz.underlying32 rfl (vecSize (R9.out).2)
    simp [asAddr, hl, Result.andThen]
   ·rw [if_neg (fun h => hab h.2)] at hG
    rw [hG]
    rw [decide_eq_false hab] at hS hS2
    have hrr : (r != 0) = false := by rw [hr0]; rfl
    clear hG hr0 hab hbig hs hsl
    rw [Bool.not_false] at hS2
    generalize mk ab = AB at *
    generalize mk s = S at *
    go_enter Tryz.func166, Tryz.ntmps166
    go_wp2_with fail
    refine (OV.out _).mono ?_
    rintro e w1 ⟨p, rfl, h1, hp, b1⟩
    have HP : Hid (w.heap.size + 1 + 1 ≤ p) := Lib.hid (by simpa using hp)
    have A6 := Lib.hid (Q6.out.below b1 Q6.out.inHeap)
    have A8 := Lib.hid (Q8.out.below b1 Q8.out.inHeap)
    have D1 := Lib.hid h1
    have B1 := Lib.hid (G0.out.trans (b1.mono G0.out.size))
    clear h1 b1 hp
    go_wp2_with fail
    refine (RD.out _ _ D1.out).mono ?_
    rintro e w2 ⟨rfl, h2, g2⟩
    have C6 : Hid (VRow w2 w.heap.size Vec.zeros) := Lib.hid ⟨A6.out.1.grown g2 (fun e => by have := HP.out; injection e with e; omega), Vec.zeros_len⟩
    have C8 : Hid (VRow w2 (w.heap.size + 1) Vec.zeros) := Lib.hid ⟨A8.out.1.grown g2 (fun e => by have := HP.out; injection e with e; omega), Vec.zeros_len⟩
    have B2 := Lib.hid (gb_out B1.out g2 (by have := HP.out; omega))
    have hs2 : w.heap.size + 1 < w2.heap.size := C8.out.inHeap
    have HS2 := Lib.hid hs2
    clear h2 g2 hs2
    have RZ := Lib.hid (VRow.made w2 Vec.zeros_len)
    have RX := Lib.hid (RZ.out.set X HX.out)
    have E6 := Lib.hid ((C6.out.alloc (.cells (vecR Vec.zeros) 32)).setElsewhere (c := w2.heap.size) (by have := HS2.out; omega) (vecR X))
    have E8 := Lib.hid ((C8.out.alloc (.cells (vecR Vec.zeros) 32)).setElsewhere (c := w2.heap.size) (by have := HS2.out; omega) (vecR X))
    have B3 : Hid (Below w.heap.size w ((w2.alloc (.cells (vecR Vec.zeros) 32)).setRow w2.heap.size (vecR X))) := Lib.hid (below_kept (B2.out.alloc B2.out.size _) (Kept.setRowK _ _ _) (fun i e => by have := HS2.out; omega))
    go_wp2_with (first | (refine wpList_vstore (by rfl) (.tmp 9) (.tmp 19) (by rfl) (by rfl) (by rfl) RZ.out HX.out ?_) | (refine wpList_vload (by rfl) (.tmp 9) (by rfl) (by rfl) RX.out ?_))
    refine (PW.out _).mono ?_
    rintro e w3 ⟨rfl, b3⟩
    have F6 := Lib.hid (E6.out.below b3 E6.out.inHeap)
    have F8 := Lib.hid (E8.out.below b3 E8.out.inHeap)
    have FX := Lib.hid (RX.out.below b3 RX.out.inHeap)
    have B4 := Lib.hid (B3.out.trans (b3.mono B3.out.size))
    clear b3
    have R9 := Lib.hid (F6.out.set Vec.zeros Vec.zeros_len)
    have B9 := Lib.hid (below_kept B4.out (Kept.setRowK _ w.heap.size (vecR Vec.zeros)) (fun i e => by omega))
    go_wp2_with (first | (refine wpList_vload (by rfl) (.tmp 8) (by rfl) (by rfl) F8.out ?_) | (refine wpList_vstore (by rfl) (.tmp 6) (.tmp 33) (by rfl) (by rfl) (by rfl) F6.out Vec.zeros_len ?_))
    refine bodyPost_ret (v := .tuple #[vecA Vec.zeros, .int .i64 6]) ?_ rfl ⟨rfl, B9.out⟩
    rw [results_cell_tmp (by rfl)]
    have hl := run_loadVar_row (P := Tryz.prog) _ w.heap.size 32 32 _ (0, 0) _ (R9.out).1 Tryz.underlying32 rfl (vecSize (R9.out).2)
    simp [asAddr, hl, Result.andThen]
  ·rw [if_neg (fun h => hr0 h.1)] at hG
   rw [hG]
   have hrr : (r != 0) = true := by simpa using hr0
   clear hG hr0 hbig hs hsl hS hS2
   generalize mk ab = AB at *
   generalize mk s = S at *
   go_enter Tryz.func166, Tryz.ntmps166
   go_wp2_with fail
   refine (OV.out _).mono ?_
   rintro e w1 ⟨p, rfl, h1, hp, b1⟩
   have HP : Hid (w.heap.size + 1 + 1 ≤ p) := Lib.hid (by simpa using hp)
   have A6 := Lib.hid (Q6.out.below b1 Q6.out.inHeap)
   have A8 := Lib.hid (Q8.out.below b1 Q8.out.inHeap)
   have D1 := Lib.hid h1
   have B1 := Lib.hid (G0.out.trans (b1.mono G0.out.size))
   clear h1 b1 hp
   go_wp2_with fail
   refine (RD.out _ _ D1.out).mono ?_
   rintro e w2 ⟨rfl, h2, g2⟩
   have C6 : Hid (VRow w2 w.heap.size Vec.zeros) := Lib.hid ⟨A6.out.1.grown g2 (fun e => by have := HP.out; injection e with e; omega), Vec.zeros_len⟩
   have C8 : Hid (VRow w2 (w.heap.size + 1) Vec.zeros) := Lib.hid ⟨A8.out.1.grown g2 (fun e => by have := HP.out; injection e with e; omega), Vec.zeros_len⟩
   have B2 := Lib.hid (gb_out B1.out g2 (by have := HP.out; omega))
   have hs2 : w.heap.size + 1 < w2.heap.size := C8.out.inHeap
   have HS2 := Lib.hid hs2
   clear h2 g2 hs2
   have RZ := Lib.hid (VRow.made w2 Vec.zeros_len)
   have RX := Lib.hid (RZ.out.set X HX.out)
   have E6 := Lib.hid ((C6.out.alloc (.cells (vecR Vec.zeros) 32)).setElsewhere (c := w2.heap.size) (by have := HS2.out; omega) (vecR X))
   have E8 := Lib.hid ((C8.out.alloc (.cells (vecR Vec.zeros) 32)).setElsewhere (c := w2.heap.size) (by have := HS2.out; omega) (vecR X))
   have B3 : Hid (Below w.heap.size w ((w2.alloc (.cells (vecR Vec.zeros) 32)).setRow w2.heap.size (vecR X))) := Lib.hid (below_kept (B2.out.alloc B2.out.size _) (Kept.setRowK _ _ _) (fun i e => by have := HS2.out; omega))
   go_wp2_with (first | (refine wpList_vstore (by rfl) (.tmp 9) (.tmp 19) (by rfl) (by rfl) (by rfl) RZ.out HX.out ?_) | (refine wpList_vload (by rfl) (.tmp 9) (by rfl) (by rfl) RX.out ?_))
   refine (PW.out _).mono ?_
   rintro e w3 ⟨rfl, b3⟩
   have F6 := Lib.hid (E6.out.below b3 E6.out.inHeap)
   have F8 := Lib.hid (E8.out.below b3 E8.out.inHeap)
   have FX := Lib.hid (RX.out.below b3 RX.out.inHeap)
   have B4 := Lib.hid (B3.out.trans (b3.mono B3.out.size))
   clear b3
   have R9 := Lib.hid (F6.out.set Vec.zeros Vec.zeros_len)
   have B9 := Lib.hid (below_kept B4.out (Kept.setRowK _ w.heap.size (vecR Vec.zeros)) (fun i e => by omega))
   go_wp2_with (first | (refine wpList_vload (by rfl) (.tmp 8) (by rfl) (by rfl) F8.out ?_) | (refine wpList_vstore (by rfl) (.tmp 6) (.tmp 33) (by rfl) (by rfl) (by rfl) F6.out Vec.zeros_len ?_))
   refine bodyPost_ret (v := .tuple #[vecA Vec.zeros, .int .i64 6]) ?_ rfl ⟨rfl, B9.out⟩
   rw [results_cell_tmp (by rfl)]
   have hl := run_loadVar_row (P := Tryz.prog) _ w.heap.size 32 32 _ (0, 0) _ (R9.out).1 Tryz.underlying32 rfl (vecSize (R9.out).2)
   simp [asAddr, hl, Result.andThen]
theorem pck_GetVec (V : VecOk) (s : List UInt8) (hs : s.length ≤ 140737488355328) (w : World) :
  Calls Tryz.prog 83 #[.string (mk s)] w fun e w' => e = .returned (.tuple #[vecA (Pck.getVec s).1, .int .i64 (Pck.getVec s).2]) ∧ Below w.heap.size w w' := by
 have hz := vecZero
 have Q6 := Lib.hid (VRow.made w Vec.zeros_len)
 have G0 : Hid (Below w.heap.size w (w.alloc (.cells (vecR Vec.zeros) 32))) := Lib.hid ((Below.refl _ _).alloc (Nat.le_refl _) _)
 have GT := Lib.hid (fun W => pck_get_vec V s hs W)
 have HX := Lib.hid (pck_getVec_len s)
 generalize Pck.getVec s = g at *
 obtain ⟨X, r⟩ := g
 clear hs
 generalize mk s = S at *
 dsimp only at GT HX ⊢
 go_enter Tryz.func83, Tryz.ntmps83
 go_wp2_with fail
 refine (GT.out _).mono ?_
 rintro e w1 ⟨rfl, b1⟩
 have A6 := Lib.hid (Q6.out.below b1 Q6.out.inHeap)
 have B1 := Lib.hid (G0.out.trans (b1.mono G0.out.size))
 have R9 := Lib.hid (A6.out.set X HX.out)
 have B9 := Lib.hid (below_kept B1.out (Kept.setRowK _ w.heap.size (vecR X)) (fun i e => by omega))
 clear b1
 go_wp2_with (refine wpList_vstore (by rfl) (.tmp 2) (.tmp 6) (by rfl) (by rfl) (by rfl) A6.out HX.out ?_)
 refine bodyPost_ret (v := .tuple #[vecA X, .int .i64 r]) ?_ rfl ⟨rfl, B9.out⟩
 rw [results_cell_tmp (by rfl)]
 have hl := run_loadVar_row (P := Tryz.prog) _ w.heap.size 32 32 _ (0, 0) _ (R9.out).1 Tryz.underlying32 rfl (vecSize (R9.out).2)
 simp [asAddr, hl, Result.andThen]
open Go.RowKit Go.Sort
def Pck.awV : List Int := Vec.ofl [⟨1, 5⟩]
theorem Pck.aw_len : Pck.awV.length = 65 := (Vec.ofl_plain _).1
theorem Pck.aw_put : Pck.putVec Pck.awV = ([1, 2, 1, 5], 0) := by decide +kernel
theorem Pck.aw_get : Pck.getVec [1, 2, 1, 5] = (Pck.awV, 0) := by decide +kernel
theorem Pck.aw_bd : ∀ n ∈ Pck.awV, n ≤ 9223372036854775807 := by decide +kernel
theorem pck_awake (V : VecOk) (w : World) : Calls Tryz.prog 24 #[] w fun e w' => e = .returned (.bool true) ∧ Below w.heap.size w w' := by
 have hz := vecZero
 have OF : Hid (∀ W : World, Calls Tryz.prog 81 #[.slice (some ⟨W.heap.size, 0, none⟩) 1 1] (W.alloc (.cells #[.int .i64 1, .int .i64 5] 51)) fun e w' => e = .returned (vecA Pck.awV) ∧ Laid (W.alloc (.cells #[.int .i64 1, .int .i64 5] 51)) w') := Lib.hid (fun W => V.ofl (rows_made (k := 2) (f := verV) W 51 ⟨1, 5⟩) (by decide) (by decide))
 have PV : Hid (∀ W : World, Calls Tryz.prog 82 #[vecA Pck.awV] W fun e w' => e = .returned (.tuple #[.string ⟨#[1, 2, 1, 5]⟩, .int .i64 0]) ∧ Below W.heap.size W w') := Lib.hid (fun W => by have := pck_PutVec V Pck.aw_len Pck.aw_bd W; rw [Pck.aw_put] at this; exact this)
 have GV : Hid (∀ W : World, Calls Tryz.prog 83 #[.string ⟨#[1, 2, 1, 5]⟩] W fun e w' => e = .returned (.tuple #[vecA Pck.awV, .int .i64 0]) ∧ Below W.heap.size W w') := Lib.hid (fun W => by have := pck_GetVec V [1, 2, 1, 5] (by decide) W; rw [Pck.aw_get] at this; exact this)
 have HV := Lib.hid Pck.aw_len
 have hE := fun W => vec_eq Pck.aw_len Pck.aw_len W
 rw [decide_eq_true rfl] at hE
 generalize Pck.awV = X at *
 have H0 := Lib.hid (fun W : World => Laid.new W (.cells #[.int .i64 1, .int .i64 5] 51))
 go_enter Tryz.func24, Tryz.ntmps24
 go_wp2_with fail
 refine (OF.out _).mono ?_
 rintro e w1 ⟨rfl, h1⟩
 have L1 := Lib.hid ((H0.out w).trans h1)
 have R1 := Lib.hid (VRow.made w1 Vec.zeros_len)
 have R2 := Lib.hid (R1.out.set X HV.out)
 have L2 := Lib.hid ((L1.out.alloc (.cells (vecR Vec.zeros) 32)).set (b := w1.heap.size) L1.out.size (vecR X)).below
 clear h1
 go_wp2_with (first | refine wpList_vstore (by rfl) _ _ (by rfl) (by rfl) (by rfl) R1.out HV.out ?_ | refine wpList_vload (by rfl) _ (by rfl) (by rfl) R2.out ?_)
 refine (PV.out _).mono ?_
 rintro e w3 ⟨rfl, h3⟩
 have R3 := Lib.hid (R2.out.below h3 R2.out.inHeap)
 have L3 := Lib.hid (L2.out.trans (h3.mono L2.out.size))
 clear h3
 go_wp2_with fail
 refine (GV.out _).mono ?_
 rintro e w4 ⟨rfl, h4⟩
 have R4 := Lib.hid (R3.out.below h4 R3.out.inHeap)
 have L4 := Lib.hid (L3.out.trans (h4.mono L3.out.size))
 have hlt : w1.heap.size < w4.heap.size := R4.out.inHeap
 have R5 := Lib.hid (VRow.made w4 Vec.zeros_len)
 have R6 := Lib.hid (R5.out.set X HV.out)
 have R7 := Lib.hid ((R4.out.alloc (.cells (vecR Vec.zeros) 32)).setElsewhere (c := w4.heap.size) (by omega) (vecR X))
 have L6 : Hid (Below w.heap.size w ((w4.alloc (.cells (vecR Vec.zeros) 32)).setRow w4.heap.size (vecR X))) := Lib.hid (below_kept (L4.out.alloc L4.out.size _) (Kept.setRowK _ _ _) (fun i e => by have := L4.out.size; omega))
 clear h4 hlt
 go_wp2_with (first | refine wpList_vstore (by rfl) _ _ (by rfl) (by rfl) (by rfl) R5.out HV.out ?_ | refine wpList_vload (by rfl) (.tmp 4) (by rfl) (by rfl) R6.out ?_ | refine wpList_vload (by rfl) (.tmp 1) (by rfl) (by rfl) R7.out ?_)
 go_ret
 exact ⟨rfl, L6.out⟩
theorem pck_answer (A S : ByteArray) (ea : Int) (may : Bool) (h : (may = true ∧ A = S ∧ ea = 0) ∨ (may = false ∧ A = ⟨#[]⟩ ∧ ea = 2)) (w : World) :
  Calls Tryz.prog 26 #[.string A, .int .i64 ea, .bool may, .string S] w fun e w' => e = .returned (.bool true) ∧ Below w.heap.size w w' := by
 have hb := Lib.hid (Below.refl w.heap.size w)
 rcases h with ⟨rfl, rfl, rfl⟩ | ⟨rfl, rfl, rfl⟩
 ·have hs : (A.toList == A.toList) = true := by simp
  go_enter Tryz.func26, Tryz.ntmps26
  go_wp2_with fail
  go_ret
  exact ⟨rfl, hb.out⟩
 ·go_enter Tryz.func26, Tryz.ntmps26
  go_wp2_with fail
  go_ret
  exact ⟨rfl, hb.out⟩
end Go.Proofs.YtpafpegcodempaaGreat
namespace Go.Proofs.YtpafpegcodempaaGreat.Cov
open Flt (Tx Cl sizes prefixes norm Match)
def Subs (f g : List Cl) : Prop := ∀ p n, Sz.holds (sizes g p) n = true → Sz.holds (sizes f p) n = true
def raw (k : Nat) (f g : List Cl) : List Cl := (prefixes f ++ prefixes g).flatMap fun p => Flt.clauses p (Sz.two k (sizes f p) (sizes g p))
def two (k : Nat) (f g : List Cl) : List Cl := norm (raw k f g)
def left (f g : List Cl) : List Cl := (norm f).flatMap fun c => Flt.clauses c.pre (Sz.two 2 [Flt.rg c] (sizes g c.pre))
def minus (f g : List Cl) : List Cl := norm (left f g)
def all : List Cl := [⟨[], 0, 200⟩]
theorem sizes_up {f : List Cl} {q p : Tx} {n : Int} (hq : Pth.Covers q p) (h : Sz.holds (sizes f q) n = true) : Sz.holds (sizes f p) n = true := by
 obtain ⟨hn, c, hc, h1, h2⟩ := (Flt.sizes_holds f q n).1 h
 exact (Flt.sizes_holds f p n).2 ⟨hn, c, hc, Pth.covers_trans h1 hq, h2⟩
theorem sizes_down {f : List Cl} {p : Tx} {n : Int} (h : Sz.holds (sizes f p) n = true) : ∃ q ∈ prefixes f, Pth.Covers q p ∧ Sz.holds (sizes f q) n = true := by
 obtain ⟨hn, c, hc, h1, h2⟩ := (Flt.sizes_holds f p n).1 h
 exact ⟨c.pre, (Flt.prefixes_mem f _).2 ⟨c, hc, rfl⟩, h1, (Flt.sizes_holds f c.pre n).2 ⟨hn, c, hc, Pth.covers_refl _, h2⟩⟩
theorem subs_at (f g : List Cl) : Subs f g ↔ ∀ p ∈ prefixes g, Sz.two 2 (sizes g p) (sizes f p) = [] := by
 constructor
 ·intro h p _
  exact (Sz.covers_iff _ _).1 (fun n hn => h p n hn)
 ·intro h p n hn
  obtain ⟨q, hq, hqp, h2⟩ := sizes_down hn
  exact sizes_up hqp ((Sz.covers_iff _ _).2 (h q hq) n h2)
instance (f g : List Cl) : Decidable (Subs f g) := decidable_of_iff _ (subs_at f g).symm
theorem clauses_sizes {q p : Tx} {l : List Sz.Rg} {n : Int} (L : List Cl) (h : Sz.holds l n = true) (hq : Pth.Covers q p) (hL : ∀ c ∈ Flt.clauses q l, c ∈ L) : Sz.holds (sizes L p) n = true := by
 obtain ⟨hn, r, hr, h2⟩ := Flt.holds_mem.1 h
 exact (Flt.sizes_holds L p n).2 ⟨hn, ⟨q, r.1, r.2⟩, hL _ (List.mem_map.2 ⟨r, hr, rfl⟩), hq, h2⟩
theorem raw_sizes (k : Nat) (f g : List Cl) (p : Tx) (n : Int) : Sz.holds (sizes (raw k f g) p) n = true ↔ (0 ≤ n ∧ n ≤ 200) ∧ ∃ q ∈ prefixes f ++ prefixes g, Pth.Covers q p ∧ Sz.pick k (Sz.holds (sizes f q) n) (Sz.holds (sizes g q) n) = true := by
 constructor
 ·intro h
  obtain ⟨hn, c, hc, h1, h2⟩ := (Flt.sizes_holds _ p n).1 h
  unfold raw at hc
  obtain ⟨q, hq, hcq⟩ := List.mem_flatMap.1 hc
  obtain ⟨r, hr, rfl⟩ := List.mem_map.1 hcq
  refine ⟨hn, q, hq, h1, ?_⟩
  rw [← Sz.two_holds k _ _ n hn]
  exact Flt.holds_mem.2 ⟨hn, r, hr, h2⟩
 ·rintro ⟨hn, q, hq, hqp, h⟩
  rw [← Sz.two_holds k _ _ n hn] at h
  exact clauses_sizes _ h hqp (fun c hc => List.mem_flatMap.2 ⟨q, hq, hc⟩)
theorem join_sizes (f g : List Cl) (p : Tx) (n : Int) : Sz.holds (sizes (two 0 f g) p) n = (Sz.holds (sizes f p) n || Sz.holds (sizes g p) n) := by
 unfold two
 rw [Flt.norm_alike, Bool.eq_iff_iff, raw_sizes, Bool.or_eq_true]
 constructor
 ·rintro ⟨hn, q, hq, hqp, h⟩
  have h : (Sz.holds (sizes f q) n || Sz.holds (sizes g q) n) = true := h
  rw [Bool.or_eq_true] at h
  rcases h with h | h
  ·exact Or.inl (sizes_up hqp h)
  ·exact Or.inr (sizes_up hqp h)
 ·rintro (h | h)
  ·obtain ⟨q, hq, hqp, h2⟩ := sizes_down h
   refine ⟨((Flt.sizes_holds f p n).1 h).1, q, List.mem_append.2 (Or.inl hq), hqp, ?_⟩
   show (Sz.holds (sizes f q) n || Sz.holds (sizes g q) n) = true
   rw [h2, Bool.true_or]
  ·obtain ⟨q, hq, hqp, h2⟩ := sizes_down h
   refine ⟨((Flt.sizes_holds g p n).1 h).1, q, List.mem_append.2 (Or.inr hq), hqp, ?_⟩
   show (Sz.holds (sizes f q) n || Sz.holds (sizes g q) n) = true
   rw [h2, Bool.or_true]
end Go.Proofs.YtpafpegcodempaaGreat.Cov
namespace Go.Proofs.YtpafpegcodempaaGreat.Know
open Flt (Tx Cl)
open Ver (V)
structure Fr where
 f : List Cl
 v : List Int
 no : List V
deriving DecidableEq
structure It where
 item : V
 v : List Int
deriving DecidableEq
structure K where
 frags : List Fr
 items : List It
def Sane (f : List Cl) : Prop := ∀ c ∈ f, Flt.Right c
def SaneK (k : K) : Prop := ∀ x ∈ k.frags, Sane x.f
def has (f : List Cl) (p : Tx) (n : Int) : Prop := Sz.holds (Flt.sizes f p) n = true
def Fits (x : Fr) (item v : V) : Prop := x.f ≠ [] ∧ Vec.Has x.v v ∧ item ∉ x.no
instance (x : Fr) (item v : V) : Decidable (Fits x item v) := inferInstanceAs (Decidable (_ ∧ _))
def whole (l : List Fr) (item v : V) : List Cl := (l.filter fun x => decide (Fits x item v)).flatMap (·.f)
def ByItem (l : List It) (item v : V) : Prop := ∃ i ∈ l, i.item = item ∧ Vec.Has i.v v
instance (l : List It) (item v : V) : Decidable (ByItem l item v) := inferInstanceAs (Decidable (∃ i ∈ l, _))
def ByWhole (l : List Fr) (item v : V) (f : List Cl) : Prop := (∃ x ∈ l, Fits x item v) ∧ Cov.Subs (whole l item v) f
def Contains (k : K) (item v : V) (f : List Cl) : Prop := ByItem k.items item v ∨ ByWhole k.frags item v f
def Incl (y x : Fr) : Prop := Cov.Subs y.f x.f ∧ Vec.Covers y.v x.v ∧ ∀ e ∈ y.no, e ∈ x.no
instance (y x : Fr) : Decidable (Incl y x) := inferInstanceAs (Decidable (_ ∧ _))
def Keyed (v : List Int) (no : List V) (z : Fr) : Prop := Vec.clean z.v = v ∧ Ver.sort z.no = no
def Cand (l : List Fr) (x : Fr) : Prop := Flt.norm x.f = x.f ∧ Vec.Plain x.v ∧ Ver.sort x.no = x.no ∧ x.f ≠ [] ∧ (∃ y, Vec.Has x.v y) ∧ ∀ p n, has x.f p n ↔ ∃ z ∈ l, Keyed x.v x.no z ∧ has z.f p n
def Kept (l : List Fr) (x : Fr) : Prop := Cand l x ∧ ∀ y, Cand l y → Incl y x → y = x
def gather (l : List Fr) (v : List Int) (no : List V) : List Cl := (l.filter fun z => decide (Vec.clean z.v = v ∧ Ver.sort z.no = no)).flatMap (·.f)
def mk (l : List Fr) (z : Fr) : Fr := ⟨Flt.norm (gather l (Vec.clean z.v) (Ver.sort z.no)), Vec.clean z.v, Ver.sort z.no⟩
def vlt : List Int → List Int → Prop
 | [], _ => False
 | _ :: _, [] => False
 | a :: l, b :: m => b < a ∨ (a = b ∧ vlt l m)
def nlt : List V → List V → Prop
 | _, [] => False
 | [], _ :: _ => True
 | a :: l, b :: m => Ver.Before a b ∨ (a = b ∧ nlt l m)
def FLt (x y : Fr) : Prop := vlt x.v y.v ∨ (x.v = y.v ∧ nlt x.no y.no)
end Go.Proofs.YtpafpegcodempaaGreat.Know
namespace Go.Proofs.YtpafpegcodempaaGreat.Pck
def frag (x : Know.Fr) : List UInt8 := txt (flt x.f) ++ (txt (vec x.v) ++ txt (vers x.no))
def known (i : Know.It) : List UInt8 := ver i.item ++ txt (vec i.v)
def know (k : Know.K) : List UInt8 := txt (lst frag k.frags) ++ txt (lst known k.items)
def rdFrag : Rdr Know.Fr := bnd (inn rdFlt) fun f => bnd (inn rdVec) fun v => bnd (inn rdVers) fun n => ret ⟨f, v, n⟩
def rdKnown : Rdr Know.It := bnd rdVer fun i => bnd (inn rdVec) fun v => ret ⟨i, v⟩
def rdKnow : Rdr Know.K := bnd (inn (list rdFrag)) fun a => bnd (inn (list rdKnown)) fun b => ret ⟨a, b⟩
def OkFrag (x : Know.Fr) : Prop := OkFlt x.f ∧ OkVec x.v ∧ OkItems x.no
instance (x : Know.Fr) : Decidable (OkFrag x) := inferInstanceAs (Decidable (_ ∧ _))
def OkKnown (i : Know.It) : Prop := Ver.Right i.item ∧ OkVec i.v
instance (i : Know.It) : Decidable (OkKnown i) := inferInstanceAs (Decidable (_ ∧ _))
def OkKnow (k : Know.K) : Prop := k.frags.length ≤ 64 ∧ (∀ x ∈ k.frags, OkFrag x) ∧ k.items.length ≤ 4096 ∧ ∀ i ∈ k.items, OkKnown i
instance (k : Know.K) : Decidable (OkKnow k) := inferInstanceAs (Decidable (_ ∧ _))
def putKnow (k : Know.K) : List UInt8 × Int := putOf (OkKnow k) (know k)
def getKnow (s : List UInt8) : Know.K × Int := getOf rdKnow putKnow ⟨[], []⟩ s
structure BdFr (x : Know.Fr) : Prop where
 fl : x.f.length ≤ 100000
 fb : ∀ c ∈ x.f, Flt.Bd c
 vl : x.v.length = 65
 vb : ∀ n ∈ x.v, Ver.I64 n
 nl : x.no.length ≤ 65536
 nb : ∀ v ∈ x.no, Ver.Bd v
structure BdIt (i : Know.It) : Prop where
 ib : Ver.Bd i.item
 vl : i.v.length = 65
 vb : ∀ n ∈ i.v, Ver.I64 n
structure BdK (k : Know.K) : Prop where
 fl : k.frags.length ≤ 100000
 fb : ∀ x ∈ k.frags, BdFr x
 il : k.items.length ≤ 100000
 ib : ∀ i ∈ k.items, BdIt i
theorem right_nnV {v : Ver.V} (h : Ver.Right v) (hb : Ver.Bd v) : NnV v := by
 obtain ⟨a, b, c⟩ := h
 obtain ⟨⟨-, d⟩, ⟨-, f⟩⟩ := hb
 exact ⟨⟨by omega, d⟩, ⟨by omega, f⟩⟩
theorem frag_le {x : Know.Fr} (h : OkFrag x) (hn : x.no.length ≤ 12) : (frag x).length ≤ 6997 := by
 have a := flt_le h.1
 have b := vec_le x.v
 have c := vers_le x.no
 have a1 := txt_len (flt x.f)
 have b1 := txt_len (vec x.v)
 have c1 := txt_len (vers x.no)
 unfold frag
 simp only [List.length_append]
 omega
theorem known_le (i : Know.It) : (known i).length ≤ 1791 := by
 have a := ver_le i.item
 have b := vec_le i.v
 have b1 := txt_len (vec i.v)
 unfold known
 simp only [List.length_append]
 omega
theorem know_le {k : Know.K} (h : OkKnow k) (h1 : k.frags.length ≤ 6) (h2 : ∀ x ∈ k.frags, x.no.length ≤ 12) (h3 : k.items.length ≤ 12) : (know k).length ≤ 65536 := by
 have a : (lst frag k.frags).length ≤ 9 + k.frags.length * (6997 + 9) := lst_le _ (fun x hx => frag_le (h.2.1 x hx) (h2 x hx))
 have b : (lst known k.items).length ≤ 9 + k.items.length * (1791 + 9) := lst_le _ (fun i _ => known_le i)
 have a1 := txt_len (lst frag k.frags)
 have b1 := txt_len (lst known k.items)
 unfold know
 simp only [List.length_append]
 omega
theorem takes_frag {x : Know.Fr} (h : OkFrag x) (hb : BdFr x) : Takes rdFrag (frag x) x := by
 have hv := hb.nl
 have a := inn_backs (takes_flt h.1) (by have := flt_le h.1; omega)
 have b := inn_backs (takes_vec (okVec_plain.1 h.2.1) (fun n hn => (hb.vb n hn).2)) (by have := vec_le x.v; omega)
 have c := inn_backs (takes_vers (fun v hv => right_nnV (h.2.2.1 v hv) (hb.nb v hv)) (by omega)) (by have := vers_le x.no; omega)
 have := Takes.bnd (k := fun f => bnd (inn rdVec) fun v => bnd (inn rdVers) fun n => ret (⟨f, v, n⟩ : Know.Fr)) a (Takes.bnd b (Takes.bnd c (Takes.ret _)))
 rw [List.append_nil] at this
 exact this
theorem takes_known {i : Know.It} (h : OkKnown i) (hb : BdIt i) : Takes rdKnown (known i) i := by
 have b := inn_backs (takes_vec (okVec_plain.1 h.2) (fun n hn => (hb.vb n hn).2)) (by have := vec_le i.v; omega)
 have := Takes.bnd (k := fun v => bnd (inn rdVec) fun n => ret (⟨v, n⟩ : Know.It)) (takes_ver (right_nnV h.1 hb.ib)) (Takes.bnd b (Takes.ret _))
 rw [List.append_nil] at this
 exact this
theorem frag_fits {x : Know.Fr} (h : OkFrag x) (hb : BdFr x) : (frag x).length ≤ 3000000 := by
 have a := flt_le h.1
 have b := vec_le x.v
 have c := vers_le x.no
 have a1 := txt_len (flt x.f)
 have b1 := txt_len (vec x.v)
 have c1 := txt_len (vers x.no)
 have d := hb.nl
 unfold frag
 simp only [List.length_append]
 omega
theorem takes_know {k : Know.K} (h : OkKnow k) (hb : BdK k) : Takes rdKnow (know k) k := by
 obtain ⟨h1, h2, h3, h4⟩ := h
 have la : (lst frag k.frags).length ≤ 9 + k.frags.length * (3000000 + 9) := lst_le _ (fun x hx => frag_fits (h2 x hx) (hb.fb x hx))
 have lb : (lst known k.items).length ≤ 9 + k.items.length * (1791 + 9) := lst_le _ (fun i _ => known_le i)
 have a := inn_backs (f := lst frag) (list_backs (rd := rdFrag) (f := frag) (l := k.frags) (fun x hx => ⟨takes_frag (h2 x hx) (hb.fb x hx), by have := frag_fits (h2 x hx) (hb.fb x hx); omega⟩) (by omega)) (by omega)
 have b := inn_backs (f := lst known) (list_backs (rd := rdKnown) (f := known) (l := k.items) (fun i hi => ⟨takes_known (h4 i hi) (hb.ib i hi), by have := known_le i; omega⟩) (by omega)) (by omega)
 have := Takes.bnd (k := fun a => bnd (inn (list rdKnown)) fun b => ret (⟨a, b⟩ : Know.K)) a (Takes.bnd b (Takes.ret _))
 rw [List.append_nil] at this
 exact this
theorem inn_left {α : Type} (rd : Rdr α) (l : List UInt8) (e : Int) : (inn rd l e).2.1.length ≤ l.length := by have := stepT_left l e; unfold inn; simp only; omega
theorem rdFrag_left (l : List UInt8) (e : Int) : (rdFrag l e).2.1.length ≤ l.length := Nat.le_trans (inn_left rdVers _ _) (Nat.le_trans (inn_left rdVec _ _) (inn_left rdFlt _ _))
theorem rdKnown_left (l : List UInt8) (e : Int) : (rdKnown l e).2.1.length ≤ l.length := Nat.le_trans (inn_left rdVec _ _) (rdVer_left _ _)
theorem rdFrag_never : Never rdFrag := by show (rdFrag [] 0).2.2 ≠ 0; decide +kernel
theorem rdKnown_never : Never rdKnown := by show (rdKnown [] 0).2.2 ≠ 0; decide +kernel
theorem nnV_bd {v : Ver.V} (h : NnV v) : Ver.Bd v := ⟨⟨by have := h.1.1; omega, h.1.2⟩, ⟨by have := h.2.1; omega, h.2.2⟩⟩
theorem fold_bd : ∀ (l : List Ver.V) (v : List Int), (∀ x ∈ l, Ver.Bd x) → (∀ n ∈ v, Ver.I64 n) → ∀ n ∈ l.foldl Vec.up v, Ver.I64 n
 | [], v, _, hv => hv
 | x :: l, v, hl, hv => by
  refine fold_bd l (Vec.up v x) (fun y hy => hl y (List.mem_cons_of_mem _ hy)) ?_
  intro n hn
  unfold Vec.up at hn
  split at hn
  ·rcases List.mem_or_eq_of_mem_set hn with h | h
   ·exact hv n h
   ·rw [h]; exact (hl x (by simp)).2
  ·exact hv n hn
theorem rdVec_bd (l : List UInt8) (e : Int) : ∀ n ∈ (rdVec l e).1, Ver.I64 n :=
 fold_bd _ _ (fun x hx => nnV_bd (rdVers_nn l e x hx)) (fun n hn => by rw [(List.mem_replicate.1 hn).2]; exact ⟨by decide, by decide⟩)
theorem rdFrag_bd {l : List UInt8} {e : Int} (h : l.length ≤ 65536) : BdFr (rdFrag l e).1 := by
 have t1 := stepT_left l e
 have t2 := stepT_left (stepT l e).2.1 (stepT l e).2.2
 have t3 := stepT_left (stepT (stepT l e).2.1 (stepT l e).2.2).2.1 (stepT (stepT l e).2.1 (stepT l e).2.2).2.2
 exact {
  fl := by have : ((rdFrag l e).1.f.length ≤ _) := rdFlt_len (stepT l e).1 0; omega
  fb := fun c hc => nnC_bd (rdFlt_nn (stepT l e).1 0 c hc) (by omega)
  vl := (rdVec_plain _ _).1
  vb := rdVec_bd _ _
  nl := by have : ((rdFrag l e).1.no.length ≤ _) := rdVers_len (stepT (stepT (stepT l e).2.1 (stepT l e).2.2).2.1 (stepT (stepT l e).2.1 (stepT l e).2.2).2.2).1 0; omega
  nb := fun v hv => nnV_bd (rdVers_nn _ _ v hv) }
theorem rdKnown_bd (l : List UInt8) (e : Int) : BdIt (rdKnown l e).1 := ⟨nnV_bd (rdVer_nn _ _), (rdVec_plain _ _).1, rdVec_bd _ _⟩
theorem rdKnow_bd {l : List UInt8} {e : Int} (h : l.length ≤ 65536) : BdK (rdKnow l e).1 := by
 have t1 := stepT_left l e
 have t2 := stepT_left (stepT l e).2.1 (stepT l e).2.2
 exact {
  fl := by have : ((rdKnow l e).1.frags.length ≤ _) := list_len rdFrag_never (stepT l e).1 0; omega
  fb := list_all (m := 65536) (fun t ht => rdFrag_bd ht) (stepT l e).1 0 (by omega)
  il := by have : ((rdKnow l e).1.items.length ≤ _) := list_len rdKnown_never (stepT (stepT l e).2.1 (stepT l e).2.2).1 0; omega
  ib := list_all (m := 65536) (fun t _ => rdKnown_bd t 0) (stepT (stepT l e).2.1 (stepT l e).2.2).1 0 (by omega) }
end Go.Proofs.YtpafpegcodempaaGreat.Pck
