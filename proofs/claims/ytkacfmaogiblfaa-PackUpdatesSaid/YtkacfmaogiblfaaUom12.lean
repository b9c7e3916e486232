import Derived.Test.YtkacfmaogiblfaaUom11
set_option maxRecDepth 100000
set_option linter.all false
set_option maxHeartbeats 12800000
namespace Go.Proofs.Ytkacfmaogiblfaa
open Go.RowKit Go.Sort
theorem pck_get_upd (UO : UpdateOk) (s : List UInt8) (hs : s.length ≤ 140737488355328) (w : World) :
  Calls Try.prog 44 #[.string (mk s), .func (.func 45) #[] #[], .func (.func 8) #[] #[]] w fun e w' => e = .returned (.tuple #[upA (Pck.getUpd s).1, .int .i64 (Pck.getUpd s).2]) ∧ Below w.heap.size w w' := by
 have Hsz : Hid ((Try.prog.info? 27).map (·.size) = some 8) := Lib.hid (by kernel_rfl)
 have Hfu : Hid (∃ d, Try.prog.underlying 27 = some d ∧ d.isRow = true) := Lib.hid ⟨_, Try.underlying27, rfl⟩
 have Q6 : Hid (Row ((w.alloc (.cells #[.int .i64 0, .int .i64 0, .int .i64 0, .int .i64 0, .int .i64 0, .string ⟨#[]⟩, .string ⟨#[]⟩, .bool false] 27)).alloc (.cells #[.int .i64 0, .int .i64 0, .int .i64 0, .int .i64 0, .int .i64 0, .string ⟨#[]⟩, .string ⟨#[]⟩, .bool false] 27)) w.heap.size 27 #[.int .i64 0, .int .i64 0, .int .i64 0, .int .i64 0, .int .i64 0, .string ⟨#[]⟩, .string ⟨#[]⟩, .bool false]) := Lib.hid ((Row.made w 27 #[.int .i64 0, .int .i64 0, .int .i64 0, .int .i64 0, .int .i64 0, .string ⟨#[]⟩, .string ⟨#[]⟩, .bool false]).behindNew _)
 have Q8 : Hid (Row ((w.alloc (.cells #[.int .i64 0, .int .i64 0, .int .i64 0, .int .i64 0, .int .i64 0, .string ⟨#[]⟩, .string ⟨#[]⟩, .bool false] 27)).alloc (.cells #[.int .i64 0, .int .i64 0, .int .i64 0, .int .i64 0, .int .i64 0, .string ⟨#[]⟩, .string ⟨#[]⟩, .bool false] 27)) (w.heap.size + 1) 27 #[.int .i64 0, .int .i64 0, .int .i64 0, .int .i64 0, .int .i64 0, .string ⟨#[]⟩, .string ⟨#[]⟩, .bool false]) := Lib.hid (by have := Row.made (w.alloc (.cells #[.int .i64 0, .int .i64 0, .int .i64 0, .int .i64 0, .int .i64 0, .string ⟨#[]⟩, .string ⟨#[]⟩, .bool false] 27)) 27 #[.int .i64 0, .int .i64 0, .int .i64 0, .int .i64 0, .int .i64 0, .string ⟨#[]⟩, .string ⟨#[]⟩, .bool false]; rwa [World.size_alloc] at this)
 have G0 : Hid (Below w.heap.size w ((w.alloc (.cells #[.int .i64 0, .int .i64 0, .int .i64 0, .int .i64 0, .int .i64 0, .string ⟨#[]⟩, .string ⟨#[]⟩, .bool false] 27)).alloc (.cells #[.int .i64 0, .int .i64 0, .int .i64 0, .int .i64 0, .int .i64 0, .string ⟨#[]⟩, .string ⟨#[]⟩, .bool false] 27))) := Lib.hid (((Below.refl _ _).alloc (Nat.le_refl _) _).alloc (by simp) _)
 have hW0 : ((w.alloc (.cells #[.int .i64 0, .int .i64 0, .int .i64 0, .int .i64 0, .int .i64 0, .string ⟨#[]⟩, .string ⟨#[]⟩, .bool false] 27)).alloc (.cells #[.int .i64 0, .int .i64 0, .int .i64 0, .int .i64 0, .int .i64 0, .string ⟨#[]⟩, .string ⟨#[]⟩, .bool false] 27)).heap.size = w.heap.size + 1 + 1 := by simp
 have HW0 := Lib.hid hW0
 clear hW0
 by_cases hbig : 65536 < s.length
 ·have hE : Pck.getUpd s = (Upd.zeroU, 6) := if_pos hbig
  have hsz : decide ((65536 : Int) < ((mk s).size : Int)) = true := decide_eq_true (by rw [mk_len]; omega)
  rw [hE]
  clear hE hbig hs
  generalize mk s = S at *
  go_enter Try.func44, Try.ntmps44
  go_wp2_with (first | (refine wpList_mload (cs := [.int .i64 0, .int .i64 0, .int .i64 0, .int .i64 0, .int .i64 0, .string ⟨#[]⟩, .string ⟨#[]⟩, .bool false]) (by rfl) (.tmp 8) (by rfl) (by rfl) (row_lies (cs := [.int .i64 0, .int .i64 0, .int .i64 0, .int .i64 0, .int .i64 0, .string ⟨#[]⟩, .string ⟨#[]⟩, .bool false]) Q8.out Hfu.out Hsz.out) ?_) | (refine wpList_rstore (cs := [.int .i64 0, .int .i64 0, .int .i64 0, .int .i64 0, .int .i64 0, .string ⟨#[]⟩, .string ⟨#[]⟩, .bool false]) (by rfl) (.tmp 6) (.tmp 15) (by rfl) (by rfl) (by rfl) Q6.out Hsz.out rfl (by simp [Value.oneCell']) ?_; rintro w9 hr9 hk9; have R9 := Lib.hid hr9; have B9 := Lib.hid (below_kept G0.out hk9 (fun i e => by omega))))
  refine bodyPost_ret (v := .tuple #[.agg #[.int .i64 0, .int .i64 0, .int .i64 0, .int .i64 0, .int .i64 0, .string ⟨#[]⟩, .string ⟨#[]⟩, .bool false], .int .i64 6]) ?_ rfl ⟨rfl, B9.out⟩
  rw [results_cell_tmp (by rfl)]
  have hl := run_loadVar_row (P := Try.prog) _ w.heap.size 27 27 _ (0, 0) _ R9.out Try.underlying27 rfl Hsz.out
  simp [asAddr, hl, Result.andThen]
  try rfl
 ·have hsz : decide ((65536 : Int) < ((mk s).size : Int)) = false := decide_eq_false (by rw [mk_len]; omega)
  have hsl : s.length ≤ 65536 := by omega
  have OV := Lib.hid (fun W => pck_over s W)
  have RD := Lib.hid (fun (W : World) (p : Nat) (h : RdL W p s 0) => pck_upd h (by omega))
  have PW := Lib.hid (fun W => pck_PutUpdate UO (Pck.rdUpd s 0).1 (Pck.rdUpd_bd (by omega)) W)
  have hG : Pck.getUpd s = if (Pck.putUpd (Pck.rdUpd s 0).1).2 = 0 ∧ (Pck.putUpd (Pck.rdUpd s 0).1).1 = s then ((Pck.rdUpd s 0).1, 0) else (Upd.zeroU, 6) := if_neg hbig
  generalize Pck.putUpd (Pck.rdUpd s 0).1 = pp at *
  generalize Pck.rdUpd s 0 = rr at *
  obtain ⟨X, lr, er⟩ := rr
  obtain ⟨ab, r⟩ := pp
  dsimp only at hG RD PW
  have hS : (((mk ab).toList == (mk s).toList) = decide (ab = s)) := by
   rw [Lib.toList_data, Lib.toList_data, mk_data, mk_data]
   rw [Bool.eq_iff_iff, beq_iff_eq, decide_eq_true_iff]
  have hS2 : (((mk ab).toList != (mk s).toList) = !decide (ab = s)) := by
   unfold bne
   rw [hS]
  by_cases hr0 : r = 0
  ·by_cases hab : ab = s
   ·rw [if_pos ⟨hr0, hab⟩] at hG
    rw [hG]
    rw [decide_eq_true hab] at hS hS2
    have hrr : (r != 0) = false := by rw [hr0]; rfl
    have HRR := Lib.hid hr0
    clear hG hr0 hab hbig hs hsl
    rw [Bool.not_true] at hS2
    generalize mk ab = AB at *
    generalize mk s = S at *
    dsimp only [upA] at RD PW ⊢
    go_enter Try.func44, Try.ntmps44
    go_wp2_with fail
    refine (OV.out _).mono ?_
    rintro e w1 ⟨p, rfl, h1, hp, b1⟩
    have HP : Hid (w.heap.size + 1 + 1 ≤ p) := Lib.hid (by simpa using hp)
    have A6 := Lib.hid (Q6.out.below b1 Q6.out.inHeap)
    have A8 := Lib.hid (Q8.out.below b1 Q8.out.inHeap)
    have D1 := Lib.hid h1
    have B1 := Lib.hid (G0.out.trans (b1.mono G0.out.size))
    clear h1 b1 hp
    go_wp2_with fail
    refine (RD.out _ _ D1.out).mono ?_
    rintro e w2 ⟨rfl, h2, g2⟩
    have C6 := Lib.hid (A6.out.grown g2 (fun e => by have := HP.out; injection e with e; omega))
    have C8 := Lib.hid (A8.out.grown g2 (fun e => by have := HP.out; injection e with e; omega))
    have B2 := Lib.hid (gb_out B1.out g2 (by have := HP.out; omega))
    have R9a := Lib.hid (Row.made w2 27 #[.int .i64 X.item.by_, .int .i64 X.item.n, .int .i64 X.stamp.v.by_, .int .i64 X.stamp.v.n, .int .i64 X.stamp.time, .string (mk X.path), .string (mk X.data), .bool X.dead])
    have E6 := Lib.hid (C6.out.behindNew (.cells #[.int .i64 X.item.by_, .int .i64 X.item.n, .int .i64 X.stamp.v.by_, .int .i64 X.stamp.v.n, .int .i64 X.stamp.time, .string (mk X.path), .string (mk X.data), .bool X.dead] 27))
    have E8 := Lib.hid (C8.out.behindNew (.cells #[.int .i64 X.item.by_, .int .i64 X.item.n, .int .i64 X.stamp.v.by_, .int .i64 X.stamp.v.n, .int .i64 X.stamp.time, .string (mk X.path), .string (mk X.data), .bool X.dead] 27))
    have B3 := Lib.hid (B2.out.alloc B2.out.size (.cells #[.int .i64 X.item.by_, .int .i64 X.item.n, .int .i64 X.stamp.v.by_, .int .i64 X.stamp.v.n, .int .i64 X.stamp.time, .string (mk X.path), .string (mk X.data), .bool X.dead] 27))
    clear h2 g2
    go_wp2_with (refine wpList_mload (cs := [.int .i64 X.item.by_, .int .i64 X.item.n, .int .i64 X.stamp.v.by_, .int .i64 X.stamp.v.n, .int .i64 X.stamp.time, .string (mk X.path), .string (mk X.data), .bool X.dead]) (by rfl) (.tmp 9) (by rfl) (by rfl) (row_lies (cs := [.int .i64 X.item.by_, .int .i64 X.item.n, .int .i64 X.stamp.v.by_, .int .i64 X.stamp.v.n, .int .i64 X.stamp.time, .string (mk X.path), .string (mk X.data), .bool X.dead]) R9a.out Hfu.out Hsz.out) ?_)
    refine (PW.out _).mono ?_
    rintro e w3 ⟨rfl, b3⟩
    have F6 := Lib.hid (E6.out.below b3 E6.out.inHeap)
    have F8 := Lib.hid (E8.out.below b3 E8.out.inHeap)
    have FX := Lib.hid (R9a.out.below b3 R9a.out.inHeap)
    have B4 := Lib.hid (B3.out.trans (b3.mono B3.out.size))
    clear b3
    go_wp2_with (first | (refine wpList_mload (cs := [.int .i64 X.item.by_, .int .i64 X.item.n, .int .i64 X.stamp.v.by_, .int .i64 X.stamp.v.n, .int .i64 X.stamp.time, .string (mk X.path), .string (mk X.data), .bool X.dead]) (by rfl) (.tmp 9) (by rfl) (by rfl) (row_lies (cs := [.int .i64 X.item.by_, .int .i64 X.item.n, .int .i64 X.stamp.v.by_, .int .i64 X.stamp.v.n, .int .i64 X.stamp.time, .string (mk X.path), .string (mk X.data), .bool X.dead]) FX.out Hfu.out Hsz.out) ?_) | (refine wpList_rstore (cs := [.int .i64 X.item.by_, .int .i64 X.item.n, .int .i64 X.stamp.v.by_, .int .i64 X.stamp.v.n, .int .i64 X.stamp.time, .string (mk X.path), .string (mk X.data), .bool X.dead]) (by rfl) (.tmp 6) (.tmp 34) (by rfl) (by rfl) (by rfl) F6.out Hsz.out rfl (by simp [Value.oneCell']) ?_; rintro w9 hr9 hk9; have R9 := Lib.hid hr9; have B9 := Lib.hid (below_kept B4.out hk9 (fun i e => by omega))))
    refine bodyPost_ret (v := .tuple #[.agg #[.int .i64 X.item.by_, .int .i64 X.item.n, .int .i64 X.stamp.v.by_, .int .i64 X.stamp.v.n, .int .i64 X.stamp.time, .string (mk X.path), .string (mk X.data), .bool X.dead], .int .i64 0]) ?_ rfl ⟨rfl, B9.out⟩
    rw [results_cell_tmp (by rfl)]
    have hl := run_loadVar_row (P := Try.prog) _ w.heap.size 27 27 _ (0, 0) _ R9.out Try.underlying27 rfl Hsz.out
    simp [asAddr, hl, Result.andThen]
    try rfl
   ·rw [if_neg (fun h => hab h.2)] at hG
    rw [hG]
    rw [decide_eq_false hab] at hS hS2
    have hrr : (r != 0) = false := by rw [hr0]; rfl
    clear hG hr0 hab hbig hs hsl
    rw [Bool.not_false] at hS2
    generalize mk ab = AB at *
    generalize mk s = S at *
    dsimp only [upA] at RD PW ⊢
    go_enter Try.func44, Try.ntmps44
    go_wp2_with fail
    refine (OV.out _).mono ?_
    rintro e w1 ⟨p, rfl, h1, hp, b1⟩
    have HP : Hid (w.heap.size + 1 + 1 ≤ p) := Lib.hid (by simpa using hp)
    have A6 := Lib.hid (Q6.out.below b1 Q6.out.inHeap)
    have A8 := Lib.hid (Q8.out.below b1 Q8.out.inHeap)
    have D1 := Lib.hid h1
    have B1 := Lib.hid (G0.out.trans (b1.mono G0.out.size))
    clear h1 b1 hp
    go_wp2_with fail
    refine (RD.out _ _ D1.out).mono ?_
    rintro e w2 ⟨rfl, h2, g2⟩
    have C6 := Lib.hid (A6.out.grown g2 (fun e => by have := HP.out; injection e with e; omega))
    have C8 := Lib.hid (A8.out.grown g2 (fun e => by have := HP.out; injection e with e; omega))
    have B2 := Lib.hid (gb_out B1.out g2 (by have := HP.out; omega))
    have R9a := Lib.hid (Row.made w2 27 #[.int .i64 X.item.by_, .int .i64 X.item.n, .int .i64 X.stamp.v.by_, .int .i64 X.stamp.v.n, .int .i64 X.stamp.time, .string (mk X.path), .string (mk X.data), .bool X.dead])
    have E6 := Lib.hid (C6.out.behindNew (.cells #[.int .i64 X.item.by_, .int .i64 X.item.n, .int .i64 X.stamp.v.by_, .int .i64 X.stamp.v.n, .int .i64 X.stamp.time, .string (mk X.path), .string (mk X.data), .bool X.dead] 27))
    have E8 := Lib.hid (C8.out.behindNew (.cells #[.int .i64 X.item.by_, .int .i64 X.item.n, .int .i64 X.stamp.v.by_, .int .i64 X.stamp.v.n, .int .i64 X.stamp.time, .string (mk X.path), .string (mk X.data), .bool X.dead] 27))
    have B3 := Lib.hid (B2.out.alloc B2.out.size (.cells #[.int .i64 X.item.by_, .int .i64 X.item.n, .int .i64 X.stamp.v.by_, .int .i64 X.stamp.v.n, .int .i64 X.stamp.time, .string (mk X.path), .string (mk X.data), .bool X.dead] 27))
    clear h2 g2
    go_wp2_with (refine wpList_mload (cs := [.int .i64 X.item.by_, .int .i64 X.item.n, .int .i64 X.stamp.v.by_, .int .i64 X.stamp.v.n, .int .i64 X.stamp.time, .string (mk X.path), .string (mk X.data), .bool X.dead]) (by rfl) (.tmp 9) (by rfl) (by rfl) (row_lies (cs := [.int .i64 X.item.by_, .int .i64 X.item.n, .int .i64 X.stamp.v.by_, .int .i64 X.stamp.v.n, .int .i64 X.stamp.time, .string (mk X.path), .string (mk X.data), .bool X.dead]) R9a.out Hfu.out Hsz.out) ?_)
    refine (PW.out _).mono ?_
    rintro e w3 ⟨rfl, b3⟩
    have F6 := Lib.hid (E6.out.below b3 E6.out.inHeap)
    have F8 := Lib.hid (E8.out.below b3 E8.out.inHeap)
    have FX := Lib.hid (R9a.out.below b3 R9a.out.inHeap)
    have B4 := Lib.hid (B3.out.trans (b3.mono B3.out.size))
    clear b3
    go_wp2_with (first | (refine wpList_mload (cs := [.int .i64 0, .int .i64 0, .int .i64 0, .int .i64 0, .int .i64 0, .string ⟨#[]⟩, .string ⟨#[]⟩, .bool false]) (by rfl) (.tmp 8) (by rfl) (by rfl) (row_lies (cs := [.int .i64 0, .int .i64 0, .int .i64 0, .int .i64 0, .int .i64 0, .string ⟨#[]⟩, .string ⟨#[]⟩, .bool false]) F8.out Hfu.out Hsz.out) ?_) | (refine wpList_rstore (cs := [.int .i64 0, .int .i64 0, .int .i64 0, .int .i64 0, .int .i64 0, .string ⟨#[]⟩, .string ⟨#[]⟩, .bool false]) (by rfl) (.tmp 6) (.tmp 33) (by rfl) (by rfl) (by rfl) F6.out Hsz.out rfl (by simp [Value.oneCell']) ?_; rintro w9 hr9 hk9; have R9 := Lib.hid hr9; have B9 := Lib.hid (below_kept B4.out hk9 (fun i e => by omega))))
    refine bodyPost_ret (v := .tuple #[.agg #[.int .i64 0, .int .i64 0, .int .i64 0, .int .i64 0, .int .i64 0, .string ⟨#[]⟩, .string ⟨#[]⟩, .bool false], .int .i64 6]) ?_ rfl ⟨rfl, B9.out⟩
    rw [results_cell_tmp (by rfl)]
    have hl := run_loadVar_row (P := Try.prog) _ w.heap.size 27 27 _ (0, 0) _ R9.out Try.underlying27 rfl Hsz.out
    simp [asAddr, hl, Result.andThen]
    try rfl
  ·rw [if_neg (fun h => hr0 h.1)] at hG
   rw [hG]
   have hrr : (r != 0) = true := by simpa using hr0
   clear hG hr0 hbig hs hsl hS hS2
   generalize mk ab = AB at *
   generalize mk s = S at *
   dsimp only [upA] at RD PW ⊢
   go_enter Try.func44, Try.ntmps44
   go_wp2_with fail
   refine (OV.out _).mono ?_
   rintro e w1 ⟨p, rfl, h1, hp, b1⟩
   have HP : Hid (w.heap.size + 1 + 1 ≤ p) := Lib.hid (by simpa using hp)
   have A6 := Lib.hid (Q6.out.below b1 Q6.out.inHeap)
   have A8 := Lib.hid (Q8.out.below b1 Q8.out.inHeap)
   have D1 := Lib.hid h1
   have B1 := Lib.hid (G0.out.trans (b1.mono G0.out.size))
   clear h1 b1 hp
   go_wp2_with fail
   refine (RD.out _ _ D1.out).mono ?_
   rintro e w2 ⟨rfl, h2, g2⟩
   have C6 := Lib.hid (A6.out.grown g2 (fun e => by have := HP.out; injection e with e; omega))
   have C8 := Lib.hid (A8.out.grown g2 (fun e => by have := HP.out; injection e with e; omega))
   have B2 := Lib.hid (gb_out B1.out g2 (by have := HP.out; omega))
   have R9a := Lib.hid (Row.made w2 27 #[.int .i64 X.item.by_, .int .i64 X.item.n, .int .i64 X.stamp.v.by_, .int .i64 X.stamp.v.n, .int .i64 X.stamp.time, .string (mk X.path), .string (mk X.data), .bool X.dead])
   have E6 := Lib.hid (C6.out.behindNew (.cells #[.int .i64 X.item.by_, .int .i64 X.item.n, .int .i64 X.stamp.v.by_, .int .i64 X.stamp.v.n, .int .i64 X.stamp.time, .string (mk X.path), .string (mk X.data), .bool X.dead] 27))
   have E8 := Lib.hid (C8.out.behindNew (.cells #[.int .i64 X.item.by_, .int .i64 X.item.n, .int .i64 X.stamp.v.by_, .int .i64 X.stamp.v.n, .int .i64 X.stamp.time, .string (mk X.path), .string (mk X.data), .bool X.dead] 27))
   have B3 := Lib.hid (B2.out.alloc B2.out.size (.cells #[.int .i64 X.item.by_, .int .i64 X.item.n, .int .i64 X.stamp.v.by_, .int .i64 X.stamp.v.n, .int .i64 X.stamp.time, .string (mk X.path), .string (mk X.data), .bool X.dead] 27))
   clear h2 g2
   go_wp2_with (refine wpList_mload (cs := [.int .i64 X.item.by_, .int .i64 X.item.n, .int .i64 X.stamp.v.by_, .int .i64 X.stamp.v.n, .int .i64 X.stamp.time, .string (mk X.path), .string (mk X.data), .bool X.dead]) (by rfl) (.tmp 9) (by rfl) (by rfl) (row_lies (cs := [.int .i64 X.item.by_, .int .i64 X.item.n, .int .i64 X.stamp.v.by_, .int .i64 X.stamp.v.n, .int .i64 X.stamp.time, .string (mk X.path), .string (mk X.data), .bool X.dead]) R9a.out Hfu.out Hsz.out) ?_)
   refine (PW.out _).mono ?_
   rintro e w3 ⟨rfl, b3⟩
   have F6 := Lib.hid (E6.out.below b3 E6.out.inHeap)
   have F8 := Lib.hid (E8.out.below b3 E8.out.inHeap)
   have FX := Lib.hid (R9a.out.below b3 R9a.out.inHeap)
   have B4 := Lib.hid (B3.out.trans (b3.mono B3.out.size))
   clear b3
   go_wp2_with (first | (refine wpList_mload (cs := [.int .i64 0, .int .i64 0, .int .i64 0, .int .i64 0, .int .i64 0, .string ⟨#[]⟩, .string ⟨#[]⟩, .bool false]) (by rfl) (.tmp 8) (by rfl) (by rfl) (row_lies (cs := [.int .i64 0, .int .i64 0, .int .i64 0, .int .i64 0, .int .i64 0, .string ⟨#[]⟩, .string ⟨#[]⟩, .bool false]) F8.out Hfu.out Hsz.out) ?_) | (refine wpList_rstore (cs := [.int .i64 0, .int .i64 0, .int .i64 0, .int .i64 0, .int .i64 0, .string ⟨#[]⟩, .string ⟨#[]⟩, .bool false]) (by rfl) (.tmp 6) (.tmp 33) (by rfl) (by rfl) (by rfl) F6.out Hsz.out rfl (by simp [Value.oneCell']) ?_; rintro w9 hr9 hk9; have R9 := Lib.hid hr9; have B9 := Lib.hid (below_kept B4.out hk9 (fun i e => by omega))))
   refine bodyPost_ret (v := .tuple #[.agg #[.int .i64 0, .int .i64 0, .int .i64 0, .int .i64 0, .int .i64 0, .string ⟨#[]⟩, .string ⟨#[]⟩, .bool false], .int .i64 6]) ?_ rfl ⟨rfl, B9.out⟩
   rw [results_cell_tmp (by rfl)]
   have hl := run_loadVar_row (P := Try.prog) _ w.heap.size 27 27 _ (0, 0) _ R9.out Try.underlying27 rfl Hsz.out
   simp [asAddr, hl, Result.andThen]
   try rfl
theorem pck_get_met (UO : UpdateOk) (s : List UInt8) (hs : s.length ≤ 140737488355328) (w : World) :
  Calls Try.prog 46 #[.string (mk s), .func (.func 47) #[] #[], .func (.func 9) #[] #[]] w fun e w' => e = .returned (.tuple #[mtA (Pck.getMet s).1, .int .i64 (Pck.getMet s).2]) ∧ Below w.heap.size w w' := by
 have Hsz : Hid ((Try.prog.info? 29).map (·.size) = some 8) := Lib.hid (by kernel_rfl)
 have Hfu : Hid (∃ d, Try.prog.underlying 29 = some d ∧ d.isRow = true) := Lib.hid ⟨_, Try.underlying29, rfl⟩
 have Q6 : Hid (Row ((w.alloc (.cells #[.int .i64 0, .int .i64 0, .int .i64 0, .int .i64 0, .int .i64 0, .string ⟨#[]⟩, .int .i64 0, .bool false] 29)).alloc (.cells #[.int .i64 0, .int .i64 0, .int .i64 0, .int .i64 0, .int .i64 0, .string ⟨#[]⟩, .int .i64 0, .bool false] 29)) w.heap.size 29 #[.int .i64 0, .int .i64 0, .int .i64 0, .int .i64 0, .int .i64 0, .string ⟨#[]⟩, .int .i64 0, .bool false]) := Lib.hid ((Row.made w 29 #[.int .i64 0, .int .i64 0, .int .i64 0, .int .i64 0, .int .i64 0, .string ⟨#[]⟩, .int .i64 0, .bool false]).behindNew _)
 have Q8 : Hid (Row ((w.alloc (.cells #[.int .i64 0, .int .i64 0, .int .i64 0, .int .i64 0, .int .i64 0, .string ⟨#[]⟩, .int .i64 0, .bool false] 29)).alloc (.cells #[.int .i64 0, .int .i64 0, .int .i64 0, .int .i64 0, .int .i64 0, .string ⟨#[]⟩, .int .i64 0, .bool false] 29)) (w.heap.size + 1) 29 #[.int .i64 0, .int .i64 0, .int .i64 0, .int .i64 0, .int .i64 0, .string ⟨#[]⟩, .int .i64 0, .bool false]) := Lib.hid (by have := Row.made (w.alloc (.cells #[.int .i64 0, .int .i64 0, .int .i64 0, .int .i64 0, .int .i64 0, .string ⟨#[]⟩, .int .i64 0, .bool false] 29)) 29 #[.int .i64 0, .int .i64 0, .int .i64 0, .int .i64 0, .int .i64 0, .string ⟨#[]⟩, .int .i64 0, .bool false]; rwa [World.size_alloc] at this)
 have G0 : Hid (Below w.heap.size w ((w.alloc (.cells #[.int .i64 0, .int .i64 0, .int .i64 0, .int .i64 0, .int .i64 0, .string ⟨#[]⟩, .int .i64 0, .bool false] 29)).alloc (.cells #[.int .i64 0, .int .i64 0, .int .i64 0, .int .i64 0, .int .i64 0, .string ⟨#[]⟩, .int .i64 0, .bool false] 29))) := Lib.hid (((Below.refl _ _).alloc (Nat.le_refl _) _).alloc (by simp) _)
 have hW0 : ((w.alloc (.cells #[.int .i64 0, .int .i64 0, .int .i64 0, .int .i64 0, .int .i64 0, .string ⟨#[]⟩, .int .i64 0, .bool false] 29)).alloc (.cells #[.int .i64 0, .int .i64 0, .int .i64 0, .int .i64 0, .int .i64 0, .string ⟨#[]⟩, .int .i64 0, .bool false] 29)).heap.size = w.heap.size + 1 + 1 := by simp
 have HW0 := Lib.hid hW0
 clear hW0
 by_cases hbig : 65536 < s.length
 ·have hE : Pck.getMet s = (Pck.zeroM, 6) := if_pos hbig
  have hsz : decide ((65536 : Int) < ((mk s).size : Int)) = true := decide_eq_true (by rw [mk_len]; omega)
  rw [hE]
  clear hE hbig hs
  generalize mk s = S at *
  go_enter Try.func46, Try.ntmps46
  go_wp2_with (first | (refine wpList_mload (cs := [.int .i64 0, .int .i64 0, .int .i64 0, .int .i64 0, .int .i64 0, .string ⟨#[]⟩, .int .i64 0, .bool false]) (by rfl) (.tmp 8) (by rfl) (by rfl) (row_lies (cs := [.int .i64 0, .int .i64 0, .int .i64 0, .int .i64 0, .int .i64 0, .string ⟨#[]⟩, .int .i64 0, .bool false]) Q8.out Hfu.out Hsz.out) ?_) | (refine wpList_rstore (cs := [.int .i64 0, .int .i64 0, .int .i64 0, .int .i64 0, .int .i64 0, .string ⟨#[]⟩, .int .i64 0, .bool false]) (by rfl) (.tmp 6) (.tmp 15) (by rfl) (by rfl) (by rfl) Q6.out Hsz.out rfl (by simp [Value.oneCell']) ?_; rintro w9 hr9 hk9; have R9 := Lib.hid hr9; have B9 := Lib.hid (below_kept G0.out hk9 (fun i e => by omega))))
  refine bodyPost_ret (v := .tuple #[.agg #[.int .i64 0, .int .i64 0, .int .i64 0, .int .i64 0, .int .i64 0, .string ⟨#[]⟩, .int .i64 0, .bool false], .int .i64 6]) ?_ rfl ⟨rfl, B9.out⟩
  rw [results_cell_tmp (by rfl)]
  have hl := run_loadVar_row (P := Try.prog) _ w.heap.size 29 29 _ (0, 0) _ R9.out Try.underlying29 rfl Hsz.out
  simp [asAddr, hl, Result.andThen]
  try rfl
 ·have hsz : decide ((65536 : Int) < ((mk s).size : Int)) = false := decide_eq_false (by rw [mk_len]; omega)
  have hsl : s.length ≤ 65536 := by omega
  have OV := Lib.hid (fun W => pck_over s W)
  have RD := Lib.hid (fun (W : World) (p : Nat) (h : RdL W p s 0) => pck_met h (by omega))
  have PW := Lib.hid (fun W => pck_PutMeta (Pck.rdMet s 0).1 UO (Pck.rdMet_bd (by omega)) W)
  have hG : Pck.getMet s = if (Pck.putMet (Pck.rdMet s 0).1).2 = 0 ∧ (Pck.putMet (Pck.rdMet s 0).1).1 = s then ((Pck.rdMet s 0).1, 0) else (Pck.zeroM, 6) := if_neg hbig
  generalize Pck.putMet (Pck.rdMet s 0).1 = pp at *
  generalize Pck.rdMet s 0 = rr at *
  obtain ⟨X, lr, er⟩ := rr
  obtain ⟨ab, r⟩ := pp
  dsimp only at hG RD PW
  have hS : (((mk ab).toList == (mk s).toList) = decide (ab = s)) := by
   rw [Lib.toList_data, Lib.toList_data, mk_data, mk_data]
   rw [Bool.eq_iff_iff, beq_iff_eq, decide_eq_true_iff]
  have hS2 : (((mk ab).toList != (mk s).toList) = !decide (ab = s)) := by
   unfold bne
   rw [hS]
  by_cases hr0 : r = 0
  ·by_cases hab : ab = s
   ·rw [if_pos ⟨hr0, hab⟩] at hG
    rw [hG]
    rw [decide_eq_true hab] at hS hS2
    have hrr : (r != 0) = false := by rw [hr0]; rfl
    have HRR := Lib.hid hr0
    clear hG hr0 hab hbig hs hsl
    rw [Bool.not_true] at hS2
    generalize mk ab = AB at *
    generalize mk s = S at *
    dsimp only [mtA] at RD PW ⊢
    go_enter Try.func46, Try.ntmps46
    go_wp2_with fail
    refine (OV.out _).mono ?_
    rintro e w1 ⟨p, rfl, h1, hp, b1⟩
    have HP : Hid (w.heap.size + 1 + 1 ≤ p) := Lib.hid (by simpa using hp)
    have A6 := Lib.hid (Q6.out.below b1 Q6.out.inHeap)
    have A8 := Lib.hid (Q8.out.below b1 Q8.out.inHeap)
    have D1 := Lib.hid h1
    have B1 := Lib.hid (G0.out.trans (b1.mono G0.out.size))
    clear h1 b1 hp
    go_wp2_with fail
    refine (RD.out _ _ D1.out).mono ?_
    rintro e w2 ⟨rfl, h2, g2⟩
    have C6 := Lib.hid (A6.out.grown g2 (fun e => by have := HP.out; injection e with e; omega))
    have C8 := Lib.hid (A8.out.grown g2 (fun e => by have := HP.out; injection e with e; omega))
    have B2 := Lib.hid (gb_out B1.out g2 (by have := HP.out; omega))
    have R9a := Lib.hid (Row.made w2 29 #[.int .i64 X.item.by_, .int .i64 X.item.n, .int .i64 X.stamp.v.by_, .int .i64 X.stamp.v.n, .int .i64 X.stamp.time, .string (mk X.path), .int .i64 X.size, .bool X.dead])
    have E6 := Lib.hid (C6.out.behindNew (.cells #[.int .i64 X.item.by_, .int .i64 X.item.n, .int .i64 X.stamp.v.by_, .int .i64 X.stamp.v.n, .int .i64 X.stamp.time, .string (mk X.path), .int .i64 X.size, .bool X.dead] 29))
    have E8 := Lib.hid (C8.out.behindNew (.cells #[.int .i64 X.item.by_, .int .i64 X.item.n, .int .i64 X.stamp.v.by_, .int .i64 X.stamp.v.n, .int .i64 X.stamp.time, .string (mk X.path), .int .i64 X.size, .bool X.dead] 29))
    have B3 := Lib.hid (B2.out.alloc B2.out.size (.cells #[.int .i64 X.item.by_, .int .i64 X.item.n, .int .i64 X.stamp.v.by_, .int .i64 X.stamp.v.n, .int .i64 X.stamp.time, .string (mk X.path), .int .i64 X.size, .bool X.dead] 29))
    clear h2 g2
    go_wp2_with (refine wpList_mload (cs := [.int .i64 X.item.by_, .int .i64 X.item.n, .int .i64 X.stamp.v.by_, .int .i64 X.stamp.v.n, .int .i64 X.stamp.time, .string (mk X.path), .int .i64 X.size, .bool X.dead]) (by rfl) (.tmp 9) (by rfl) (by rfl) (row_lies (cs := [.int .i64 X.item.by_, .int .i64 X.item.n, .int .i64 X.stamp.v.by_, .int .i64 X.stamp.v.n, .int .i64 X.stamp.time, .string (mk X.path), .int .i64 X.size, .bool X.dead]) R9a.out Hfu.out Hsz.out) ?_)
    refine (PW.out _).mono ?_
    rintro e w3 ⟨rfl, b3⟩
    have F6 := Lib.hid (E6.out.below b3 E6.out.inHeap)
    have F8 := Lib.hid (E8.out.below b3 E8.out.inHeap)
    have FX := Lib.hid (R9a.out.below b3 R9a.out.inHeap)
    have B4 := Lib.hid (B3.out.trans (b3.mono B3.out.size))
    clear b3
    go_wp2_with (first | (refine wpList_mload (cs := [.int .i64 X.item.by_, .int .i64 X.item.n, .int .i64 X.stamp.v.by_, .int .i64 X.stamp.v.n, .int .i64 X.stamp.time, .string (mk X.path), .int .i64 X.size, .bool X.dead]) (by rfl) (.tmp 9) (by rfl) (by rfl) (row_lies (cs := [.int .i64 X.item.by_, .int .i64 X.item.n, .int .i64 X.stamp.v.by_, .int .i64 X.stamp.v.n, .int .i64 X.stamp.time, .string (mk X.path), .int .i64 X.size, .bool X.dead]) FX.out Hfu.out Hsz.out) ?_) | (refine wpList_rstore (cs := [.int .i64 X.item.by_, .int .i64 X.item.n, .int .i64 X.stamp.v.by_, .int .i64 X.stamp.v.n, .int .i64 X.stamp.time, .string (mk X.path), .int .i64 X.size, .bool X.dead]) (by rfl) (.tmp 6) (.tmp 34) (by rfl) (by rfl) (by rfl) F6.out Hsz.out rfl (by simp [Value.oneCell']) ?_; rintro w9 hr9 hk9; have R9 := Lib.hid hr9; have B9 := Lib.hid (below_kept B4.out hk9 (fun i e => by omega))))
    refine bodyPost_ret (v := .tuple #[.agg #[.int .i64 X.item.by_, .int .i64 X.item.n, .int .i64 X.stamp.v.by_, .int .i64 X.stamp.v.n, .int .i64 X.stamp.time, .string (mk X.path), .int .i64 X.size, .bool X.dead], .int .i64 0]) ?_ rfl ⟨rfl, B9.out⟩
    rw [results_cell_tmp (by rfl)]
    have hl := run_loadVar_row (P := Try.prog) _ w.heap.size 29 29 _ (0, 0) _ R9.out Try.underlying29 rfl Hsz.out
    simp [asAddr, hl, Result.andThen]
    try rfl
   ·rw [if_neg (fun h => hab h.2)] at hG
    rw [hG]
    rw [decide_eq_false hab] at hS hS2
    have hrr : (r != 0) = false := by rw [hr0]; rfl
    clear hG hr0 hab hbig hs hsl
    rw [Bool.not_false] at hS2
    generalize mk ab = AB at *
    generalize mk s = S at *
    dsimp only [mtA] at RD PW ⊢
    go_enter Try.func46, Try.ntmps46
    go_wp2_with fail
    refine (OV.out _).mono ?_
    rintro e w1 ⟨p, rfl, h1, hp, b1⟩
    have HP : Hid (w.heap.size + 1 + 1 ≤ p) := Lib.hid (by simpa using hp)
    have A6 := Lib.hid (Q6.out.below b1 Q6.out.inHeap)
    have A8 := Lib.hid (Q8.out.below b1 Q8.out.inHeap)
    have D1 := Lib.hid h1
    have B1 := Lib.hid (G0.out.trans (b1.mono G0.out.size))
    clear h1 b1 hp
    go_wp2_with fail
    refine (RD.out _ _ D1.out).mono ?_
    rintro e w2 ⟨rfl, h2, g2⟩
    have C6 := Lib.hid (A6.out.grown g2 (fun e => by have := HP.out; injection e with e; omega))
    have C8 := Lib.hid (A8.out.grown g2 (fun e => by have := HP.out; injection e with e; omega))
    have B2 := Lib.hid (gb_out B1.out g2 (by have := HP.out; omega))
    have R9a := Lib.hid (Row.made w2 29 #[.int .i64 X.item.by_, .int .i64 X.item.n, .int .i64 X.stamp.v.by_, .int .i64 X.stamp.v.n, .int .i64 X.stamp.time, .string (mk X.path), .int .i64 X.size, .bool X.dead])
    have E6 := Lib.hid (C6.out.behindNew (.cells #[.int .i64 X.item.by_, .int .i64 X.item.n, .int .i64 X.stamp.v.by_, .int .i64 X.stamp.v.n, .int .i64 X.stamp.time, .string (mk X.path), .int .i64 X.size, .bool X.dead] 29))
    have E8 := Lib.hid (C8.out.behindNew (.cells #[.int .i64 X.item.by_, .int .i64 X.item.n, .int .i64 X.stamp.v.by_, .int .i64 X.stamp.v.n, .int .i64 X.stamp.time, .string (mk X.path), .int .i64 X.size, .bool X.dead] 29))
    have B3 := Lib.hid (B2.out.alloc B2.out.size (.cells #[.int .i64 X.item.by_, .int .i64 X.item.n, .int .i64 X.stamp.v.by_, .int .i64 X.stamp.v.n, .int .i64 X.stamp.time, .string (mk X.path), .int .i64 X.size, .bool X.dead] 29))
    clear h2 g2
    go_wp2_with (refine wpList_mload (cs := [.int .i64 X.item.by_, .int .i64 X.item.n, .int .i64 X.stamp.v.by_, .int .i64 X.stamp.v.n, .int .i64 X.stamp.time, .string (mk X.path), .int .i64 X.size, .bool X.dead]) (by rfl) (.tmp 9) (by rfl) (by rfl) (row_lies (cs := [.int .i64 X.item.by_, .int .i64 X.item.n, .int .i64 X.stamp.v.by_, .int .i64 X.stamp.v.n, .int .i64 X.stamp.time, .string (mk X.path), .int .i64 X.size, .bool X.dead]) R9a.out Hfu.out Hsz.out) ?_)
    refine (PW.out _).mono ?_
    rintro e w3 ⟨rfl, b3⟩
    have F6 := Lib.hid (E6.out.below b3 E6.out.inHeap)
    have F8 := Lib.hid (E8.out.below b3 E8.out.inHeap)
    have FX := Lib.hid (R9a.out.below b3 R9a.out.inHeap)
    have B4 := Lib.hid (B3.out.trans (b3.mono B3.out.size))
    clear b3
    go_wp2_with (first | (refine wpList_mload (cs := [.int .i64 0, .int .i64 0, .int .i64 0, .int .i64 0, .int .i64 0, .string ⟨#[]⟩, .int .i64 0, .bool false]) (by rfl) (.tmp 8) (by rfl) (by rfl) (row_lies (cs := [.int .i64 0, .int .i64 0, .int .i64 0, .int .i64 0, .int .i64 0, .string ⟨#[]⟩, .int .i64 0, .bool false]) F8.out Hfu.out Hsz.out) ?_) | (refine wpList_rstore (cs := [.int .i64 0, .int .i64 0, .int .i64 0, .int .i64 0, .int .i64 0, .string ⟨#[]⟩, .int .i64 0, .bool false]) (by rfl) (.tmp 6) (.tmp 33) (by rfl) (by rfl) (by rfl) F6.out Hsz.out rfl (by simp [Value.oneCell']) ?_; rintro w9 hr9 hk9; have R9 := Lib.hid hr9; have B9 := Lib.hid (below_kept B4.out hk9 (fun i e => by omega))))
    refine bodyPost_ret (v := .tuple #[.agg #[.int .i64 0, .int .i64 0, .int .i64 0, .int .i64 0, .int .i64 0, .string ⟨#[]⟩, .int .i64 0, .bool false], .int .i64 6]) ?_ rfl ⟨rfl, B9.out⟩
    rw [results_cell_tmp (by rfl)]
    have hl := run_loadVar_row (P := Try.prog) _ w.heap.size 29 29 _ (0, 0) _ R9.out Try.underlying29 rfl Hsz.out
    simp [asAddr, hl, Result.andThen]
    try rfl
  ·rw [if_neg (fun h => hr0 h.1)] at hG
   rw [hG]
   have hrr : (r != 0) = true := by simpa using hr0
   clear hG hr0 hbig hs hsl hS hS2
   generalize mk ab = AB at *
   generalize mk s = S at *
   dsimp only [mtA] at RD PW ⊢
   go_enter Try.func46, Try.ntmps46
   go_wp2_with fail
   refine (OV.out _).mono ?_
   rintro e w1 ⟨p, rfl, h1, hp, b1⟩
   have HP : Hid (w.heap.size + 1 + 1 ≤ p) := Lib.hid (by simpa using hp)
   have A6 := Lib.hid (Q6.out.below b1 Q6.out.inHeap)
   have A8 := Lib.hid (Q8.out.below b1 Q8.out.inHeap)
   have D1 := Lib.hid h1
   have B1 := Lib.hid (G0.out.trans (b1.mono G0.out.size))
   clear h1 b1 hp
   go_wp2_with fail
   refine (RD.out _ _ D1.out).mono ?_
   rintro e w2 ⟨rfl, h2, g2⟩
   have C6 := Lib.hid (A6.out.grown g2 (fun e => by have := HP.out; injection e with e; omega))
   have C8 := Lib.hid (A8.out.grown g2 (fun e => by have := HP.out; injection e with e; omega))
   have B2 := Lib.hid (gb_out B1.out g2 (by have := HP.out; omega))
   have R9a := Lib.hid (Row.made w2 29 #[.int .i64 X.item.by_, .int .i64 X.item.n, .int .i64 X.stamp.v.by_, .int .i64 X.stamp.v.n, .int .i64 X.stamp.time, .string (mk X.path), .int .i64 X.size, .bool X.dead])
   have E6 := Lib.hid (C6.out.behindNew (.cells #[.int .i64 X.item.by_, .int .i64 X.item.n, .int .i64 X.stamp.v.by_, .int .i64 X.stamp.v.n, .int .i64 X.stamp.time, .string (mk X.path), .int .i64 X.size, .bool X.dead] 29))
   have E8 := Lib.hid (C8.out.behindNew (.cells #[.int .i64 X.item.by_, .int .i64 X.item.n, .int .i64 X.stamp.v.by_, .int .i64 X.stamp.v.n, .int .i64 X.stamp.time, .string (mk X.path), .int .i64 X.size, .bool X.dead] 29))
   have B3 := Lib.hid (B2.out.alloc B2.out.size (.cells #[.int .i64 X.item.by_, .int .i64 X.item.n, .int .i64 X.stamp.v.by_, .int .i64 X.stamp.v.n, .int .i64 X.stamp.time, .string (mk X.path), .int .i64 X.size, .bool X.dead] 29))
   clear h2 g2
   go_wp2_with (refine wpList_mload (cs := [.int .i64 X.item.by_, .int .i64 X.item.n, .int .i64 X.stamp.v.by_, .int .i64 X.stamp.v.n, .int .i64 X.stamp.time, .string (mk X.path), .int .i64 X.size, .bool X.dead]) (by rfl) (.tmp 9) (by rfl) (by rfl) (row_lies (cs := [.int .i64 X.item.by_, .int .i64 X.item.n, .int .i64 X.stamp.v.by_, .int .i64 X.stamp.v.n, .int .i64 X.stamp.time, .string (mk X.path), .int .i64 X.size, .bool X.dead]) R9a.out Hfu.out Hsz.out) ?_)
   refine (PW.out _).mono ?_
   rintro e w3 ⟨rfl, b3⟩
   have F6 := Lib.hid (E6.out.below b3 E6.out.inHeap)
   have F8 := Lib.hid (E8.out.below b3 E8.out.inHeap)
   have FX := Lib.hid (R9a.out.below b3 R9a.out.inHeap)
   have B4 := Lib.hid (B3.out.trans (b3.mono B3.out.size))
   clear b3
   go_wp2_with (first | (refine wpList_mload (cs := [.int .i64 0, .int .i64 0, .int .i64 0, .int .i64 0, .int .i64 0, .string ⟨#[]⟩, .int .i64 0, .bool false]) (by rfl) (.tmp 8) (by rfl) (by rfl) (row_lies (cs := [.int .i64 0, .int .i64 0, .int .i64 0, .int .i64 0, .int .i64 0, .string ⟨#[]⟩, .int .i64 0, .bool false]) F8.out Hfu.out Hsz.out) ?_) | (refine wpList_rstore (cs := [.int .i64 0, .int .i64 0, .int .i64 0, .int .i64 0, .int .i64 0, .string ⟨#[]⟩, .int .i64 0, .bool false]) (by rfl) (.tmp 6) (.tmp 33) (by rfl) (by rfl) (by rfl) F6.out Hsz.out rfl (by simp [Value.oneCell']) ?_; rintro w9 hr9 hk9; have R9 := Lib.hid hr9; have B9 := Lib.hid (below_kept B4.out hk9 (fun i e => by omega))))
   refine bodyPost_ret (v := .tuple #[.agg #[.int .i64 0, .int .i64 0, .int .i64 0, .int .i64 0, .int .i64 0, .string ⟨#[]⟩, .int .i64 0, .bool false], .int .i64 6]) ?_ rfl ⟨rfl, B9.out⟩
   rw [results_cell_tmp (by rfl)]
   have hl := run_loadVar_row (P := Try.prog) _ w.heap.size 29 29 _ (0, 0) _ R9.out Try.underlying29 rfl Hsz.out
   simp [asAddr, hl, Result.andThen]
   try rfl
open Go.RowKit Go.Sort
theorem pck_GetUpdate (UO : UpdateOk) (s : List UInt8) (hs : s.length ≤ 140737488355328) (w : World) :
  Calls Try.prog 15 #[.string (mk s)] w fun e w' => e = .returned (.tuple #[upA (Pck.getUpd s).1, .int .i64 (Pck.getUpd s).2]) ∧ Below w.heap.size w w' := by
 have Hsz : Hid ((Try.prog.info? 27).map (·.size) = some 8) := Lib.hid (by kernel_rfl)
 have Q6 := Lib.hid (Row.made w 27 #[.int .i64 0, .int .i64 0, .int .i64 0, .int .i64 0, .int .i64 0, .string ⟨#[]⟩, .string ⟨#[]⟩, .bool false])
 have G0 : Hid (Below w.heap.size w (w.alloc (.cells #[.int .i64 0, .int .i64 0, .int .i64 0, .int .i64 0, .int .i64 0, .string ⟨#[]⟩, .string ⟨#[]⟩, .bool false] 27))) := Lib.hid ((Below.refl _ _).alloc (Nat.le_refl _) _)
 have GT := Lib.hid (fun W => pck_get_upd UO s hs W)
 generalize Pck.getUpd s = g at *
 obtain ⟨X, r⟩ := g
 clear hs
 generalize mk s = S at *
 dsimp only [upA] at GT ⊢
 go_enter Try.func15, Try.ntmps15
 go_wp2_with fail
 refine (GT.out _).mono ?_
 rintro e w1 ⟨rfl, b1⟩
 have A6 := Lib.hid (Q6.out.below b1 Q6.out.inHeap)
 have B1 := Lib.hid (G0.out.trans (b1.mono G0.out.size))
 clear b1
 go_wp2_with (refine wpList_rstore (cs := [.int .i64 X.item.by_, .int .i64 X.item.n, .int .i64 X.stamp.v.by_, .int .i64 X.stamp.v.n, .int .i64 X.stamp.time, .string (mk X.path), .string (mk X.data), .bool X.dead]) (by rfl) (.tmp 2) (.tmp 6) (by rfl) (by rfl) (by rfl) A6.out Hsz.out rfl (by simp [Value.oneCell']) ?_; rintro w9 hr9 hk9; have R9 := Lib.hid hr9; have B9 := Lib.hid (below_kept B1.out hk9 (fun i e => by omega)); clear hr9 hk9)
 refine bodyPost_ret (v := .tuple #[.agg #[.int .i64 X.item.by_, .int .i64 X.item.n, .int .i64 X.stamp.v.by_, .int .i64 X.stamp.v.n, .int .i64 X.stamp.time, .string (mk X.path), .string (mk X.data), .bool X.dead], .int .i64 r]) ?_ rfl ⟨rfl, B9.out⟩
 rw [results_cell_tmp (by rfl)]
 have hl := run_loadVar_row (P := Try.prog) _ w.heap.size 27 27 _ (0, 0) _ R9.out Try.underlying27 rfl Hsz.out
 simp [asAddr, hl, Result.andThen]
theorem pck_GetMeta (UO : UpdateOk) (s : List UInt8) (hs : s.length ≤ 140737488355328) (w : World) :
  Calls Try.prog 16 #[.string (mk s)] w fun e w' => e = .returned (.tuple #[mtA (Pck.getMet s).1, .int .i64 (Pck.getMet s).2]) ∧ Below w.heap.size w w' := by
 have Hsz : Hid ((Try.prog.info? 29).map (·.size) = some 8) := Lib.hid (by kernel_rfl)
 have Q6 := Lib.hid (Row.made w 29 #[.int .i64 0, .int .i64 0, .int .i64 0, .int .i64 0, .int .i64 0, .string ⟨#[]⟩, .int .i64 0, .bool false])
 have G0 : Hid (Below w.heap.size w (w.alloc (.cells #[.int .i64 0, .int .i64 0, .int .i64 0, .int .i64 0, .int .i64 0, .string ⟨#[]⟩, .int .i64 0, .bool false] 29))) := Lib.hid ((Below.refl _ _).alloc (Nat.le_refl _) _)
 have GT := Lib.hid (fun W => pck_get_met UO s hs W)
 generalize Pck.getMet s = g at *
 obtain ⟨X, r⟩ := g
 clear hs
 generalize mk s = S at *
 dsimp only [mtA] at GT ⊢
 go_enter Try.func16, Try.ntmps16
 go_wp2_with fail
 refine (GT.out _).mono ?_
 rintro e w1 ⟨rfl, b1⟩
 have A6 := Lib.hid (Q6.out.below b1 Q6.out.inHeap)
 have B1 := Lib.hid (G0.out.trans (b1.mono G0.out.size))
 clear b1
 go_wp2_with (refine wpList_rstore (cs := [.int .i64 X.item.by_, .int .i64 X.item.n, .int .i64 X.stamp.v.by_, .int .i64 X.stamp.v.n, .int .i64 X.stamp.time, .string (mk X.path), .int .i64 X.size, .bool X.dead]) (by rfl) (.tmp 2) (.tmp 6) (by rfl) (by rfl) (by rfl) A6.out Hsz.out rfl (by simp [Value.oneCell']) ?_; rintro w9 hr9 hk9; have R9 := Lib.hid hr9; have B9 := Lib.hid (below_kept B1.out hk9 (fun i e => by omega)); clear hr9 hk9)
 refine bodyPost_ret (v := .tuple #[.agg #[.int .i64 X.item.by_, .int .i64 X.item.n, .int .i64 X.stamp.v.by_, .int .i64 X.stamp.v.n, .int .i64 X.stamp.time, .string (mk X.path), .int .i64 X.size, .bool X.dead], .int .i64 r]) ?_ rfl ⟨rfl, B9.out⟩
 rw [results_cell_tmp (by rfl)]
 have hl := run_loadVar_row (P := Try.prog) _ w.heap.size 29 29 _ (0, 0) _ R9.out Try.underlying29 rfl Hsz.out
 simp [asAddr, hl, Result.andThen]
end Go.Proofs.Ytkacfmaogiblfaa
