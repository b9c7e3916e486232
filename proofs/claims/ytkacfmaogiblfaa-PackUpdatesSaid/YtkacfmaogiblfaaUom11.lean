import Derived.Test.YtkacfmaogiblfaaUom10
import Derived.Test.YtkacfmaogiblfaaUom8
import Derived.Test.YtkacfmaogiblfaaUom7
import Derived.Test.YtkacfmaogiblfaaUom9
set_option maxRecDepth 100000
set_option linter.all false
set_option maxHeartbeats 12800000
namespace Go.Proofs.Ytkacfmaogiblfaa
open Go.RowKit Go.Sort
theorem pck_PutUpdate (UO : UpdateOk) (u : Upd.U) (hb : Upd.Bd u) (w : World) :
  Calls Try.prog 8 #[upA u] w fun e w' => e = .returned (.tuple #[.string (mk (Pck.putUpd u).1), .int .i64 (Pck.putUpd u).2]) ∧ Below w.heap.size w w' := by
 have CK := Lib.hid (fun W => UO.check (w := W) u hb)
 have PP := Lib.hid (fun W => pck_put_upd UO u hb W)
 have ht : (Upd.err u == 0) = decide (Pck.OkUpd u) := by rw [Bool.eq_iff_iff, beq_iff_eq, decide_eq_true_iff]; exact Iff.rfl
 rw [show Pck.putOf (Pck.OkUpd u) (Pck.upd u) = Pck.putUpd u from rfl] at PP
 generalize Upd.err u = ec at *
 clear hb UO
 have HR : Hid ((Pck.putUpd u) = _) := Lib.hid rfl
 generalize hres : (Pck.putUpd u) = res at *
 clear HR hres
 generalize decide (Pck.OkUpd u) = t at *
 obtain ⟨rb, re⟩ := res
 dsimp only at *
 generalize mk rb = B at *
 have RB := Lib.hid (Row.made w 27 #[.int .i64 u.item.by_, .int .i64 u.item.n, .int .i64 u.stamp.v.by_, .int .i64 u.stamp.v.n, .int .i64 u.stamp.time, .string (mk u.path), .string (mk u.data), .bool u.dead])
 have Hsz : Hid ((Try.prog.info? 27).map (·.size) = some 8) := Lib.hid (by kernel_rfl)
 have Hfu : Hid (∃ d, Try.prog.underlying 27 = some d ∧ d.isRow = true) := Lib.hid ⟨_, Try.underlying27, rfl⟩
 have G0 : Hid (Below w.heap.size w (w.alloc (.cells #[.int .i64 u.item.by_, .int .i64 u.item.n, .int .i64 u.stamp.v.by_, .int .i64 u.stamp.v.n, .int .i64 u.stamp.time, .string (mk u.path), .string (mk u.data), .bool u.dead] 27))) := Lib.hid ((Below.refl _ _).alloc (Nat.le_refl _) _)
 go_enter Try.func8, Try.ntmps8
 go_wp2_with fail
 refine wp_region_held_drew (S := (Below (w.alloc (.cells #[.int .i64 u.item.by_, .int .i64 u.item.n, .int .i64 u.stamp.v.by_, .int .i64 u.stamp.v.n, .int .i64 u.stamp.time, .string (mk u.path), .string (mk u.data), .bool u.dead] 27)).heap.size (w.alloc (.cells #[.int .i64 u.item.by_, .int .i64 u.item.n, .int .i64 u.stamp.v.by_, .int .i64 u.stamp.v.n, .int .i64 u.stamp.time, .string (mk u.path), .string (mk u.data), .bool u.dead] 27)))) (by kernel_rfl) (Below.drew (Below.refl _ _)) (fun hHeld => ?_)
 refine wpAnyH_tk (i := 0) (v := .agg #[.int .i64 u.item.by_, .int .i64 u.item.n, .int .i64 u.stamp.v.by_, .int .i64 u.stamp.v.n, .int .i64 u.stamp.time, .string (mk u.path), .string (mk u.data), .bool u.dead]) rfl (Or.inl ⟨by rfl, (by intro w hSw; exact exec_mload (by rfl) (by rfl) (row_lies (cs := [.int .i64 u.item.by_, .int .i64 u.item.n, .int .i64 u.stamp.v.by_, .int .i64 u.stamp.v.n, .int .i64 u.stamp.time, .string (mk u.path), .string (mk u.data), .bool u.dead]) (RB.out.below hSw RB.out.inHeap) Hfu.out Hsz.out))⟩) (by assumption) ?_
 simp only [zz]
 refine wpAnyH_tk (i := 1) (v := .agg #[.int .i64 u.item.by_, .int .i64 u.item.n, .int .i64 u.stamp.v.by_, .int .i64 u.stamp.v.n, .int .i64 u.stamp.time, .string (mk u.path), .string (mk u.data), .bool u.dead]) rfl (Or.inl ⟨by rfl, (by intro w hSw; exact exec_mload (by rfl) (by rfl) (row_lies (cs := [.int .i64 u.item.by_, .int .i64 u.item.n, .int .i64 u.stamp.v.by_, .int .i64 u.stamp.v.n, .int .i64 u.stamp.time, .string (mk u.path), .string (mk u.data), .bool u.dead]) (RB.out.below hSw RB.out.inHeap) Hfu.out Hsz.out))⟩) (by assumption) ?_
 simp only [zz]
 refine wpAnyH_ready (rs := [2]) (by kernel_rfl) (by simp) ?_
 refine AllReadyH.cons rfl (fun K hK => ?_) AllReadyH.nil
 go_simp
 go_at_call 33
 refine (CK.out _).mono ?_
 rintro e w1 ⟨rfl, hb⟩
 have B1 := Lib.hid (hHeld.trans (hb.mono hHeld.size))
 refine hK.out _ _ B1.out (fun hHeld => ?_)
 clear hb
 clear hK K
 refine wpAnyH_td (i := 3) rfl ?_
 simp only [zz]
 refine wpAnyH_ready (rs := [4]) (by kernel_rfl) (by simp) ?_
 refine AllReadyH.cons rfl (fun K hK => ?_) AllReadyH.nil
 go_simp
 go_at_call 32
 refine (PP.out _).mono ?_
 rintro e w2 ⟨rfl, hb⟩
 have B2 := Lib.hid (hHeld.trans (hb.mono hHeld.size))
 refine hK.out _ _ B2.out (fun hHeld => ?_)
 clear hb
 clear hK K
 refine wpAnyH_td (i := 5) rfl ?_
 simp only [zz]
 refine wpAnyH_td (i := 6) rfl ?_
 simp only [zz]
 refine wpAnyH_td (i := 7) rfl ?_
 simp only [zz]
 refine wpAnyH_td (i := 8) rfl ?_
 simp only [zz]
 refine wpAnyH_done (by kernel_rfl) ?_ _
 go_wp2_with fail
 go_ret2
 exact ⟨rfl, G0.out.trans (B2.out.mono G0.out.size)⟩
theorem pck_PutMeta (u : Upd.M) (UO : UpdateOk) (hb : Upd.BdM u) (w : World) :
  Calls Try.prog 9 #[mtA u] w fun e w' => e = .returned (.tuple #[.string (mk (Pck.putMet u).1), .int .i64 (Pck.putMet u).2]) ∧ Below w.heap.size w w' := by
 have CK := Lib.hid (fun W => UO.checkM (w := W) u hb)
 have PP := Lib.hid (fun W => pck_put_met u hb W)
 have ht : (Upd.errM u == 0) = decide (Pck.OkMet u) := by rw [Bool.eq_iff_iff, beq_iff_eq, decide_eq_true_iff]; exact Iff.rfl
 rw [show Pck.putOf (Pck.OkMet u) (Pck.met u) = Pck.putMet u from rfl] at PP
 generalize Upd.errM u = ec at *
 clear hb UO
 have HR : Hid ((Pck.putMet u) = _) := Lib.hid rfl
 generalize hres : (Pck.putMet u) = res at *
 clear HR hres
 generalize decide (Pck.OkMet u) = t at *
 obtain ⟨rb, re⟩ := res
 dsimp only at *
 generalize mk rb = B at *
 have RB := Lib.hid (Row.made w 29 #[.int .i64 u.item.by_, .int .i64 u.item.n, .int .i64 u.stamp.v.by_, .int .i64 u.stamp.v.n, .int .i64 u.stamp.time, .string (mk u.path), .int .i64 u.size, .bool u.dead])
 have Hsz : Hid ((Try.prog.info? 29).map (·.size) = some 8) := Lib.hid (by kernel_rfl)
 have Hfu : Hid (∃ d, Try.prog.underlying 29 = some d ∧ d.isRow = true) := Lib.hid ⟨_, Try.underlying29, rfl⟩
 have G0 : Hid (Below w.heap.size w (w.alloc (.cells #[.int .i64 u.item.by_, .int .i64 u.item.n, .int .i64 u.stamp.v.by_, .int .i64 u.stamp.v.n, .int .i64 u.stamp.time, .string (mk u.path), .int .i64 u.size, .bool u.dead] 29))) := Lib.hid ((Below.refl _ _).alloc (Nat.le_refl _) _)
 go_enter Try.func9, Try.ntmps9
 go_wp2_with fail
 refine wp_region_held_drew (S := (Below (w.alloc (.cells #[.int .i64 u.item.by_, .int .i64 u.item.n, .int .i64 u.stamp.v.by_, .int .i64 u.stamp.v.n, .int .i64 u.stamp.time, .string (mk u.path), .int .i64 u.size, .bool u.dead] 29)).heap.size (w.alloc (.cells #[.int .i64 u.item.by_, .int .i64 u.item.n, .int .i64 u.stamp.v.by_, .int .i64 u.stamp.v.n, .int .i64 u.stamp.time, .string (mk u.path), .int .i64 u.size, .bool u.dead] 29)))) (by kernel_rfl) (Below.drew (Below.refl _ _)) (fun hHeld => ?_)
 refine wpAnyH_tk (i := 0) (v := .agg #[.int .i64 u.item.by_, .int .i64 u.item.n, .int .i64 u.stamp.v.by_, .int .i64 u.stamp.v.n, .int .i64 u.stamp.time, .string (mk u.path), .int .i64 u.size, .bool u.dead]) rfl (Or.inl ⟨by rfl, (by intro w hSw; exact exec_mload (by rfl) (by rfl) (row_lies (cs := [.int .i64 u.item.by_, .int .i64 u.item.n, .int .i64 u.stamp.v.by_, .int .i64 u.stamp.v.n, .int .i64 u.stamp.time, .string (mk u.path), .int .i64 u.size, .bool u.dead]) (RB.out.below hSw RB.out.inHeap) Hfu.out Hsz.out))⟩) (by assumption) ?_
 simp only [zz]
 refine wpAnyH_tk (i := 1) (v := .agg #[.int .i64 u.item.by_, .int .i64 u.item.n, .int .i64 u.stamp.v.by_, .int .i64 u.stamp.v.n, .int .i64 u.stamp.time, .string (mk u.path), .int .i64 u.size, .bool u.dead]) rfl (Or.inl ⟨by rfl, (by intro w hSw; exact exec_mload (by rfl) (by rfl) (row_lies (cs := [.int .i64 u.item.by_, .int .i64 u.item.n, .int .i64 u.stamp.v.by_, .int .i64 u.stamp.v.n, .int .i64 u.stamp.time, .string (mk u.path), .int .i64 u.size, .bool u.dead]) (RB.out.below hSw RB.out.inHeap) Hfu.out Hsz.out))⟩) (by assumption) ?_
 simp only [zz]
 refine wpAnyH_ready (rs := [2]) (by kernel_rfl) (by simp) ?_
 refine AllReadyH.cons rfl (fun K hK => ?_) AllReadyH.nil
 go_simp
 go_at_call 36
 refine (CK.out _).mono ?_
 rintro e w1 ⟨rfl, hb⟩
 have B1 := Lib.hid (hHeld.trans (hb.mono hHeld.size))
 refine hK.out _ _ B1.out (fun hHeld => ?_)
 clear hb
 clear hK K
 refine wpAnyH_td (i := 3) rfl ?_
 simp only [zz]
 refine wpAnyH_ready (rs := [4]) (by kernel_rfl) (by simp) ?_
 refine AllReadyH.cons rfl (fun K hK => ?_) AllReadyH.nil
 go_simp
 go_at_call 35
 refine (PP.out _).mono ?_
 rintro e w2 ⟨rfl, hb⟩
 have B2 := Lib.hid (hHeld.trans (hb.mono hHeld.size))
 refine hK.out _ _ B2.out (fun hHeld => ?_)
 clear hb
 clear hK K
 refine wpAnyH_td (i := 5) rfl ?_
 simp only [zz]
 refine wpAnyH_td (i := 6) rfl ?_
 simp only [zz]
 refine wpAnyH_td (i := 7) rfl ?_
 simp only [zz]
 refine wpAnyH_td (i := 8) rfl ?_
 simp only [zz]
 refine wpAnyH_done (by kernel_rfl) ?_ _
 go_wp2_with fail
 go_ret2
 exact ⟨rfl, G0.out.trans (B2.out.mono G0.out.size)⟩
open Go.RowKit Go.Sort
theorem pck_stp {w : World} {b : Nat} {l : List UInt8} {e : Int} (h : RdL w b l e) (hm : l.length ≤ 100000) :
  Calls Try.prog 84 #[.pointer (some ⟨b, 0, none⟩)] w fun ed w' => ed = .returned (stpA (Pck.rdStp l e).1) ∧ RdL w' b (Pck.rdStp l e).2.1 (Pck.rdStp l e).2.2 ∧ w.grownBy w' (some b) := by
 have hbw : b < w.heap.size := Row.inHeap h
 simp only [Pck.rdStp, Pck.bnd, Pck.ret]
 have hl1 := Pck.rdVer_left l e
 have N1 := Lib.hid (fun (W : World) (h : RdL W b l e) => pck_ver h (by omega))
 generalize Pck.rdVer l e = s1 at *
 obtain ⟨⟨x1, x2⟩, l1, e1⟩ := s1
 dsimp only at hl1 N1 ⊢
 have hl2 := Pck.rn_left l1 e1
 have N2 := Lib.hid (fun (W : World) (h : RdL W b l1 e1) => pck_n h (by omega))
 generalize Pck.rn l1 e1 = s2 at *
 obtain ⟨y, l2, e2⟩ := s2
 dsimp only at hl2 N2 ⊢
 clear hl1 hl2
 dsimp only [stpA]
 have D0 : Hid (RdL (w.alloc (.cells #[.int .i64 0, .int .i64 0, .int .i64 0] 25)) b l e) := Lib.hid (Row.behindNew h _)
 have G0 := Lib.hid (gb_new (gb_refl w (some b)) (.cells #[.int .i64 0, .int .i64 0, .int .i64 0] 25))
 have R0 := Lib.hid (Row.made w 25 #[.int .i64 0, .int .i64 0, .int .i64 0])
 have Hne : Hid (some b ≠ some w.heap.size) := Lib.hid (fun e => by injection e with e; omega)
 have Hsz : Hid ((Try.prog.info? 25).map (·.size) = some 3) := Lib.hid (by kernel_rfl)
 clear h hm hbw
 go_enter Try.func84, Try.ntmps84
 go_wp2_with fail
 refine (N1.out _ D0.out).mono ?_
 rintro ed w1 ⟨rfl, h1, g1⟩
 have R1 := Lib.hid (R0.out.grown g1 Hne.out)
 have D1 := Lib.hid h1
 have G1 := Lib.hid (gb_trans G0.out g1)
 clear h1 g1
 go_wp2_with fail
 refine (N2.out _ D1.out).mono ?_
 rintro ed w2 ⟨rfl, h1, g1⟩
 have R2 := Lib.hid (R1.out.grown g1 Hne.out)
 have D2 := Lib.hid h1
 have G2 := Lib.hid (gb_trans G1.out g1)
 clear h1 g1
 go_wp2_with (refine wpList_rstore (cs := [.int .i64 x1, .int .i64 x2, .int .i64 y]) (by rfl) (.tmp 2) (.tmp 7) (by rfl) (by rfl) (by rfl) R2.out Hsz.out rfl (by simp [Value.oneCell']) ?_)
 rintro w9 hr9 hk9
 have R9 := Lib.hid hr9
 have D9 : Hid (RdL w9 b l2 e2) := Lib.hid (Row.kept D2.out hk9 (fun e => Hne.out (congrArg some e)))
 have G9 := Lib.hid (gb_kept G2.out hk9 (fun i e => by omega))
 clear hr9 hk9
 go_wp2_with fail
 exact bodyPost_ret (v := .agg #[.int .i64 x1, .int .i64 x2, .int .i64 y]) (results_cell_row (by rfl) _ _ w.heap.size 25 _ (0, 0) _ (by rfl) R9.out Try.underlying25 rfl Hsz.out) rfl ⟨rfl, D9.out, G9.out⟩
theorem pck_upd {w : World} {b : Nat} {l : List UInt8} {e : Int} (h : RdL w b l e) (hm : l.length ≤ 100000) :
  Calls Try.prog 45 #[.pointer (some ⟨b, 0, none⟩)] w fun ed w' => ed = .returned (upA (Pck.rdUpd l e).1) ∧ RdL w' b (Pck.rdUpd l e).2.1 (Pck.rdUpd l e).2.2 ∧ w.grownBy w' (some b) := by
 have hbw : b < w.heap.size := Row.inHeap h
 simp only [Pck.rdUpd, Pck.bnd, Pck.ret]
 have hl1 := Pck.rdVer_left l e
 have N1 := Lib.hid (fun (W : World) (h : RdL W b l e) => pck_ver h (by omega))
 generalize Pck.rdVer l e = s1 at *
 obtain ⟨⟨i1, i2⟩, l1, e1⟩ := s1
 dsimp only at hl1 N1 ⊢
 have hl2 := Pck.rdStp_left l1 e1
 have N2 := Lib.hid (fun (W : World) (h : RdL W b l1 e1) => pck_stp h (by omega))
 generalize Pck.rdStp l1 e1 = s2 at *
 obtain ⟨⟨tt, ⟨v1, v2⟩⟩, l2, e2⟩ := s2
 dsimp only at hl2 N2 ⊢
 have hl3 := (Pck.rt_left l2 e2).2
 have N3 := Lib.hid (fun (W : World) (h : RdL W b l2 e2) => pck_t h (by omega))
 generalize Pck.rt l2 e2 = s3 at *
 obtain ⟨p, l3, e3⟩ := s3
 dsimp only at hl3 N3 ⊢
 have hl4 := (Pck.rt_left l3 e3).2
 have N4 := Lib.hid (fun (W : World) (h : RdL W b l3 e3) => pck_t h (by omega))
 generalize Pck.rt l3 e3 = s4 at *
 obtain ⟨d, l4, e4⟩ := s4
 dsimp only at hl4 N4 ⊢
 have hl5 := Pck.rn_left l4 e4
 have N5 := Lib.hid (fun (W : World) (h : RdL W b l4 e4) => pck_n h (by omega))
 generalize Pck.rn l4 e4 = s5 at *
 obtain ⟨y, l5, e5⟩ := s5
 dsimp only at hl5 N5 ⊢
 clear hl1 hl2 hl3 hl4 hl5
 dsimp only [upA]
 generalize mk p = pb at *
 generalize mk d = db at *
 obtain ⟨dd, hdd⟩ : ∃ dd : Bool, dd = decide (y = 1) := ⟨_, rfl⟩
 have hyd : (y == 1) = dd := by rw [hdd]; rfl
 rw [← hdd]
 clear hdd
 have D0 : Hid (RdL (w.alloc (.cells #[.int .i64 0, .int .i64 0, .int .i64 0, .int .i64 0, .int .i64 0, .string ⟨#[]⟩, .string ⟨#[]⟩, .bool false] 27)) b l e) := Lib.hid (Row.behindNew h _)
 have G0 := Lib.hid (gb_new (gb_refl w (some b)) (.cells #[.int .i64 0, .int .i64 0, .int .i64 0, .int .i64 0, .int .i64 0, .string ⟨#[]⟩, .string ⟨#[]⟩, .bool false] 27))
 have R0 := Lib.hid (Row.made w 27 #[.int .i64 0, .int .i64 0, .int .i64 0, .int .i64 0, .int .i64 0, .string ⟨#[]⟩, .string ⟨#[]⟩, .bool false])
 have Hne : Hid (some b ≠ some w.heap.size) := Lib.hid (fun e => by injection e with e; omega)
 have Hsz : Hid ((Try.prog.info? 27).map (·.size) = some 8) := Lib.hid (by kernel_rfl)
 clear h hm hbw
 go_enter Try.func45, Try.ntmps45
 go_wp2_with fail
 refine (N1.out _ D0.out).mono ?_
 rintro ed w1 ⟨rfl, h1, g1⟩
 have R1 := Lib.hid (R0.out.grown g1 Hne.out)
 have D1 := Lib.hid h1
 have G1 := Lib.hid (gb_trans G0.out g1)
 clear h1 g1
 go_wp2_with fail
 refine (N2.out _ D1.out).mono ?_
 rintro ed w2 ⟨rfl, h1, g1⟩
 have R2 := Lib.hid (R1.out.grown g1 Hne.out)
 have D2 := Lib.hid h1
 have G2 := Lib.hid (gb_trans G1.out g1)
 clear h1 g1
 go_wp2_with fail
 refine (N3.out _ D2.out).mono ?_
 rintro ed w3 ⟨rfl, h1, g1⟩
 have R3 := Lib.hid (R2.out.grown g1 Hne.out)
 have D3 := Lib.hid h1
 have G3 := Lib.hid (gb_trans G2.out g1)
 clear h1 g1
 go_wp2_with fail
 refine (N4.out _ D3.out).mono ?_
 rintro ed w4 ⟨rfl, h1, g1⟩
 have R4 := Lib.hid (R3.out.grown g1 Hne.out)
 have D4 := Lib.hid h1
 have G4 := Lib.hid (gb_trans G3.out g1)
 clear h1 g1
 go_wp2_with fail
 refine (N5.out _ D4.out).mono ?_
 rintro ed w5 ⟨rfl, h1, g1⟩
 have R5 := Lib.hid (R4.out.grown g1 Hne.out)
 have D5 := Lib.hid h1
 have G5 := Lib.hid (gb_trans G4.out g1)
 clear h1 g1
 go_wp2_with (refine wpList_rstore (cs := [.int .i64 i1, .int .i64 i2, .int .i64 v1, .int .i64 v2, .int .i64 tt, .string pb, .string db, .bool dd]) (by rfl) (.tmp 2) (.tmp 14) (by rfl) (by rfl) (by rfl) R5.out Hsz.out rfl (by simp [Value.oneCell']) ?_)
 rintro w9 hr9 hk9
 have R9 := Lib.hid hr9
 have D9 : Hid (RdL w9 b l5 e5) := Lib.hid (Row.kept D5.out hk9 (fun e => Hne.out (congrArg some e)))
 have G9 := Lib.hid (gb_kept G5.out hk9 (fun i e => by omega))
 clear hr9 hk9
 go_wp2_with fail
 exact bodyPost_ret (v := .agg #[.int .i64 i1, .int .i64 i2, .int .i64 v1, .int .i64 v2, .int .i64 tt, .string pb, .string db, .bool dd]) (results_cell_row (by rfl) _ _ w.heap.size 27 _ (0, 0) _ (by rfl) R9.out Try.underlying27 rfl Hsz.out) rfl ⟨rfl, D9.out, G9.out⟩
theorem pck_met {w : World} {b : Nat} {l : List UInt8} {e : Int} (h : RdL w b l e) (hm : l.length ≤ 100000) :
  Calls Try.prog 47 #[.pointer (some ⟨b, 0, none⟩)] w fun ed w' => ed = .returned (mtA (Pck.rdMet l e).1) ∧ RdL w' b (Pck.rdMet l e).2.1 (Pck.rdMet l e).2.2 ∧ w.grownBy w' (some b) := by
 have hbw : b < w.heap.size := Row.inHeap h
 simp only [Pck.rdMet, Pck.bnd, Pck.ret]
 have hl1 := Pck.rdVer_left l e
 have N1 := Lib.hid (fun (W : World) (h : RdL W b l e) => pck_ver h (by omega))
 generalize Pck.rdVer l e = s1 at *
 obtain ⟨⟨i1, i2⟩, l1, e1⟩ := s1
 dsimp only at hl1 N1 ⊢
 have hl2 := Pck.rdStp_left l1 e1
 have N2 := Lib.hid (fun (W : World) (h : RdL W b l1 e1) => pck_stp h (by omega))
 generalize Pck.rdStp l1 e1 = s2 at *
 obtain ⟨⟨tt, ⟨v1, v2⟩⟩, l2, e2⟩ := s2
 dsimp only at hl2 N2 ⊢
 have hl3 := (Pck.rt_left l2 e2).2
 have N3 := Lib.hid (fun (W : World) (h : RdL W b l2 e2) => pck_t h (by omega))
 generalize Pck.rt l2 e2 = s3 at *
 obtain ⟨p, l3, e3⟩ := s3
 dsimp only at hl3 N3 ⊢
 have hl4 := Pck.rn_left l3 e3
 have N4 := Lib.hid (fun (W : World) (h : RdL W b l3 e3) => pck_n h (by omega))
 generalize Pck.rn l3 e3 = s4 at *
 obtain ⟨d, l4, e4⟩ := s4
 dsimp only at hl4 N4 ⊢
 have hl5 := Pck.rn_left l4 e4
 have N5 := Lib.hid (fun (W : World) (h : RdL W b l4 e4) => pck_n h (by omega))
 generalize Pck.rn l4 e4 = s5 at *
 obtain ⟨y, l5, e5⟩ := s5
 dsimp only at hl5 N5 ⊢
 clear hl1 hl2 hl3 hl4 hl5
 dsimp only [mtA]
 generalize mk p = pb at *
 obtain ⟨dd, hdd⟩ : ∃ dd : Bool, dd = decide (y = 1) := ⟨_, rfl⟩
 have hyd : (y == 1) = dd := by rw [hdd]; rfl
 rw [← hdd]
 clear hdd
 have D0 : Hid (RdL (w.alloc (.cells #[.int .i64 0, .int .i64 0, .int .i64 0, .int .i64 0, .int .i64 0, .string ⟨#[]⟩, .int .i64 0, .bool false] 29)) b l e) := Lib.hid (Row.behindNew h _)
 have G0 := Lib.hid (gb_new (gb_refl w (some b)) (.cells #[.int .i64 0, .int .i64 0, .int .i64 0, .int .i64 0, .int .i64 0, .string ⟨#[]⟩, .int .i64 0, .bool false] 29))
 have R0 := Lib.hid (Row.made w 29 #[.int .i64 0, .int .i64 0, .int .i64 0, .int .i64 0, .int .i64 0, .string ⟨#[]⟩, .int .i64 0, .bool false])
 have Hne : Hid (some b ≠ some w.heap.size) := Lib.hid (fun e => by injection e with e; omega)
 have Hsz : Hid ((Try.prog.info? 29).map (·.size) = some 8) := Lib.hid (by kernel_rfl)
 clear h hm hbw
 go_enter Try.func47, Try.ntmps47
 go_wp2_with fail
 refine (N1.out _ D0.out).mono ?_
 rintro ed w1 ⟨rfl, h1, g1⟩
 have R1 := Lib.hid (R0.out.grown g1 Hne.out)
 have D1 := Lib.hid h1
 have G1 := Lib.hid (gb_trans G0.out g1)
 clear h1 g1
 go_wp2_with fail
 refine (N2.out _ D1.out).mono ?_
 rintro ed w2 ⟨rfl, h1, g1⟩
 have R2 := Lib.hid (R1.out.grown g1 Hne.out)
 have D2 := Lib.hid h1
 have G2 := Lib.hid (gb_trans G1.out g1)
 clear h1 g1
 go_wp2_with fail
 refine (N3.out _ D2.out).mono ?_
 rintro ed w3 ⟨rfl, h1, g1⟩
 have R3 := Lib.hid (R2.out.grown g1 Hne.out)
 have D3 := Lib.hid h1
 have G3 := Lib.hid (gb_trans G2.out g1)
 clear h1 g1
 go_wp2_with fail
 refine (N4.out _ D3.out).mono ?_
 rintro ed w4 ⟨rfl, h1, g1⟩
 have R4 := Lib.hid (R3.out.grown g1 Hne.out)
 have D4 := Lib.hid h1
 have G4 := Lib.hid (gb_trans G3.out g1)
 clear h1 g1
 go_wp2_with fail
 refine (N5.out _ D4.out).mono ?_
 rintro ed w5 ⟨rfl, h1, g1⟩
 have R5 := Lib.hid (R4.out.grown g1 Hne.out)
 have D5 := Lib.hid h1
 have G5 := Lib.hid (gb_trans G4.out g1)
 clear h1 g1
 go_wp2_with (refine wpList_rstore (cs := [.int .i64 i1, .int .i64 i2, .int .i64 v1, .int .i64 v2, .int .i64 tt, .string pb, .int .i64 d, .bool dd]) (by rfl) (.tmp 2) (.tmp 14) (by rfl) (by rfl) (by rfl) R5.out Hsz.out rfl (by simp [Value.oneCell']) ?_)
 rintro w9 hr9 hk9
 have R9 := Lib.hid hr9
 have D9 : Hid (RdL w9 b l5 e5) := Lib.hid (Row.kept D5.out hk9 (fun e => Hne.out (congrArg some e)))
 have G9 := Lib.hid (gb_kept G5.out hk9 (fun i e => by omega))
 clear hr9 hk9
 go_wp2_with fail
 exact bodyPost_ret (v := .agg #[.int .i64 i1, .int .i64 i2, .int .i64 v1, .int .i64 v2, .int .i64 tt, .string pb, .int .i64 d, .bool dd]) (results_cell_row (by rfl) _ _ w.heap.size 29 _ (0, 0) _ (by rfl) R9.out Try.underlying29 rfl Hsz.out) rfl ⟨rfl, D9.out, G9.out⟩
end Go.Proofs.Ytkacfmaogiblfaa
