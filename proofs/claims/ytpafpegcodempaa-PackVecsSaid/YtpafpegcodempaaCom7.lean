import Derived.Test.YtpafpegcodempaaCom5
import Derived.Test.YtpafpegcodempaaCom6
import Derived.Test.YtpafpegcodempaaCom4
import Derived.Deep.QuietTactic
import Derived.Shelf.SlSortCmp.QuietGrown
import Derived.Deep.RegionLaw
set_option maxRecDepth 100000
set_option linter.all false
set_option maxHeartbeats 12800000
namespace Go.Proofs.Ytpafpegcodempaa
open Go.RowKit Go.Sort
theorem pck_layVer {id : FuncId} (L : Lays id) {w : World} {c : Nat} {ok : Bool} (x : Ver.V) (hx : Pck.NnV x) (hE : ErrAt w c ok) :
  Calls Try.prog 22 #[.func (.func id) #[] #[.pointer (some ⟨c, 0, none⟩)], verA x] w (PutTo w c ok (Pck.ver x)) := by
 obtain ⟨a, b⟩ := x
 have hcf := run_callFunc_own L.there
 have hcw : c < w.heap.size := Row.inHeap hE
 have FO : ∀ f ∈ [flN a, flN b], FlOk f := by
  intro f hf
  simp only [List.mem_cons, List.not_mem_nil, or_false] at hf
  rcases hf with rfl | rfl
  ·exact flN_ok hx.1.1 hx.1.2
  ·exact flN_ok hx.2.1 hx.2.2
 have AB : allBytes [flN a, flN b] = Pck.ver ⟨a, b⟩ := by simp only [allBytes, List.flatMap_cons, List.flatMap_nil, List.append_nil, flN_all, flT_all]; rfl
 have LY : Hid (∀ (W : World) (bk : Nat), ErrAt W c ok → FieldsAt W bk 0 [flN a, flN b] → bk < W.heap.size → Calls Try.prog id #[.slice (some ⟨bk, 0, none⟩) 2 2, .pointer (some ⟨c, 0, none⟩)] W (PutTo W c ok (Pck.ver ⟨a, b⟩))) := Lib.hid (fun W bk h1 h2 h3 => by have := L.lays (cap := 2) h1 h2 h3 (by simp) FO; rwa [AB] at this)
 dsimp only [verA]
 have hbox := Row.made w 43 #[.int .i64 a, .int .i64 b]
 have HX : Hid (∀ W : World, (w.alloc (.cells #[.int .i64 a, .int .i64 b] 43)).grownBy W (some c) → Row W w.heap.size 43 #[.int .i64 a, .int .i64 b]) := Lib.hid (fun W hW => hbox.grown hW (fun e => by injection e with e; omega))
 have E0 : Hid (ErrAt (w.alloc (.cells #[.int .i64 a, .int .i64 b] 43)).drew c ok) := Lib.hid (hE.new _)
 have G0 : Hid (w.grownBy (w.alloc (.cells #[.int .i64 a, .int .i64 b] 43)) (some c)) := Lib.hid (gb_new (gb_refl _ _) _)
 clear hE FO AB hbox hcw hx L
 go_enter Try.func22, Try.ntmps22
 go_wp2_with fail
 refine wp_region_held_drew (S := (fun w' : World => (w.alloc (.cells #[.int .i64 a, .int .i64 b] 43)).grownBy w' (some c))) (by kernel_rfl) (gb_draw (gb_refl _ _)) (fun hHeld => ?_)
 refine wpAnyH_td (i := 0) rfl ?_
 simp only [zz]
 refine wpAnyH_td (i := 1) rfl ?_
 simp only [zz]
 refine wpAnyH_tk (i := 2) (v := ?_) rfl (Or.inl ⟨by rfl, (by intro w hSw; have c0 := (HX.out _ hSw).at 0; go_simp; try with_reducible rfl)⟩) (by assumption) ?_
 simp only [zz]
 refine wpAnyH_td (i := 4) rfl ?_
 simp only [zz]
 refine wpAnyH_tk (i := 5) (v := ?_) rfl (Or.inl ⟨by rfl, (by intro w hSw; have c1 := (HX.out _ hSw).at 1; go_simp; try with_reducible rfl)⟩) (by assumption) ?_
 simp only [zz]
 refine wpAnyH_ready (rs := [3]) (by kernel_rfl) (by simp) ?_
 refine AllReadyH.cons rfl (fun K hK => ?_) AllReadyH.nil
 go_simp
 go_at_call 45
 refine (field_n _ _).mono ?_
 rintro e w3 ⟨rfl, hb⟩
 have E3 := Lib.hid (E0.out.below hb)
 refine hK.out _ _ (gb_trans hHeld (gb_below hb _)) (fun hHeld => ?_)
 clear hb
 clear hK K
 refine wpAnyH_ready (rs := [6]) (by kernel_rfl) (by simp) ?_
 refine AllReadyH.cons rfl (fun K hK => ?_) AllReadyH.nil
 go_simp
 go_at_call 45
 refine (field_n _ _).mono ?_
 rintro e w6 ⟨rfl, hb⟩
 have E6 := Lib.hid (E3.out.below hb)
 refine hK.out _ _ (gb_trans hHeld (gb_below hb _)) (fun hHeld => ?_)
 clear hb
 clear hK K
 refine wpAnyH_ready (rs := [7]) (by kernel_rfl) (by simp) ?_
 refine AllReadyH.cons rfl (fun K hK => ?_) AllReadyH.nil
 go_simp
 have E7 : Hid (ErrAt (w6.alloc (.cells #[.int .i64 a, .string ⟨#[]⟩, .bool false, .int .i64 b, .string ⟨#[]⟩, .bool false] 72)) c ok) := Lib.hid (E6.out.new _)
 have F7 : Hid (FieldsAt (w6.alloc (.cells #[.int .i64 a, .string ⟨#[]⟩, .bool false, .int .i64 b, .string ⟨#[]⟩, .bool false] 72)) w6.heap.size 0 [flN a, flN b]) := Lib.hid (fields_at (Rws.made w6 72 [flN a, flN b] (fun f _ => fl3_len f)) (by simp))
 refine hK.out _ _ (gb_new hHeld _) (fun hHeld => ?_)
 clear hK K
 refine wpAnyH_ready (rs := [8]) (by kernel_rfl) (by simp) ?_
 refine AllReadyH.cons rfl (fun K hK => ?_) AllReadyH.nil
 go_simp
 refine (LY.out _ _ E7.out F7.out (by simp)).mono ?_
 rintro e w9 ⟨rfl, h8, h9⟩
 have E9 := Lib.hid h8
 have G9 := Lib.hid (gb_trans hHeld h9)
 refine hK.out _ _ G9.out (fun hHeld => ?_)
 clear h8 h9
 clear hK K
 refine wpAnyH_td (i := 9) rfl ?_
 simp only [zz]
 refine wpAnyH_done (by kernel_rfl) ?_ _
 go_wp2_with fail
 go_ret
 exact ⟨rfl, E9.out, gb_trans G0.out G9.out⟩
open Go.RowKit Go.Sort
theorem pck_n {w : World} {b : Nat} {l : List UInt8} {e : Int} (h : RdL w b l e) (hm : l.length ≤ 100000) :
  Calls Try.prog 50 #[.pointer (some ⟨b, 0, none⟩)] w fun ed w' => ed = .returned (.int .i64 (Pck.rn l e).1) ∧ RdL w' b (Pck.rn l e).2.1 (Pck.rn l e).2.2 ∧ w.grownBy w' (some b) := n_any h (by omega)
theorem pck_t {w : World} {b : Nat} {l : List UInt8} {e : Int} (h : RdL w b l e) (hm : l.length ≤ 100000) :
  Calls Try.prog 64 #[.pointer (some ⟨b, 0, none⟩)] w fun ed w' => ed = .returned (.string (mk (Pck.rt l e).1)) ∧ RdL w' b (Pck.rt l e).2.1 (Pck.rt l e).2.2 ∧ w.grownBy w' (some b) := t_any h (by omega)
theorem pck_inner {w : World} {b : Nat} {l : List UInt8} {e : Int} (h : RdL w b l e) (hm : l.length ≤ 100000) :
  Calls Try.prog 51 #[.pointer (some ⟨b, 0, none⟩)] w fun ed w' => ∃ p, ed = .returned (.pointer (some ⟨p, 0, none⟩)) ∧ RdL w' p (stepT l e).1 0 ∧ w.heap.size ≤ p ∧ RdL w' b (stepT l e).2.1 (stepT l e).2.2 ∧ w.grownBy w' (some b) := by
 have N1 := Lib.hid (pck_t h hm)
 have hbw : b < w.heap.size := Row.inHeap h
 have HB := Lib.hid hbw
 unfold Pck.rt at N1
 generalize stepT l e = s1 at *
 obtain ⟨t, l1, e1⟩ := s1
 dsimp only at N1 ⊢
 have OV := Lib.hid (fun W => over_any (mk t) W)
 rw [mk_data] at OV
 generalize mk t = x at *
 clear h hm hbw
 go_enter Try.func51, Try.ntmps51
 go_wp2_with fail
 refine N1.out.mono ?_
 rintro ed w1 ⟨rfl, h1, g1⟩
 have D1 := Lib.hid h1
 have G1 := Lib.hid g1
 clear h1 g1
 go_wp2_with fail
 refine (OV.out _).mono ?_
 rintro ed w2 ⟨rfl, h2, b2⟩
 have D2 := Lib.hid h2
 have B2 := Lib.hid b2
 clear h2 b2
 go_wp2_with fail
 go_ret
 exact ⟨_, rfl, D2.out, G1.out.size, Row.below D1.out B2.out (Row.inHeap D1.out), gb_trans G1.out (gb_below B2.out _)⟩
theorem pck_ver {w : World} {b : Nat} {l : List UInt8} {e : Int} (h : RdL w b l e) (hm : l.length ≤ 100000) :
  Calls Try.prog 33 #[.pointer (some ⟨b, 0, none⟩)] w fun ed w' => ed = .returned (verA (Pck.rdVer l e).1) ∧ RdL w' b (Pck.rdVer l e).2.1 (Pck.rdVer l e).2.2 ∧ w.grownBy w' (some b) := by
 have hbw : b < w.heap.size := Row.inHeap h
 simp only [Pck.rdVer, Pck.bnd, Pck.ret]
 have hl1 := Pck.rn_left l e
 have N1 := Lib.hid (fun (W : World) (h : RdL W b l e) => pck_n h (by omega))
 generalize Pck.rn l e = s1 at *
 obtain ⟨x, l1, e1⟩ := s1
 dsimp only at hl1 N1 ⊢
 have hl2 := Pck.rn_left l1 e1
 have N2 := Lib.hid (fun (W : World) (h : RdL W b l1 e1) => pck_n h (by omega))
 generalize Pck.rn l1 e1 = s2 at *
 obtain ⟨y, l2, e2⟩ := s2
 dsimp only at hl2 N2 ⊢
 clear hl1 hl2
 dsimp only [verA]
 have D0 : Hid (RdL (w.alloc (.cells #[.int .i64 0, .int .i64 0] 43)) b l e) := Lib.hid (Row.behindNew h _)
 have G0 := Lib.hid (gb_new (gb_refl w (some b)) (.cells #[.int .i64 0, .int .i64 0] 43))
 have R0 := Lib.hid (Row.made w 43 #[.int .i64 0, .int .i64 0])
 have Hne : Hid (some b ≠ some w.heap.size) := Lib.hid (fun e => by injection e with e; omega)
 have Hsz : Hid ((Try.prog.info? 43).map (·.size) = some 2) := Lib.hid (by kernel_rfl)
 clear h hm hbw
 go_enter Try.func33, Try.ntmps33
 go_wp2_with fail
 refine (N1.out _ D0.out).mono ?_
 rintro ed w1 ⟨rfl, h1, g1⟩
 have R1 := Lib.hid (R0.out.grown g1 Hne.out)
 have D1 := Lib.hid h1
 have G1 := Lib.hid (gb_trans G0.out g1)
 clear h1 g1
 go_wp2_with fail
 refine (N2.out _ D1.out).mono ?_
 rintro ed w2 ⟨rfl, h1, g1⟩
 have R2 := Lib.hid (R1.out.grown g1 Hne.out)
 have D2 := Lib.hid h1
 have G2 := Lib.hid (gb_trans G1.out g1)
 clear h1 g1
 go_wp2_with (refine wpList_rstore (cs := [.int .i64 x, .int .i64 y]) (by rfl) (.tmp 2) (.tmp 7) (by rfl) (by rfl) (by rfl) R2.out Hsz.out rfl (by simp [Value.oneCell']) ?_)
 rintro w9 hr9 hk9
 have R9 := Lib.hid hr9
 have D9 : Hid (RdL w9 b l2 e2) := Lib.hid (Row.kept D2.out hk9 (fun e => Hne.out (congrArg some e)))
 have G9 := Lib.hid (gb_kept G2.out hk9 (fun i e => by omega))
 clear hr9 hk9
 go_wp2_with fail
 exact bodyPost_ret (v := .agg #[.int .i64 x, .int .i64 y]) (results_cell_row (by rfl) _ _ w.heap.size 43 _ (0, 0) _ (by rfl) R9.out Try.underlying43 rfl Hsz.out) rfl ⟨rfl, D9.out, G9.out⟩
open Go.RowKit Go.Sort
theorem ver_drews (w : World) (n : Nat) : Below w.heap.size w (w.drewN n) := ⟨rfl, rfl, rfl, Nat.le_refl _, fun _ _ => rfl⟩
theorem laid_one (w : World) (o : Obj) : Laid w (w.alloc o) := Laid.new w o
theorem laid_two (w : World) (o p : Obj) : Laid w ((w.alloc o).alloc p) := (Laid.new w o).trans (Laid.new _ p)
theorem ref_vright (w : World) (v : Ver.V) : Calls Try.prog 27 #[verA v] w fun e w' => e = .returned (.bool (decide (Ver.Right v))) ∧ Laid w w' := by
 have L := Lib.hid (laid_one w)
 have e : decide (Ver.Right v) = (decide ((1 : Int) ≤ v.by_) && (decide (v.by_ ≤ 64) && decide ((1 : Int) ≤ v.n))) := by rw [Bool.eq_iff_iff, decide_eq_true_iff]; simp [Ver.Right]
 have E := Lib.hid e
 clear e
 obtain ⟨x, y⟩ := v
 simp only at E ⊢
 by_cases h1 : (1 : Int) ≤ x
 ·by_cases h2 : x ≤ 64
  ·go_enter Try.func27, Try.ntmps27
   go_wp2_with fail
   go_ret
   exact ⟨by rw [E.out]; first | (simp [h1, h2]; done) | (simp [h1, h2]; omega), L.out _⟩
  ·go_enter Try.func27, Try.ntmps27
   go_wp2_with fail
   go_ret
   exact ⟨by rw [E.out]; first | (simp [h1, h2]; done) | (simp [h1, h2]; omega), L.out _⟩
 ·go_enter Try.func27, Try.ntmps27
  go_wp2_with fail
  go_ret
  exact ⟨by rw [E.out]; first | (simp [h1]; done) | (simp [h1]; omega), L.out _⟩
theorem before_alt (x y x' y' : Int) : decide (Ver.Before ⟨x, y⟩ ⟨x', y'⟩) = (decide (x < x') || (decide (x = x') && decide (y < y'))) := by rw [Bool.eq_iff_iff, decide_eq_true_iff]; simp [Ver.Before]
theorem ref_vbefore (w : World) (a b : Ver.V) : Calls Try.prog 59 #[verA a, verA b] w fun e w' => e = .returned (.bool (decide (Ver.Before a b))) ∧ Laid w w' := by
 have L := Lib.hid (laid_two w)
 obtain ⟨x, y⟩ := a
 obtain ⟨x', y'⟩ := b
 have E := Lib.hid (before_alt x y x' y')
 by_cases h1 : x < x'
 ·go_enter Try.func59, Try.ntmps59
  go_wp2_with fail
  go_ret
  exact ⟨by rw [E.out]; first | (simp [h1]; done) | (simp [h1]; omega), L.out _ _⟩
 ·by_cases h2 : x = x'
  ·subst h2
   go_enter Try.func59, Try.ntmps59
   go_wp2_with fail
   go_ret
   exact ⟨by rw [E.out]; first | (simp [h1]; done) | (simp [h1]; omega), L.out _ _⟩
  ·go_enter Try.func59, Try.ntmps59
   go_wp2_with fail
   go_ret
   exact ⟨by rw [E.out]; first | (simp [h1, h2]; done) | (simp [h1, h2]; omega), L.out _ _⟩
open Go.RowKit Go.Sort
theorem verInfo : (Try.prog.info? 43).map (fun i => (i.zero, i.size, i.bytes)) = some (some (.agg #[.int .i64 0, .int .i64 0]), 2, 16) := by kernel_rfl
theorem ver_parts {P : Program} {t : TypeId} {z : Value} {s b : Nat} (h : (P.info? t).map (fun i => (i.zero, i.size, i.bytes)) = some (some z, s, b)) : ∃ i, P.info? t = some i ∧ i.zero = some z ∧ i.size = s ∧ i.bytes = b := by
 cases hi : P.info? t with
 | none => rw [hi] at h; cases h
 | some i =>
  rw [hi] at h
  injection h with h
  injection h with h1 h2
  injection h2 with h2 h3
  exact ⟨i, rfl, h1, h2, h3⟩
theorem ver_made (W : World) (t : TypeId) (x : Ver.V) : Vrs (W.alloc (.cells #[.int .i64 x.by_, .int .i64 x.n] t)) (fun i => i = W.heap.size) (.slice (some ⟨W.heap.size, 0, none⟩) 1 1) [x] :=
 ⟨some ⟨W.heap.size, 0, none⟩, 1, rfl, Nat.le_refl _, fun _ => ⟨W.heap.size, 0, rfl, rfl, by simp, fun i y hy j u hu => by
  rw [(Row.made W _ _).at]
  match i, hy with
  | 0, hy => (simp at hy; subst hy; match j, hu with
   | 0, hu => simp [verV] at hu; subst hu; rfl
   | 1, hu => simp [verV] at hu; subst hu; rfl)⟩⟩
theorem cells_grown {w : World} {b o : Nat} {u : Value} (h : w.cell? ⟨b, o, none⟩ = some u) (n : Nat) (os : Array Obj) : (grow (w.drewN n) os).cell? ⟨b, o, none⟩ = some u :=
 cell_grown (World.block_lt_of_cell? w _ h) h n os
theorem ref_put_both {w w0 : World} {v : Value} {l : List Ver.V} (h : RowsOwn 43 2 verV w l v w0) (hl : l.length ≤ 1000000) (x : Ver.V) :
  Calls Try.prog 47 #[v, verA x] w0 fun e w' => ∃ v', e = .returned v' ∧ RowsOwn 43 2 verV w (Ver.put l x) v' w' ∧ Below w0.heap.size w0 w' := by
 obtain ⟨i0, hi0, hz0, hz1, hz2⟩ := ver_parts verInfo
 have mixed : Try.prog.follows .mixedOrders = true := by kernel_rfl
 have BE := Lib.hid (fun W (y : Ver.V) => ref_vbefore W y x)
 have H0 := Lib.hid h
 have Hl := Lib.hid hl
 have hl' : (l.length : Int) ≤ 1000000 := by omega
 have Hmd := Lib.hid (fun W => ver_made W 43 x)
 have H0n := Lib.hid (fun W => (World.ownsRow_made W #[] 0 (Nat.le_refl _) (by decide) rfl : (W.alloc (.cells #[] 43)).ownsRow W.heap.size 43 2 (.slice (some ⟨W.heap.size, 0, none⟩) 0 0) 0 []))
 have LB := Lib.hid (Laid.new w0 (.cells #[.int .i64 x.by_, .int .i64 x.n] 43))
 have XB := Lib.hid (fun W (hW : Laid (w0.alloc (.cells #[.int .i64 x.by_, .int .i64 x.n] 43)) W) => show W.cell? ⟨w0.heap.size, 0, none⟩ = some (.int .i64 x.by_) ∧ W.cell? ⟨w0.heap.size, 1, none⟩ = some (.int .i64 x.n) from
  ⟨(hW.below.cell (p := ⟨w0.heap.size, 0, none⟩) (by simp)).trans ((Row.made w0 43 #[.int .i64 x.by_, .int .i64 x.n]).at 0), (hW.below.cell (p := ⟨w0.heap.size, 1, none⟩) (by simp)).trans ((Row.made w0 43 #[.int .i64 x.by_, .int .i64 x.n]).at 1)⟩)
 rcases h.1.2 with ⟨rfl, h0⟩ | ⟨g, cap, cur, rfl, hg0, hgb, hgc, -, -, -⟩
 ·have hl0 : l = [] := List.eq_nil_of_length_eq_zero h0
  subst hl0
  have hfin : Hid (Ver.put [] x = [] ++ [x] ++ []) := Lib.hid rfl
  obtain ⟨x1, x2⟩ := x
  simp only at LB XB Hmd
  have HLW := Lib.hid (Laid.refl (w0.alloc (.cells #[.int .i64 x1, .int .i64 x2] 43)))
  obtain ⟨q0, q1⟩ := XB.out _ HLW.out
  clear h h0
  go_enter Try.func47, Try.ntmps47
  go_wp2_with fail
  refine wp_loop_rounds 1 ?_
  rw [rounds_succ]
  have HLW := Lib.hid (Laid.refl (w0.alloc (.cells #[.int .i64 x1, .int .i64 x2] 43)))
  have LBS := LB.out.below.size
  generalize w0.alloc (.cells #[.int .i64 x1, .int .i64 x2] 43) = W at *
  go_wp2_with fail
  go_quiet (fail)
  have HLW : Hid (Laid W (W.drewN nq)) := Lib.hid ⟨nq, #[], by rw [grow_empty]⟩
  generalize W.drewN nq = W2 at *
  go_wp2_with fail
  go_quiet (fail)
  have HLW : Hid (Laid W (W2.drewN nq)) := Lib.hid (HLW.out.trans ⟨nq, #[], by rw [grow_empty]⟩)
  generalize W2.drewN nq = W3 at *
  have HBW := Lib.hid (H0.out.2.trans ((LB.out.trans HLW.out).below.mono H0.out.2.size))
  have XC := Lib.hid (fun U (hU : Below W3.heap.size W3 U) => show U.cell? ⟨w0.heap.size, 0, none⟩ = some (.int .i64 x1) ∧ U.cell? ⟨w0.heap.size, 1, none⟩ = some (.int .i64 x2) from
   ⟨(hU.cell (p := ⟨w0.heap.size, 0, none⟩) (by have := World.block_lt_of_cell? W _ q0; have := HLW.out.below.size; show w0.heap.size < W3.heap.size; simp at *; omega)).trans (XB.out _ HLW.out).1, (hU.cell (p := ⟨w0.heap.size, 1, none⟩) (by have := World.block_lt_of_cell? W _ q0; have := HLW.out.below.size; show w0.heap.size < W3.heap.size; simp at *; omega)).trans (XB.out _ HLW.out).2⟩)
  have Hfront : Vrs (W3.alloc (.cells #[] 43)) (fun _ => False) (.slice none 0 0) [] := Rws.none _ _ _
  have Htl : Hid (([] : List Ver.V).length = 0) := Lib.hid rfl
  have Hbl : Hid (([] : List Ver.V).length = 0) := Lib.hid rfl
  have Hnl : Hid (([] : List Ver.V).length = 0) := Lib.hid rfl
  go_wp2_with (first
   | (at_builtin; refine wp_joins (f := verV) (k := 2) rfl _ _ 24 rfl W3.heap.size 43 i0 (.agg #[.int .i64 0, .int .i64 0]) 16 Try.underlying24 hi0 hz0 hz1 hz2 rfl (by decide) rfl rfl F3o (Rws.none (k := 2) (f := verV) _ (fun _ => False) 0) (fun _ _ => rfl) (fun x _ => ver_one x) ?b1 ?b2 ?b3 ?_; (case b1 => (have e1 := Htl.out; have e2 := Hbl.out; have e3 := Hnl.out; unfold maxLen; rw [List.length_append, show ([(⟨x1, x2⟩ : Ver.V)]).length = 1 from rfl]; omega)); (case b2 => (have e1 := Htl.out; have e2 := Hbl.out; have e3 := Hnl.out; rw [List.length_append, show ([(⟨x1, x2⟩ : Ver.V)]).length = 1 from rfl]; omega)); (case b3 => (first | omega | (simp; omega) | simp)); intro v4 w4 own4 hg4 _)
   | (at_builtin; refine wp_joins (f := verV) (k := 2) rfl _ _ 24 rfl W3.heap.size 43 i0 (.agg #[.int .i64 0, .int .i64 0]) 16 Try.underlying24 hi0 hz0 hz1 hz2 rfl (by decide) rfl rfl (F2o.alloc _) (Hmd.out _) (fun _ _ => rfl) (fun x _ => ver_one x) ?c1 ?c2 ?c3 ?_; (case c1 => (have e1 := Htl.out; have e2 := Hbl.out; have e3 := Hnl.out; unfold maxLen; rw [show ([(⟨x1, x2⟩ : Ver.V)]).length = 1 from rfl]; omega)); (case c2 => (have e1 := Htl.out; have e2 := Hbl.out; have e3 := Hnl.out; rw [show ([(⟨x1, x2⟩ : Ver.V)]).length = 1 from rfl]; omega)); (case c3 => (first | omega | (simp; omega) | simp)); intro v3 w3 own3 hg3 _; have F3 := F2.more (x := (⟨x1, x2⟩ : Ver.V)) (v' := v3) (by simpa [verV] using own3) hg3; have hs3 := F3.2.size; have F3o := F3.1)
   | (at_builtin; refine wp_joins (f := verV) (k := 2) rfl _ _ 24 rfl W3.heap.size 43 i0 (.agg #[.int .i64 0, .int .i64 0]) 16 Try.underlying24 hi0 hz0 hz1 hz2 rfl (by decide) rfl rfl (H0n.out _) Hfront (fun _ _ => rfl) (fun x _ => ver_one x) ?a1 ?a2 ?a3 ?_; (case a1 => (have e1 := Htl.out; have e2 := Hbl.out; have e3 := Hnl.out; unfold maxLen; omega)); (case a2 => (have e1 := Htl.out; have e2 := Hbl.out; have e3 := Hnl.out; omega)); (case a3 => (first | omega | (simp; omega) | simp)); intro v2 w2 own2 hg2 _; have F2 := RowsOwn.front hg2 own2; have hs2 := F2.2.size; have F2o := F2.1; obtain ⟨k0, k1⟩ := XC.out _ F2.2))
  all_goals
   have F4 := Lib.hid (And.intro ((F3.rest hg4 own4).since HBW.out) ((LB.out.trans HLW.out).below.trans ((F3.rest hg4 own4).2.mono (LB.out.trans HLW.out).below.size)))
   clear own4 hg4 F3 F2 own3 hg3 own2 hg2 F3o F2o k0 k1
   go_ret
   exact ⟨_, rfl, by rw [hfin.out]; exact F4.out⟩
 ·have Hg := Lib.hid (lt_of_block hgb)
  clear h hgb
  obtain ⟨x1, x2⟩ := x
  simp only at LB XB Hmd
  go_enter Try.func47, Try.ntmps47
  go_wp2_with fail
  go_loopw [5] (fun i wr => ∃ n : Nat, n ≤ l.length ∧ i = .int .i64 (n : Int) ∧ Hid (∀ y ∈ l.take n, Ver.Before y ⟨x1, x2⟩) ∧ Laid (w0.alloc (.cells #[.int .i64 x1, .int .i64 x2] 43)) wr) (fun i _ => l.length - (intOf i).toNat)
  case atStart => exact ⟨0, Nat.zero_le _, rfl, Lib.hid (fun y hy => by simp at hy), Laid.refl _⟩
  case round =>
   obtain ⟨n, hn, rfl, hlow, hlaid⟩ := hrel
   have hn0 : (0 : Int) ≤ (n : Int) := by omega
   have hnc : (n : Int) ≤ (cap : Int) := by omega
   have hnl : (n : Int) ≤ (l.length : Int) := by omega
   obtain ⟨q0, q1⟩ := XB.out _ hlaid
   have HLD := Lib.hid hlaid
   have HB := Lib.hid (LB.out.trans hlaid).below
   clear hlaid
   by_cases hlt : n < l.length
   ·obtain ⟨y, hy⟩ : ∃ y, l[n]? = some y := ⟨_, List.getElem?_eq_getElem hlt⟩
    obtain ⟨c0, c1⟩ := Vrs.at ((H0.out.rows (fun _ _ => rfl)).below HB.out) hy
    rw [Nat.zero_add] at c0 c1
    have hn1 : (n : Int) < (l.length : Int) := by omega
    have C0 := cells_grown c0
    have C1 := cells_grown c1
    have Q0 := cells_grown q0
    have Q1 := cells_grown q1
    have Hy := Lib.hid hy
    by_cases hb : Ver.Before y ⟨x1, x2⟩
    ·have BY : Hid (∀ W, Calls Try.prog 59 #[.agg #[.int .i64 y.by_, .int .i64 y.n], .agg #[.int .i64 x1, .int .i64 x2]] W fun e w' => e = .returned (.bool true) ∧ ∃ q os, w' = grow (W.drewN q) os) := Lib.hid (fun W => by have := BE.out W y; rwa [decide_eq_true hb] at this)
     have hnext : Hid (∀ z ∈ l.take (n + 1), Ver.Before z ⟨x1, x2⟩) := Lib.hid (fun z hz => by
      obtain ⟨h1, e1⟩ := List.getElem?_eq_some_iff.1 Hy.out
      rw [List.take_succ_eq_append_getElem h1, e1] at hz
      rcases List.mem_append.1 hz with hz | hz
      ·exact hlow.out z hz
      ·rw [List.mem_singleton.1 hz]; exact hb)
     clear hb hy hlow c0 c1 q0 q1
     go_wp2_with fail
     go_quiet_grown (first | (go_at_call 59; refine Calls.grown_of (BY.out _)))
     go_wp2_with fail
     exact ⟨⟨n + 1, by omega, by go_num, hnext, HLD.out.trans ⟨_, _, rfl⟩⟩, by show l.length - ((n : Int) + 1).toNat < l.length - (n : Int).toNat; omega⟩
    ·have BY : Hid (∀ W, Calls Try.prog 59 #[.agg #[.int .i64 y.by_, .int .i64 y.n], .agg #[.int .i64 x1, .int .i64 x2]] W fun e w' => e = .returned (.bool false) ∧ ∃ q os, w' = grow (W.drewN q) os) := Lib.hid (fun W => by have := BE.out W y; rwa [decide_eq_false hb] at this)
     have hput := Lib.hid (Ver.put_at (n := n) hlow.out (fun z hz => by rw [Hy.out] at hz; injection hz with hz; rw [← hz]; exact hb) hn)
     clear hb hlow c0 c1 q0 q1
     go_wp2_with fail
     go_quiet_grown (first | (go_at_call 59; refine Calls.grown_of (BY.out _)))
     have HLW := Lib.hid (HLD.out.trans ⟨nq, osq, rfl⟩)
     generalize grow (wr.drewN nq) osq = W at *
     obtain ⟨q0, q1⟩ := XB.out _ HLW.out
     obtain ⟨c0, c1⟩ := Vrs.at ((H0.out.rows (fun _ _ => rfl)).below (LB.out.trans HLW.out).below) hy
     rw [Nat.zero_add] at c0 c1
     clear C0 C1 Q0 Q1
     by_cases hsame : y = ⟨x1, x2⟩
     ·subst hsame
      have hfin : Hid (Ver.put l ⟨x1, x2⟩ = l) := Lib.hid (by rw [hput.out, if_pos hy])
      simp only at c0 c1
      clear hput hy
      go_wp2_with fail
      go_quiet (fail)
      have HLW : Hid (Laid (w0.alloc (.cells #[.int .i64 x1, .int .i64 x2] 43)) (W.drewN nq)) := Lib.hid (HLW.out.trans ⟨nq, #[], by rw [grow_empty]⟩)
      generalize W.drewN nq = W2 at *
      go_wp2_with fail
      go_ret
      exact ⟨_, rfl, by rw [hfin.out]; exact ⟨H0.out.below (LB.out.trans HLW.out).below, (LB.out.trans HLW.out).below⟩⟩
     ·have hfin : Hid (Ver.put l ⟨x1, x2⟩ = l.take n ++ [⟨x1, x2⟩] ++ l.drop n) := Lib.hid (by rw [hput.out, if_neg (fun e => hsame (by rw [hy] at e; injection e))])
      obtain ⟨y1, y2⟩ := y
      simp only at c0 c1
      have hxy' : y1 = x1 → ¬ y2 = x2 := fun h k => hsame (by rw [h, k])
      clear hput hy hsame
      have hany : ∃ r, r = (decide (y1 = x1) && decide (y2 = x2)) ∧ r = false := ⟨_, rfl, by by_cases h : y1 = x1 <;> simp [h, hxy']⟩
      by_cases h1 : y1 = x1
      ·have h2 := hxy' h1
       subst h1
       clear hxy' hany
       go_wp2_with fail
       go_quiet (fail)
       have HLW : Hid (Laid (w0.alloc (.cells #[.int .i64 y1, .int .i64 x2] 43)) (W.drewN nq)) := Lib.hid (HLW.out.trans ⟨nq, #[], by rw [grow_empty]⟩)
       generalize W.drewN nq = W2 at *
       have HBW := Lib.hid (H0.out.2.trans ((LB.out.trans HLW.out).below.mono H0.out.2.size))
       have XC := Lib.hid (fun W (hW : Below W2.heap.size W2 W) => show W.cell? ⟨w0.heap.size, 0, none⟩ = some (.int .i64 y1) ∧ W.cell? ⟨w0.heap.size, 1, none⟩ = some (.int .i64 x2) from
        ⟨(hW.cell (p := ⟨w0.heap.size, 0, none⟩) (by have := HLW.out.below.size; simp at this; show w0.heap.size < W2.heap.size; omega)).trans (XB.out _ HLW.out).1, (hW.cell (p := ⟨w0.heap.size, 1, none⟩) (by have := HLW.out.below.size; simp at this; show w0.heap.size < W2.heap.size; omega)).trans (XB.out _ HLW.out).2⟩)
       have Hrow := (H0.out.rows (fun _ _ => rfl)).below (LB.out.trans HLW.out).below
       have Hfront : Vrs (W2.alloc (.cells #[] 43)) (NewIn w W2) (.slice (some ⟨g, 0, none⟩) n cap) (l.take n) := by
        have hb' : Below W2.heap.size W2 (W2.alloc (.cells #[] 43)) := (Below.refl _ _).alloc (Nat.le_refl _) _
        have := (Hrow.below hb').take rfl n hn cap (by omega)
        exact this.mono (fun i hi => ⟨hi.1, Nat.lt_of_lt_of_le hi.2 (LB.out.trans HLW.out).below.size⟩)
       have Htl : Hid ((l.take n).length = n) := Lib.hid (by rw [List.length_take]; omega)
       have Hbl : Hid ((l.drop n).length = l.length - n) := Lib.hid List.length_drop
       have Hnl : Hid (n ≤ l.length ∧ l.length ≤ 1000000) := Lib.hid ⟨hn, Hl.out⟩
       have Hback : Hid (∀ w', Below W2.heap.size W2 w' → Vrs w' (NewIn w W2) (.slice (some ⟨g, n * 2, none⟩) (l.length - n) (cap - n)) (l.drop n)) := Lib.hid (fun w' hw' => by
        have := (Hrow.below hw').drop rfl n hn (cap - n) (by omega)
        rw [Nat.zero_add] at this
        exact this.mono (fun i hi => ⟨hi.1, Nat.lt_of_lt_of_le hi.2 (LB.out.trans HLW.out).below.size⟩))
       go_wp2_with (first
        | (at_builtin; refine wp_joins (f := verV) (k := 2) rfl _ _ 24 rfl W2.heap.size 43 i0 (.agg #[.int .i64 0, .int .i64 0]) 16 Try.underlying24 hi0 hz0 hz1 hz2 rfl (by decide) rfl rfl F3o (Hback.out _ F3.2) (fun _ _ => rfl) (fun x _ => ver_one x) ?b1 ?b2 ?b3 ?_; (case b1 => (have e1 := Htl.out; have e2 := Hbl.out; have e3 := Hnl.out; unfold maxLen; rw [List.length_append, show ([(⟨y1, x2⟩ : Ver.V)]).length = 1 from rfl]; omega)); (case b2 => (have e1 := Htl.out; have e2 := Hbl.out; have e3 := Hnl.out; rw [List.length_append, show ([(⟨y1, x2⟩ : Ver.V)]).length = 1 from rfl]; omega)); (case b3 => (first | omega | (simp; omega) | simp)); intro v4 w4 own4 hg4 _)
        | (at_builtin; refine wp_joins (f := verV) (k := 2) rfl _ _ 24 rfl W2.heap.size 43 i0 (.agg #[.int .i64 0, .int .i64 0]) 16 Try.underlying24 hi0 hz0 hz1 hz2 rfl (by decide) rfl rfl (F2o.alloc _) (Hmd.out _) (fun _ _ => rfl) (fun x _ => ver_one x) ?c1 ?c2 ?c3 ?_; (case c1 => (have e1 := Htl.out; have e2 := Hbl.out; have e3 := Hnl.out; unfold maxLen; rw [show ([(⟨y1, x2⟩ : Ver.V)]).length = 1 from rfl]; omega)); (case c2 => (have e1 := Htl.out; have e2 := Hbl.out; have e3 := Hnl.out; rw [show ([(⟨y1, x2⟩ : Ver.V)]).length = 1 from rfl]; omega)); (case c3 => (first | omega | (simp; omega) | simp)); intro v3 w3 own3 hg3 _; have F3 := F2.more (x := (⟨y1, x2⟩ : Ver.V)) (v' := v3) (by simpa [verV] using own3) hg3; have hs3 := F3.2.size; have F3o := F3.1)
        | (at_builtin; refine wp_joins (f := verV) (k := 2) rfl _ _ 24 rfl W2.heap.size 43 i0 (.agg #[.int .i64 0, .int .i64 0]) 16 Try.underlying24 hi0 hz0 hz1 hz2 rfl (by decide) rfl rfl (H0n.out _) Hfront (fun _ _ => rfl) (fun x _ => ver_one x) ?a1 ?a2 ?a3 ?_; (case a1 => (have e1 := Htl.out; have e2 := Hbl.out; have e3 := Hnl.out; unfold maxLen; omega)); (case a2 => (have e1 := Htl.out; have e2 := Hbl.out; have e3 := Hnl.out; omega)); (case a3 => (first | omega | (simp; omega) | simp)); intro v2 w2 own2 hg2 _; have F2 := RowsOwn.front hg2 own2; have hs2 := F2.2.size; have F2o := F2.1; obtain ⟨k0, k1⟩ := XC.out _ F2.2))
       all_goals
        have F4 := Lib.hid (And.intro ((F3.rest hg4 own4).since HBW.out) ((LB.out.trans HLW.out).below.trans ((F3.rest hg4 own4).2.mono (LB.out.trans HLW.out).below.size)))
        clear own4 hg4 F3 F2 own3 hg3 own2 hg2 F3o F2o k0 k1
        go_ret
        exact ⟨_, rfl, by rw [hfin.out]; exact F4.out⟩
      ·clear hxy' hany
       go_wp2_with fail
       go_quiet (fail)
       have HLW : Hid (Laid (w0.alloc (.cells #[.int .i64 x1, .int .i64 x2] 43)) (W.drewN nq)) := Lib.hid (HLW.out.trans ⟨nq, #[], by rw [grow_empty]⟩)
       generalize W.drewN nq = W2 at *
       have HBW := Lib.hid (H0.out.2.trans ((LB.out.trans HLW.out).below.mono H0.out.2.size))
       have XC := Lib.hid (fun W (hW : Below W2.heap.size W2 W) => show W.cell? ⟨w0.heap.size, 0, none⟩ = some (.int .i64 x1) ∧ W.cell? ⟨w0.heap.size, 1, none⟩ = some (.int .i64 x2) from
        ⟨(hW.cell (p := ⟨w0.heap.size, 0, none⟩) (by have := HLW.out.below.size; simp at this; show w0.heap.size < W2.heap.size; omega)).trans (XB.out _ HLW.out).1, (hW.cell (p := ⟨w0.heap.size, 1, none⟩) (by have := HLW.out.below.size; simp at this; show w0.heap.size < W2.heap.size; omega)).trans (XB.out _ HLW.out).2⟩)
       have Hrow := (H0.out.rows (fun _ _ => rfl)).below (LB.out.trans HLW.out).below
       have Hfront : Vrs (W2.alloc (.cells #[] 43)) (NewIn w W2) (.slice (some ⟨g, 0, none⟩) n cap) (l.take n) := by
        have hb' : Below W2.heap.size W2 (W2.alloc (.cells #[] 43)) := (Below.refl _ _).alloc (Nat.le_refl _) _
        have := (Hrow.below hb').take rfl n hn cap (by omega)
        exact this.mono (fun i hi => ⟨hi.1, Nat.lt_of_lt_of_le hi.2 (LB.out.trans HLW.out).below.size⟩)
       have Htl : Hid ((l.take n).length = n) := Lib.hid (by rw [List.length_take]; omega)
       have Hbl : Hid ((l.drop n).length = l.length - n) := Lib.hid List.length_drop
       have Hnl : Hid (n ≤ l.length ∧ l.length ≤ 1000000) := Lib.hid ⟨hn, Hl.out⟩
       have Hback : Hid (∀ w', Below W2.heap.size W2 w' → Vrs w' (NewIn w W2) (.slice (some ⟨g, n * 2, none⟩) (l.length - n) (cap - n)) (l.drop n)) := Lib.hid (fun w' hw' => by
        have := (Hrow.below hw').drop rfl n hn (cap - n) (by omega)
        rw [Nat.zero_add] at this
        exact this.mono (fun i hi => ⟨hi.1, Nat.lt_of_lt_of_le hi.2 (LB.out.trans HLW.out).below.size⟩))
       go_wp2_with (first
        | (at_builtin; refine wp_joins (f := verV) (k := 2) rfl _ _ 24 rfl W2.heap.size 43 i0 (.agg #[.int .i64 0, .int .i64 0]) 16 Try.underlying24 hi0 hz0 hz1 hz2 rfl (by decide) rfl rfl F3o (Hback.out _ F3.2) (fun _ _ => rfl) (fun x _ => ver_one x) ?b1 ?b2 ?b3 ?_; (case b1 => (have e1 := Htl.out; have e2 := Hbl.out; have e3 := Hnl.out; unfold maxLen; rw [List.length_append, show ([(⟨x1, x2⟩ : Ver.V)]).length = 1 from rfl]; omega)); (case b2 => (have e1 := Htl.out; have e2 := Hbl.out; have e3 := Hnl.out; rw [List.length_append, show ([(⟨x1, x2⟩ : Ver.V)]).length = 1 from rfl]; omega)); (case b3 => (first | omega | (simp; omega) | simp)); intro v4 w4 own4 hg4 _)
        | (at_builtin; refine wp_joins (f := verV) (k := 2) rfl _ _ 24 rfl W2.heap.size 43 i0 (.agg #[.int .i64 0, .int .i64 0]) 16 Try.underlying24 hi0 hz0 hz1 hz2 rfl (by decide) rfl rfl (F2o.alloc _) (Hmd.out _) (fun _ _ => rfl) (fun x _ => ver_one x) ?c1 ?c2 ?c3 ?_; (case c1 => (have e1 := Htl.out; have e2 := Hbl.out; have e3 := Hnl.out; unfold maxLen; rw [show ([(⟨x1, x2⟩ : Ver.V)]).length = 1 from rfl]; omega)); (case c2 => (have e1 := Htl.out; have e2 := Hbl.out; have e3 := Hnl.out; rw [show ([(⟨x1, x2⟩ : Ver.V)]).length = 1 from rfl]; omega)); (case c3 => (first | omega | (simp; omega) | simp)); intro v3 w3 own3 hg3 _; have F3 := F2.more (x := (⟨x1, x2⟩ : Ver.V)) (v' := v3) (by simpa [verV] using own3) hg3; have hs3 := F3.2.size; have F3o := F3.1)
        | (at_builtin; refine wp_joins (f := verV) (k := 2) rfl _ _ 24 rfl W2.heap.size 43 i0 (.agg #[.int .i64 0, .int .i64 0]) 16 Try.underlying24 hi0 hz0 hz1 hz2 rfl (by decide) rfl rfl (H0n.out _) Hfront (fun _ _ => rfl) (fun x _ => ver_one x) ?a1 ?a2 ?a3 ?_; (case a1 => (have e1 := Htl.out; have e2 := Hbl.out; have e3 := Hnl.out; unfold maxLen; omega)); (case a2 => (have e1 := Htl.out; have e2 := Hbl.out; have e3 := Hnl.out; omega)); (case a3 => (first | omega | (simp; omega) | simp)); intro v2 w2 own2 hg2 _; have F2 := RowsOwn.front hg2 own2; have hs2 := F2.2.size; have F2o := F2.1; obtain ⟨k0, k1⟩ := XC.out _ F2.2))
       all_goals
        have F4 := Lib.hid (And.intro ((F3.rest hg4 own4).since HBW.out) ((LB.out.trans HLW.out).below.trans ((F3.rest hg4 own4).2.mono (LB.out.trans HLW.out).below.size)))
        clear own4 hg4 F3 F2 own3 hg3 own2 hg2 F3o F2o k0 k1
        go_ret
        exact ⟨_, rfl, by rw [hfin.out]; exact F4.out⟩
   ·obtain rfl : n = l.length := by omega
    have hput := Lib.hid (Ver.put_at (n := l.length) hlow.out (fun z hz => by simp at hz) hn)
    have hfin : Hid (Ver.put l ⟨x1, x2⟩ = l.take l.length ++ [⟨x1, x2⟩] ++ l.drop l.length) := Lib.hid (by rw [hput.out, if_neg (by simp)])
    clear hput hlow
    go_wp2_with fail
    go_quiet (fail)
    have HLW : Hid (Laid (w0.alloc (.cells #[.int .i64 x1, .int .i64 x2] 43)) (wr.drewN nq)) := Lib.hid (HLD.out.trans ⟨nq, #[], by rw [grow_empty]⟩)
    generalize wr.drewN nq = W at *
    go_wp2_with fail
    go_quiet (fail)
    have HLW : Hid (Laid (w0.alloc (.cells #[.int .i64 x1, .int .i64 x2] 43)) (W.drewN nq)) := Lib.hid (HLW.out.trans ⟨nq, #[], by rw [grow_empty]⟩)
    generalize W.drewN nq = W2 at *
    have HBW := Lib.hid (H0.out.2.trans ((LB.out.trans HLW.out).below.mono H0.out.2.size))
    have XC := Lib.hid (fun W (hW : Below W2.heap.size W2 W) => show W.cell? ⟨w0.heap.size, 0, none⟩ = some (.int .i64 x1) ∧ W.cell? ⟨w0.heap.size, 1, none⟩ = some (.int .i64 x2) from
     ⟨(hW.cell (p := ⟨w0.heap.size, 0, none⟩) (by have := HLW.out.below.size; simp at this; show w0.heap.size < W2.heap.size; omega)).trans (XB.out _ HLW.out).1, (hW.cell (p := ⟨w0.heap.size, 1, none⟩) (by have := HLW.out.below.size; simp at this; show w0.heap.size < W2.heap.size; omega)).trans (XB.out _ HLW.out).2⟩)
    have Hrow := (H0.out.rows (fun _ _ => rfl)).below (LB.out.trans HLW.out).below
    have Hfront : Vrs (W2.alloc (.cells #[] 43)) (NewIn w W2) (.slice (some ⟨g, 0, none⟩) l.length cap) (l.take l.length) := by
     have hb' : Below W2.heap.size W2 (W2.alloc (.cells #[] 43)) := (Below.refl _ _).alloc (Nat.le_refl _) _
     have := (Hrow.below hb').take rfl l.length hn cap (by omega)
     exact this.mono (fun i hi => ⟨hi.1, Nat.lt_of_lt_of_le hi.2 (LB.out.trans HLW.out).below.size⟩)
    have Htl : Hid ((l.take l.length).length = l.length) := Lib.hid (by rw [List.length_take]; omega)
    have Hbl : Hid ((l.drop l.length).length = l.length - l.length) := Lib.hid List.length_drop
    have Hnl : Hid (l.length ≤ l.length ∧ l.length ≤ 1000000) := Lib.hid ⟨hn, Hl.out⟩
    have Hzero : Hid (∀ A c w', Vrs w' (fun _ => False) (.slice A 0 c) (l.drop l.length)) := Lib.hid (fun A c w' => by
     rw [List.drop_of_length_le (Nat.le_refl _)]
     exact Rws.empty _ _ _ _)
    go_wp2_with (first
     | (at_builtin; refine wp_joins (f := verV) (k := 2) rfl _ _ 24 rfl W2.heap.size 43 i0 (.agg #[.int .i64 0, .int .i64 0]) 16 Try.underlying24 hi0 hz0 hz1 hz2 rfl (by decide) rfl rfl F3o (Hzero.out _ _ _) (fun _ _ => rfl) (fun x _ => ver_one x) ?b1 ?b2 ?b3 ?_; (case b1 => (have e1 := Htl.out; have e2 := Hbl.out; have e3 := Hnl.out; unfold maxLen; rw [List.length_append, show ([(⟨x1, x2⟩ : Ver.V)]).length = 1 from rfl]; omega)); (case b2 => (have e1 := Htl.out; have e2 := Hbl.out; have e3 := Hnl.out; rw [List.length_append, show ([(⟨x1, x2⟩ : Ver.V)]).length = 1 from rfl]; omega)); (case b3 => (first | omega | (simp; omega) | simp)); intro v4 w4 own4 hg4 _)
     | (at_builtin; refine wp_joins (f := verV) (k := 2) rfl _ _ 24 rfl W2.heap.size 43 i0 (.agg #[.int .i64 0, .int .i64 0]) 16 Try.underlying24 hi0 hz0 hz1 hz2 rfl (by decide) rfl rfl (F2o.alloc _) (Hmd.out _) (fun _ _ => rfl) (fun x _ => ver_one x) ?c1 ?c2 ?c3 ?_; (case c1 => (have e1 := Htl.out; have e2 := Hbl.out; have e3 := Hnl.out; unfold maxLen; rw [show ([(⟨x1, x2⟩ : Ver.V)]).length = 1 from rfl]; omega)); (case c2 => (have e1 := Htl.out; have e2 := Hbl.out; have e3 := Hnl.out; rw [show ([(⟨x1, x2⟩ : Ver.V)]).length = 1 from rfl]; omega)); (case c3 => (first | omega | (simp; omega) | simp)); intro v3 w3 own3 hg3 _; have F3 := F2.more (x := (⟨x1, x2⟩ : Ver.V)) (v' := v3) (by simpa [verV] using own3) hg3; have hs3 := F3.2.size; have F3o := F3.1)
     | (at_builtin; refine wp_joins (f := verV) (k := 2) rfl _ _ 24 rfl W2.heap.size 43 i0 (.agg #[.int .i64 0, .int .i64 0]) 16 Try.underlying24 hi0 hz0 hz1 hz2 rfl (by decide) rfl rfl (H0n.out _) Hfront (fun _ _ => rfl) (fun x _ => ver_one x) ?a1 ?a2 ?a3 ?_; (case a1 => (have e1 := Htl.out; have e2 := Hbl.out; have e3 := Hnl.out; unfold maxLen; omega)); (case a2 => (have e1 := Htl.out; have e2 := Hbl.out; have e3 := Hnl.out; omega)); (case a3 => (first | omega | (simp; omega) | simp)); intro v2 w2 own2 hg2 _; have F2 := RowsOwn.front hg2 own2; have hs2 := F2.2.size; have F2o := F2.1; obtain ⟨k0, k1⟩ := XC.out _ F2.2))
    all_goals
     have F4 := Lib.hid (And.intro ((F3.rest hg4 own4).since HBW.out) ((LB.out.trans HLW.out).below.trans ((F3.rest hg4 own4).2.mono (LB.out.trans HLW.out).below.size)))
     clear own4 hg4 F3 F2 own3 hg3 own2 hg2 F3o F2o k0 k1
     go_ret
     exact ⟨_, rfl, by rw [hfin.out]; exact F4.out⟩
theorem ref_put {w w0 : World} {v : Value} {l : List Ver.V} (h : RowsOwn 43 2 verV w l v w0) (hl : l.length ≤ 1000000) (x : Ver.V) :
  Calls Try.prog 47 #[v, verA x] w0 fun e w' => ∃ v', e = .returned v' ∧ RowsOwn 43 2 verV w (Ver.put l x) v' w' :=
 (ref_put_both h hl x).mono (fun e w' ⟨v', he, hr, _⟩ => ⟨v', he, hr⟩)
open Go.RowKit
def boolV (b : Bool) : List Value := [.bool b]
abbrev Bools (w : World) (F : Nat → Prop) (v : Value) (l : List Bool) : Prop := Rws 1 boolV w F v l
theorem Bools.at {w : World} {F : Nat → Prop} {b o : Nat} {n cap : Nat} {l : List Bool} (h : Bools w F (.slice (some ⟨b, o, none⟩) n cap) l) {i : Nat} {x : Bool} (hx : l[i]? = some x) : w.cell? ⟨b, o + i, none⟩ = some (.bool x) := by
 obtain ⟨A, c, e, -, hat⟩ := h
 injection e with e1 e2 e3
 obtain ⟨b', o', e, -, -, hc⟩ := hat (by obtain ⟨hl, _⟩ := List.getElem?_eq_some_iff.1 hx; omega)
 rw [e] at e1
 injection e1 with e1
 injection e1 with e1 e2
 subst e1 e2
 have := hc i x hx 0 _ rfl
 rwa [Nat.mul_one, Nat.add_zero] at this
open Go.RowKit
namespace Pth
end Pth
open Go.RowKit
open Go.RowKit
end Go.Proofs.Ytpafpegcodempaa
