import Derived.Test.YtpafpegcodempaaGreatCom4
import Derived.Test.YtpafpegcodempaaGreatCom2
import Derived.Test.YtpafpegcodempaaGreatCom3
import Derived.Test.YtpafpegcodempaaGreatCom1
import Derived.Deep.QuietTactic
set_option maxRecDepth 100000
set_option linter.all false
set_option maxHeartbeats 12800000
namespace Go.Proofs.YtpafpegcodempaaGreat
open Go.RowKit Go.Sort
theorem vec_clean (w : World) {v : List Int} (hv : v.length = 65) : Calls Tryz.prog 266 #[vecA v] w fun e w' => e = .returned (vecA (Vec.clean v)) ∧ Laid w w' := by
 have hz := vecZero
 have hb1 : VRow ((w.alloc (.cells (vecR v) 32)).alloc (.cells (vecR Vec.zeros) 32)) w.heap.size v := (VRow.made w hv).alloc _
 have hb2 : VRow ((w.alloc (.cells (vecR v) 32)).alloc (.cells (vecR Vec.zeros) 32)) (w.heap.size + 1) Vec.zeros := by
  have := VRow.made (w.alloc (.cells (vecR v) 32)) (v := Vec.zeros) Vec.zeros_len
  rwa [World.size_alloc] at this
 have HB1 := Lib.hid hb1
 have HB2 := Lib.hid hb2
 have HL0 : Hid (Laid w ((w.alloc (.cells (vecR v) 32)).alloc (.cells (vecR Vec.zeros) 32))) := Lib.hid ((Laid.new w _).alloc _)
 have HV := Lib.hid hv
 clear hv hb1 hb2
 go_enter Tryz.func266, Tryz.ntmps266
 go_wp2_with (refine wpList_vload (by rfl) _ (by rfl) (by rfl) HB1.out ?_)
 go_loopw [6] (fun i wr => ∃ k : Nat, k ≤ 65 ∧ i = .int .i64 (k : Int) ∧ VRow wr w.heap.size (Vec.part (fun i => max ((v[i]?).getD 0) 0) v k) ∧ VRow wr (w.heap.size + 1) Vec.zeros ∧ Laid w wr) (fun i _ => 65 - (intOf i).toNat)
 case atStart => exact ⟨0, Nat.zero_le _, rfl, by rw [Vec.part_zero]; exact HB1.out, HB2.out, HL0.out⟩
 case round =>
  obtain ⟨k, hk, rfl, h1, h2, h3⟩ := hrel
  by_cases hlt : k < 65
  ·obtain ⟨n, hn⟩ : ∃ n, v[k]? = some n := ⟨_, List.getElem?_eq_getElem (by rw [HV.out]; exact hlt)⟩
   have hix := vec_index hlt hn
   have had := vec_addr hlt w.heap.size
   have hc := h1.at (i := k) (n := n) (by rw [Vec.part_ge _ _ (by omega) (Nat.le_refl k)]; exact hn)
   have hf := h1.free k
   have hk0 : (0 : Int) ≤ (k : Int) := by omega
   have hk1 : (k : Int) < 65 := by omega
   have HN := Lib.hid hn
   have H1 := Lib.hid h1
   have H2 := Lib.hid h2
   have H3 := Lib.hid h3
   clear hn h1 h2 h3
   go_wp2_with fail
   have e : (Vec.part (fun i => max ((v[i]?).getD 0) 0) v k).set k (if n < 0 then 0 else n) = Vec.part (fun i => max ((v[i]?).getD 0) 0) v (k + 1) := by
    rw [← Vec.part_set _ HV.out hlt, HN.out]
    congr 1
    show _ = max n 0
    split <;> omega
   have h1 := H1.out.stored k (if n < 0 then 0 else n)
   rw [e] at h1
   have em : (if n < 0 then 0 else n) = max n 0 := by split <;> omega
   first
    | exact ⟨⟨k + 1, by omega, rfl, h1, H2.out.storedElsewhere (by simp) _, H3.out.stored (Nat.le_refl _) _⟩, by show 65 - ((k : Int) + 1).toNat < 65 - (k : Int).toNat; omega⟩
    | (rw [em] at h1; exact ⟨⟨k + 1, by omega, rfl, h1, H2.out.storedElsewhere (by simp) _, H3.out.stored (Nat.le_refl _) _⟩, by show 65 - ((k : Int) + 1).toNat < 65 - (k : Int).toNat; omega⟩)
  ·obtain rfl : k = 65 := by omega
   rw [Vec.part_all _ HV.out] at h1
   have had : ∀ W : World, (Instr.indexAt 32 (.pointer (some ⟨w.heap.size, 0, none⟩)) (.int .i64 0)).run Tryz.prog W = .ok (.pointer (some ⟨w.heap.size, 0, none⟩)) W := fun W => vec_addr (k := 0) (by omega) _ W
   have hc := h1.at (Vec.make_at _ 0 (by omega))
   have hf := h1.free 0
   have h4 := h1.stored 0 0
   rw [Vec.clean_set] at h4
   have H4 := Lib.hid h4
   have h5 : VRow (wr.setCell ⟨w.heap.size, 0, none⟩ (.int .i64 0)) (w.heap.size + 1) Vec.zeros := h2.storedElsewhere (by simp) _
   have H5 := Lib.hid h5
   have H6 : Hid (Laid w (wr.setCell ⟨w.heap.size, 0, none⟩ (.int .i64 0))) := Lib.hid (h3.stored (Nat.le_refl _) _)
   have Hc : Hid ((Vec.clean v).length = 65) := Lib.hid (Vec.clean_len v)
   clear h1 h2 h3 h4 h5
   generalize (max ((v[0]?).getD 0) 0) = n0 at *
   go_wp2_with (first | refine wpList_vload (by rfl) _ (by rfl) (by rfl) H4.out ?_ | refine wpList_vstore (by rfl) _ _ (by rfl) (by rfl) (by rfl) H5.out Hc.out ?_)
   exact bodyPost_ret (v := vecA (Vec.clean v)) (results_cell_row (by rfl) _ _ (w.heap.size + 1) 32 _ (0, 0) _ (by rfl) (H5.out.set _ Hc.out).row Tryz.underlying32 rfl (vecSize Hc.out)) rfl ⟨rfl, H6.out.set (Nat.le_succ _) _⟩
open Go.RowKit Go.Sort
def Vec.zip (g : Int → Int → Int) (x y : List Int) : List Int := Vec.make fun i => g ((x[i]?).getD 0) ((y[i]?).getD 0)
theorem Vec.zip_join (a b : List Int) : Vec.zip max (Vec.clean a) (Vec.clean b) = Vec.join a b := Vec.make_ext (fun i hi => by rw [Vec.clean_get a hi, Vec.clean_get b hi]; rfl)
theorem run_callFunc_own {P : Program} {f : FuncId} (h : (P.funcs[f]?).map (fun fn => (fn.name == "runtime.NumGoroutine", fn.body.isNone)) = some (false, false)) (args : Array Value) (w : World) : (callFunc f args).run P w = .ok (.enter f args) w := by
 cases hf : P.funcs[f]? with
 | none => rw [hf] at h; cases h
 | some fn =>
  rw [hf] at h
  simp only [Option.map_some, Option.some.injEq, Prod.mk.injEq] at h
  have h1 : fn.name ≠ "runtime.NumGoroutine" := by simpa using h.1
  have h2 : fn.body ≠ none := fun e => by rw [e] at h; cases h.2
  simp [callFunc, hf, h1, h2]
def Takes (fn : FuncId) (g : Int → Int → Int) : Prop := ((Tryz.prog.funcs[fn]?).map (fun f => (f.name == "runtime.NumGoroutine", f.body.isNone)) = some (false, false)) ∧ ∀ (W : World) (m n : Int), Calls Tryz.prog fn #[.int .i64 m, .int .i64 n] W fun e w' => e = .returned (.int .i64 (g m n)) ∧ Laid W w'
theorem takes_max : Takes 347 max := by
 refine ⟨by kernel_rfl, fun W m n => ?_⟩
 have L := Lib.hid (Laid.refl W)
 by_cases h : m < n
 ·have e : Hid (max m n = n) := Lib.hid (by omega)
  go_enter Tryz.func347, Tryz.ntmps347
  go_wp2_with fail
  go_ret
  exact ⟨by rw [e.out]; rfl, L.out⟩
 ·have e : Hid (max m n = m) := Lib.hid (by omega)
  go_enter Tryz.func347, Tryz.ntmps347
  go_wp2_with fail
  go_ret
  exact ⟨by rw [e.out]; rfl, L.out⟩
theorem vec_zip {w : World} {ba bb : Nat} {x y : List Int} {fn : FuncId} {g : Int → Int → Int} (tk : Takes fn g) (hx : VRow w ba x) (hy : VRow w bb y) : Calls Tryz.prog 380 #[.func (.func fn) #[] #[], .pointer (some ⟨ba, 0, none⟩), .pointer (some ⟨bb, 0, none⟩)] w fun e w' => e = .returned (vecA (Vec.zip g x y)) ∧ Laid w w' := by
 have hz := vecZero
 have hb1 : VRow ((w.alloc (.cells (vecR Vec.zeros) 32)).alloc (.cells (vecR Vec.zeros) 32)) w.heap.size Vec.zeros := (VRow.made w Vec.zeros_len).alloc _
 have hb2 : VRow ((w.alloc (.cells (vecR Vec.zeros) 32)).alloc (.cells (vecR Vec.zeros) 32)) (w.heap.size + 1) Vec.zeros := by
  have := VRow.made (w.alloc (.cells (vecR Vec.zeros) 32)) (v := Vec.zeros) Vec.zeros_len
  rwa [World.size_alloc] at this
 have HL0 : Hid (Laid w ((w.alloc (.cells (vecR Vec.zeros) 32)).alloc (.cells (vecR Vec.zeros) 32))) := Lib.hid ((Laid.new w _).alloc _)
 have HB1 := Lib.hid hb1
 have HB2 := Lib.hid hb2
 have HX := Lib.hid hx
 have HY := Lib.hid hy
 have TK := Lib.hid tk.2
 have hcf := run_callFunc_own tk.1
 clear hx hy hb1 hb2 tk
 go_enter Tryz.func380, Tryz.ntmps380
 go_wp2_with fail
 go_loopw [7] (fun i wr => ∃ k : Nat, k ≤ 65 ∧ i = .int .i64 (k : Int) ∧ VRow wr w.heap.size Vec.zeros ∧ VRow wr (w.heap.size + 1) (Vec.part (fun i => g ((x[i]?).getD 0) ((y[i]?).getD 0)) Vec.zeros k) ∧ Laid w wr) (fun i _ => 65 - (intOf i).toNat)
 case atStart => exact ⟨0, Nat.zero_le _, rfl, HB1.out, by rw [Vec.part_zero]; exact HB2.out, HL0.out⟩
 case round =>
  obtain ⟨k, hk, rfl, h1, h2, h3⟩ := hrel
  by_cases hlt : k < 65
  ·obtain ⟨m, hm⟩ : ∃ n, x[k]? = some n := ⟨_, List.getElem?_eq_getElem (by rw [HX.out.len]; exact hlt)⟩
   obtain ⟨n, hn⟩ : ∃ n, y[k]? = some n := ⟨_, List.getElem?_eq_getElem (by rw [HY.out.len]; exact hlt)⟩
   have had := fun b => vec_addr hlt b
   have hk0 : (0 : Int) ≤ (k : Int) := by omega
   have hk1 : (k : Int) < 65 := by omega
   have XC := Lib.hid (show ∀ W, Laid wr W → W.cell? ⟨ba, k, none⟩ = some (.int .i64 m) ∧ W.cell? ⟨bb, k, none⟩ = some (.int .i64 n) from fun W hW => ⟨(HX.out.below (h3.trans hW).below HX.out.inHeap).at hm, (HY.out.below (h3.trans hW).below HY.out.inHeap).at hn⟩)
   have e : Hid ((Vec.part (fun i => g ((x[i]?).getD 0) ((y[i]?).getD 0)) Vec.zeros k).set k (g m n) = Vec.part (fun i => g ((x[i]?).getD 0) ((y[i]?).getD 0)) Vec.zeros (k + 1)) := Lib.hid (by
    rw [← Vec.part_set _ Vec.zeros_len hlt, hm, hn]; rfl)
   have hz0 : Vec.zeros[k]? = some 0 := List.getElem?_replicate .. |>.trans (if_pos hlt)
   have hpk : (Vec.part (fun i => g ((x[i]?).getD 0) ((y[i]?).getD 0)) Vec.zeros k)[k]? = some 0 := by rw [Vec.part_ge _ _ (by omega) (Nat.le_refl k)]; exact hz0
   have Hpk := Lib.hid hpk
   have H1 := Lib.hid h1
   have H2 := Lib.hid h2
   have H3 := Lib.hid h3
   clear h1 h2 h3 hm hn hz0 hpk
   go_wp2_with fail
   refine wp_region_tail (n := 9) (S := (fun w' : World => Laid wr w')) (by kernel_rfl) (by kernel_rfl) (by rfl) ((Laid.refl wr).drew) (fun hHeld => ?_)
   refine wpAnyH_td (i := 0) rfl ?_
   simp only [zz]
   refine wpAnyH_td (i := 1) rfl ?_
   simp only [zz]
   refine wpAnyH_td (i := 2) rfl ?_
   simp only [zz]
   refine wpAnyH_td (i := 3) rfl ?_
   simp only [zz]
   refine wpAnyH_tk (i := 4) (v := ?_) rfl (Or.inl ⟨by rfl, (by intro w hSw; obtain ⟨d0, d1⟩ := XC.out _ hSw; go_simp; try with_reducible rfl)⟩) (by assumption) ?_
   simp only [zz]
   refine wpAnyH_td (i := 5) rfl ?_
   simp only [zz]
   refine wpAnyH_td (i := 6) rfl ?_
   simp only [zz]
   refine wpAnyH_tk (i := 7) (v := ?_) rfl (Or.inl ⟨by rfl, (by intro w hSw; obtain ⟨d0, d1⟩ := XC.out _ hSw; go_simp; try with_reducible rfl)⟩) (by assumption) ?_
   simp only [zz]
   refine wpAnyH_ready (rs := [8]) (by kernel_rfl) (by simp) ?_
   refine AllReadyH.cons rfl (fun K hK => ?_) AllReadyH.nil
   go_simp
   refine (TK.out _ _ _).mono ?_
   rintro e w8 ⟨rfl, h8⟩
   have hL := Laid.trans hHeld h8
   have c8 := (H2.out.below hL.below H2.out.inHeap).at Hpk.out
   have f8 := (H2.out.below hL.below H2.out.inHeap).free k
   have H8 : Hid (Laid wr w8) := Lib.hid hL
   have H2w := Lib.hid (H2.out.below hL.below H2.out.inHeap)
   clear h8
   refine hK.out _ _ hL (fun hHeld => ?_)
   clear hK K
   refine wpAnyH_done (by kernel_rfl) ?_ _
   refine wpAny_of_held (S := fun _ => True) _ _ _ _ ?_
   have hHeld : True := trivial
   refine wpAnyH_td (i := 9) rfl ?_
   simp only [zz]
   refine wpAnyH_ready (rs := [10]) (by kernel_rfl) (by simp) ?_
   refine AllReadyH.cons rfl (fun K hK => ?_) AllReadyH.nil
   go_simp
   refine hK.out _ _ trivial (fun hHeld => ?_)
   clear hK K
   refine wpAnyH_done (by kernel_rfl) ?_ _
   have h2 := H2w.out.stored k (g m n)
   rw [e.out] at h2
   have H2n := Lib.hid h2
   have H1n := Lib.hid ((H1.out.below H8.out.below H1.out.inHeap).storedElsewhere (p := ⟨w.heap.size + 1, k, none⟩) (by show w.heap.size + 1 ≠ w.heap.size; omega) (.int .i64 (g m n)))
   have H3n := Lib.hid ((H3.out.trans H8.out).stored (p := ⟨w.heap.size + 1, k, none⟩) (Nat.le_succ _) (.int .i64 (g m n)))
   clear h2 c8 f8
   go_wp2_with fail
   exact ⟨⟨k + 1, by omega, rfl, H1n.out, H2n.out, H3n.out⟩, by show 65 - ((k : Int) + 1).toNat < 65 - (k : Int).toNat; omega⟩
  ·obtain rfl : k = 65 := by omega
   rw [Vec.part_all _ Vec.zeros_len] at h2
   have H1 := Lib.hid h1
   have H2 := Lib.hid h2
   have H3 := Lib.hid h3
   have Hc : Hid ((Vec.zip g x y).length = 65) := Lib.hid (Vec.make_len _)
   clear h1 h2 h3
   go_wp2_with (first | refine wpList_vload (v := Vec.zip g x y) (by rfl) _ (by rfl) (by rfl) H2.out ?_ | refine wpList_vstore (by rfl) _ _ (by rfl) (by rfl) (by rfl) H1.out Hc.out ?_)
   exact bodyPost_ret (v := vecA (Vec.zip g x y)) (results_cell_row (by rfl) _ _ w.heap.size 32 _ (0, 0) _ (by rfl) (H1.out.set _ Hc.out).row Tryz.underlying32 rfl (vecSize Hc.out)) rfl ⟨rfl, H3.out.set (Nat.le_refl _) _⟩
theorem vec_joiner (w : World) {a b : List Int} (ha : a.length = 65) (hb : b.length = 65) : Calls Tryz.prog 346 #[vecA a, vecA b] w fun e w' => e = .returned (.func (.func 380) #[] #[.pointer (some ⟨w.heap.size, 0, none⟩), .pointer (some ⟨w.heap.size + 1, 0, none⟩)]) ∧ VRow w' w.heap.size (Vec.clean a) ∧ VRow w' (w.heap.size + 1) (Vec.clean b) ∧ Laid w w' := by
 have CA := Lib.hid (fun W => vec_clean W ha)
 have CB := Lib.hid (fun W => vec_clean W hb)
 have hla : (Vec.clean a).length = 65 := Vec.clean_len a
 have hlb : (Vec.clean b).length = 65 := Vec.clean_len b
 have r0 : VRow ((w.alloc (.cells (vecR a) 32)).alloc (.cells (vecR b) 32)) w.heap.size a := (VRow.made w ha).alloc _
 have r1 : VRow ((w.alloc (.cells (vecR a) 32)).alloc (.cells (vecR b) 32)) (w.heap.size + 1) b := by
  have := VRow.made (w.alloc (.cells (vecR a) 32)) hb
  rwa [World.size_alloc] at this
 have hL : Laid w ((w.alloc (.cells (vecR a) 32)).alloc (.cells (vecR b) 32)) := (Laid.new w _).alloc _
 have hsz : ((w.alloc (.cells (vecR a) 32)).alloc (.cells (vecR b) 32)).heap.size = w.heap.size + 1 + 1 := by simp
 have R0 := Lib.hid r0
 have R1 := Lib.hid r1
 have HL := Lib.hid hL
 have HA := Lib.hid hla
 have HB := Lib.hid hlb
 clear r0 r1 hL hla hlb ha hb hsz
 go_enter Tryz.func346, Tryz.ntmps346
 go_wp2_with fail
 generalize (w.alloc (.cells (vecR a) 32)).alloc (.cells (vecR b) 32) = W0 at *
 refine wp_region_tail (n := 4) (S := (fun w' : World => Laid W0 w')) (by kernel_rfl) (by kernel_rfl) (by rfl) ((Laid.refl W0).drew) (fun hHeld => ?_)
 refine wpAnyH_tk (i := 0) (v := vecA a) rfl (Or.inl ⟨by rfl, (by intro w hSw; exact exec_vload (by rfl) (by rfl) (R0.out.below (Laid.below hSw) R0.out.inHeap))⟩) (by assumption) ?_
 simp only [zz]
 refine wpAnyH_tk (i := 2) (v := vecA b) rfl (Or.inl ⟨by rfl, (by intro w hSw; exact exec_vload (by rfl) (by rfl) (R1.out.below (Laid.below hSw) R1.out.inHeap))⟩) (by assumption) ?_
 simp only [zz]
 refine wpAnyH_ready (rs := [1]) (by kernel_rfl) (by simp) ?_
 refine AllReadyH.cons rfl (fun K hK => ?_) AllReadyH.nil
 go_simp
 go_at_call 266
 refine (CA.out _).mono ?_
 rintro e w8 ⟨rfl, h8⟩
 have hL := Laid.trans hHeld h8
 refine hK.out _ _ hL (fun hHeld => ?_)
 clear h8 hL
 clear hK K
 refine wpAnyH_ready (rs := [3]) (by kernel_rfl) (by simp) ?_
 refine AllReadyH.cons rfl (fun K hK => ?_) AllReadyH.nil
 go_simp
 go_at_call 266
 refine (CB.out _).mono ?_
 rintro e w9 ⟨rfl, h8⟩
 have hL := Laid.trans hHeld h8
 have L9 : Hid (Laid W0 w9) := Lib.hid hL
 have Q0 := Lib.hid (R0.out.below L9.out.below R0.out.inHeap)
 have Q1 := Lib.hid ((R1.out.below L9.out.below R1.out.inHeap).setElsewhere (c := w.heap.size) (by omega) (vecR (Vec.clean a)))
 refine hK.out _ _ hL (fun hHeld => ?_)
 clear h8 hL
 clear hK K
 refine wpAnyH_done (by kernel_rfl) ?_ _
 refine wpAny_of_held (S := fun _ => True) _ _ _ _ ?_
 have hHeld : True := trivial
 refine wpAnyH_ready (rs := [4]) (by kernel_rfl) (by simp) ?_
 refine AllReadyH.cons rfl (fun K hK => ?_) AllReadyH.nil
 refine step_vstore (.tmp 2) (.tmp 6) rfl (by rfl) (by rfl) (by rfl) Q0.out HA.out ?_
 refine hK.out _ _ trivial (fun hHeld => ?_)
 clear hK K
 refine wpAnyH_ready (rs := [5]) (by kernel_rfl) (by simp) ?_
 refine AllReadyH.cons rfl (fun K hK => ?_) AllReadyH.nil
 refine step_vstore (.tmp 3) (.tmp 8) rfl (by rfl) (by rfl) (by rfl) Q1.out HB.out ?_
 have F0 := Lib.hid ((Q0.out.set _ HA.out).setElsewhere (c := w.heap.size + 1) (by omega) (vecR (Vec.clean b)))
 have F1 := Lib.hid (Q1.out.set _ HB.out)
 have F2 := Lib.hid (((HL.out.trans L9.out).set (Nat.le_refl _) (vecR (Vec.clean a))).set (b := w.heap.size + 1) (Nat.le_succ _) (vecR (Vec.clean b)))
 refine hK.out _ _ trivial (fun hHeld => ?_)
 clear hK K
 refine wpAnyH_done (by kernel_rfl) ?_ _
 go_wp2_with fail
 go_ret
 exact ⟨rfl, F0.out, F1.out, F2.out⟩
theorem vec_join (w : World) {a b : List Int} (ha : a.length = 65) (hb : b.length = 65) : Calls Tryz.prog 284 #[vecA a, vecA b] w fun e w' => e = .returned (vecA (Vec.join a b)) ∧ Laid w w' := by
 have hz := vecZero
 have JO := Lib.hid (fun W => vec_joiner W ha hb)
 have start : ∃ W, W = ((w.alloc (.cells (vecR a) 32)).alloc (.cells (vecR b) 32)).alloc (.cells (vecR Vec.zeros) 32) ∧ VRow W w.heap.size a ∧ VRow W (w.heap.size + 1) b ∧ VRow W (w.heap.size + 1 + 1) Vec.zeros ∧ Laid w W := by
  refine ⟨_, rfl, ((VRow.made w ha).alloc _).alloc _, ?_, ?_, ((Laid.new w _).alloc _).alloc _⟩
  ·have := (VRow.made (w.alloc (.cells (vecR a) 32)) hb).alloc (.cells (vecR Vec.zeros) 32)
   rwa [World.size_alloc] at this
  ·have := VRow.made ((w.alloc (.cells (vecR a) 32)).alloc (.cells (vecR b) 32)) (v := Vec.zeros) Vec.zeros_len
   rwa [World.size_alloc, World.size_alloc] at this
 obtain ⟨W, hW, r0, r1, r2, hL⟩ := start
 have HW := Lib.hid hW
 have R0 := Lib.hid r0
 have R1 := Lib.hid r1
 have R2 := Lib.hid r2
 have HL := Lib.hid hL
 have HJ := Lib.hid (Vec.zip_join a b)
 have Hc : Hid ((Vec.join a b).length = 65) := Lib.hid (Vec.make_len _)
 clear ha hb r0 r1 r2 hL
 go_enter Tryz.func284, Tryz.ntmps284
 go_wp2_with (first | refine wpList_vload (by rfl) _ (by rfl) (by rfl) (HW.out ▸ R0.out) ?_ | refine wpList_vload (by rfl) _ (by rfl) (by rfl) (HW.out ▸ R1.out) ?_)
 rw [← hW]
 refine (JO.out _).mono ?_
 rintro e w1 ⟨rfl, h1, h2, h3⟩
 have ZI := Lib.hid (vec_zip takes_max h1 h2)
 have S2 := Lib.hid (R2.out.below h3.below R2.out.inHeap)
 have S3 := Lib.hid (HL.out.trans h3)
 clear h1 h2 h3 hW
 go_wp2_with fail
 refine ZI.out.mono ?_
 rintro e w2 ⟨rfl, h4⟩
 rw [HJ.out]
 have S4 := Lib.hid (S2.out.below h4.below S2.out.inHeap)
 have S5 := Lib.hid (S3.out.trans h4)
 clear h4
 go_wp2_with (refine wpList_vstore (by rfl) _ _ (by rfl) (by rfl) (by rfl) S4.out Hc.out ?_)
 exact bodyPost_ret (v := vecA (Vec.join a b)) (results_cell_row (by rfl) _ _ (w.heap.size + 1 + 1) 32 _ (0, 0) _ (by rfl) (S4.out.set _ Hc.out).row Tryz.underlying32 rfl (vecSize Hc.out)) rfl ⟨rfl, S5.out.set (by omega) _⟩
open Go.RowKit Go.Sort
def ErrAt (w : World) (c : Nat) (ok : Bool) : Prop := Row w c 39 #[.int .i64 (if ok then 0 else 4)]
def Pck.okTo (ok : Bool) (bs : List UInt8) : Bool := ok && decide (bs.length ≤ 65536)
def Pck.bsTo (ok : Bool) (bs : List UInt8) : List UInt8 := if Pck.okTo ok bs then bs else []
def PutTo (w : World) (c : Nat) (ok : Bool) (bs : List UInt8) (e : Ending) (w' : World) : Prop :=
 e = .returned (.string (mk (Pck.bsTo ok bs))) ∧ ErrAt w' c (Pck.okTo ok bs) ∧ w.grownBy w' (some c)
theorem ErrAt.below {w w' : World} {c : Nat} {ok : Bool} (h : ErrAt w c ok) (hb : Below w.heap.size w w') : ErrAt w' c ok := Row.below h hb (Row.inHeap h)
theorem ErrAt.new {w : World} {c : Nat} {ok : Bool} (h : ErrAt w c ok) (o : Obj) : ErrAt (w.alloc o) c ok := Row.behindNew h o
theorem ErrAt.draw {w : World} {c : Nat} {ok : Bool} (h : ErrAt w c ok) : ErrAt w.drew c ok := h
theorem ErrAt.at {w : World} {c : Nat} {ok : Bool} (h : ErrAt w c ok) : w.cell? ⟨c, 0, none⟩ = some (.int .i64 (if ok then 0 else 4)) := Row.at h 0
def FlOk (f : Fl) : Prop := 0 ≤ f.head ∧ f.head < 9223372036854775808 ∧ f.body.size ≤ 9223372036854775807
theorem flN_all (n : Int) : (flN n).bytes = Pck.num n := by
 unfold Fl.bytes Fl.head Fl.body flN numOf strOf Pck.num
 simp
theorem flT_all (t : List UInt8) : (flT t).bytes = Pck.txt t := flT_bytes t
theorem flN_ok {n : Int} (h0 : 0 ≤ n) (h : n ≤ 9223372036854775807) : FlOk (flN n) := by
 unfold FlOk Fl.head Fl.body flN numOf strOf
 simp only [Bool.false_eq_true, if_false]
 exact ⟨h0, by omega, by decide⟩
theorem flT_ok {t : List UInt8} (h : t.length ≤ 9223372036854775807) : FlOk (flT t) := by
 unfold FlOk Fl.head Fl.body flT numOf strOf
 simp only [if_true, mk_len]
 omega
theorem Pck.bsTo_len (ok : Bool) (bs : List UInt8) : (Pck.bsTo ok bs).length ≤ 65536 := by
 unfold Pck.bsTo Pck.okTo
 split
 ·rename_i h
  rw [Bool.and_eq_true, decide_eq_true_iff] at h
  exact h.2
 ·simp
theorem Pck.okTo_false (bs : List UInt8) : Pck.okTo false bs = false := rfl
structure Lays (id : FuncId) : Prop where
 there : (Tryz.prog.funcs[id]?).map (fun f => (f.name == "runtime.NumGoroutine", f.body.isNone)) = some (false, false)
 lays : ∀ {w : World} {c b cap : Nat} {ok : Bool} {fs : List Fl}, ErrAt w c ok → FieldsAt w b 0 fs → b < w.heap.size → fs.length ≤ 70000 → (∀ f ∈ fs, FlOk f) → Calls Tryz.prog id #[.slice (some ⟨b, 0, none⟩) fs.length cap, .pointer (some ⟨c, 0, none⟩)] w (PutTo w c ok (allBytes fs))
theorem lay_good {fs : List Fl} (h : ∀ f ∈ fs, FlOk f) : layOf fs = if 65536 < (allBytes fs).length then ([], 4) else (allBytes fs, 0) := by
 unfold layOf
 rw [if_neg]
 rw [List.any_eq_true]
 rintro ⟨f, hf, hn⟩
 have h1 := (h f hf).1
 have : f.head < 0 := by simpa using hn
 omega
theorem fl_fits {fs : List Fl} (h : ∀ f ∈ fs, FlOk f) : Fits fs := fun i f hf => (h f (List.mem_of_getElem? hf)).2
theorem lays_vec : Lays 265 := by
 refine ⟨by kernel_rfl, ?_⟩
 intro w c b cap ok fs hE hF hb hl hf
 cases ok
 ·have c0 : w.cell? ⟨c, 0, none⟩ = some (.int .i64 4) := Row.at hE 0
  have HE := Lib.hid hE
  clear hE hF hb hl hf
  go_enter Tryz.func265, Tryz.ntmps265
  go_wp2_with fail
  go_ret
  exact ⟨rfl, HE.out, gb_refl _ _⟩
 ·have c0 : w.cell? ⟨c, 0, none⟩ = some (.int .i64 0) := Row.at hE 0
  have LA := lay_any (cap := cap) hF hb hl (fl_fits hf)
  have LG := lay_good hf
  have HE := Lib.hid hE
  unfold LayPost at LA
  by_cases hbig : 65536 < (allBytes fs).length
  ·rw [if_pos hbig] at LG
   rw [LG] at LA
   have HO : Hid (Pck.okTo true (allBytes fs) = false) := Lib.hid (by unfold Pck.okTo; simp; omega)
   replace LA := Lib.hid LA
   clear hE hF hl hf LG hbig hb
   generalize allBytes fs = bs at *
   generalize fs.length = n at *
   go_enter Tryz.func265, Tryz.ntmps265
   go_wp2_with fail
   refine LA.out.mono ?_
   rintro e w1 ⟨rfl, hb1⟩
   have R1 := Lib.hid (HE.out.below hb1)
   have c1 : w1.cell? ⟨c, 0, none⟩ = some (.int .i64 0) := Row.at R1.out 0
   have f1 := Row.free R1.out 0
   have K1 := Lib.hid (Row.stored R1.out 0 (.int .i64 4))
   have G1 := Lib.hid (gb_store (gb_below hb1 (some c)) 0 (.int .i64 4))
   clear hb1
   go_wp2_with fail
   go_ret
   exact ⟨by unfold Pck.bsTo; rw [HO.out]; rfl, by rw [HO.out]; exact K1.out, G1.out⟩
  ·rw [if_neg hbig] at LG
   rw [LG] at LA
   have HO : Hid (Pck.okTo true (allBytes fs) = true) := Lib.hid (by unfold Pck.okTo; simp; omega)
   replace LA := Lib.hid LA
   clear hE hF hl hf LG hbig hb
   generalize allBytes fs = bs at *
   generalize fs.length = n at *
   go_enter Tryz.func265, Tryz.ntmps265
   go_wp2_with fail
   refine LA.out.mono ?_
   rintro e w1 ⟨rfl, hb1⟩
   have R1 := Lib.hid (HE.out.below hb1)
   have c1 : w1.cell? ⟨c, 0, none⟩ = some (.int .i64 0) := Row.at R1.out 0
   have f1 := Row.free R1.out 0
   have K1 := Lib.hid (Row.stored R1.out 0 (.int .i64 0))
   have G1 := Lib.hid (gb_store (gb_below hb1 (some c)) 0 (.int .i64 0))
   clear hb1
   go_wp2_with fail
   go_ret
   exact ⟨by unfold Pck.bsTo; rw [HO.out]; rfl, by rw [HO.out]; exact K1.out, G1.out⟩
theorem lays_know : Lays 168 := by
 refine ⟨by kernel_rfl, ?_⟩
 intro w c b cap ok fs hE hF hb hl hf
 cases ok
 ·have c0 : w.cell? ⟨c, 0, none⟩ = some (.int .i64 4) := Row.at hE 0
  have HE := Lib.hid hE
  clear hE hF hb hl hf
  go_enter Tryz.func168, Tryz.ntmps168
  go_wp2_with fail
  go_ret
  exact ⟨rfl, HE.out, gb_refl _ _⟩
 ·have c0 : w.cell? ⟨c, 0, none⟩ = some (.int .i64 0) := Row.at hE 0
  have LA := lay_any (cap := cap) hF hb hl (fl_fits hf)
  have LG := lay_good hf
  have HE := Lib.hid hE
  unfold LayPost at LA
  by_cases hbig : 65536 < (allBytes fs).length
  ·rw [if_pos hbig] at LG
   rw [LG] at LA
   have HO : Hid (Pck.okTo true (allBytes fs) = false) := Lib.hid (by unfold Pck.okTo; simp; omega)
   replace LA := Lib.hid LA
   clear hE hF hl hf LG hbig hb
   generalize allBytes fs = bs at *
   generalize fs.length = n at *
   go_enter Tryz.func168, Tryz.ntmps168
   go_wp2_with fail
   refine LA.out.mono ?_
   rintro e w1 ⟨rfl, hb1⟩
   have R1 := Lib.hid (HE.out.below hb1)
   have c1 : w1.cell? ⟨c, 0, none⟩ = some (.int .i64 0) := Row.at R1.out 0
   have f1 := Row.free R1.out 0
   have K1 := Lib.hid (Row.stored R1.out 0 (.int .i64 4))
   have G1 := Lib.hid (gb_store (gb_below hb1 (some c)) 0 (.int .i64 4))
   clear hb1
   go_wp2_with fail
   go_ret
   exact ⟨by unfold Pck.bsTo; rw [HO.out]; rfl, by rw [HO.out]; exact K1.out, G1.out⟩
  ·rw [if_neg hbig] at LG
   rw [LG] at LA
   have HO : Hid (Pck.okTo true (allBytes fs) = true) := Lib.hid (by unfold Pck.okTo; simp; omega)
   replace LA := Lib.hid LA
   clear hE hF hl hf LG hbig hb
   generalize allBytes fs = bs at *
   generalize fs.length = n at *
   go_enter Tryz.func168, Tryz.ntmps168
   go_wp2_with fail
   refine LA.out.mono ?_
   rintro e w1 ⟨rfl, hb1⟩
   have R1 := Lib.hid (HE.out.below hb1)
   have c1 : w1.cell? ⟨c, 0, none⟩ = some (.int .i64 0) := Row.at R1.out 0
   have f1 := Row.free R1.out 0
   have K1 := Lib.hid (Row.stored R1.out 0 (.int .i64 0))
   have G1 := Lib.hid (gb_store (gb_below hb1 (some c)) 0 (.int .i64 0))
   clear hb1
   go_wp2_with fail
   go_ret
   exact ⟨by unfold Pck.bsTo; rw [HO.out]; rfl, by rw [HO.out]; exact K1.out, G1.out⟩
end Go.Proofs.YtpafpegcodempaaGreat
namespace Go.Proofs.YtpafpegcodempaaGreat.Pck
def ver (v : Ver.V) : List UInt8 := num v.by_ ++ num v.n
def verR (v : Ver.V) : List UInt8 := numR v.by_ ++ numR v.n
def versR (l : List Ver.V) : List UInt8 := lst verR l
def vers (l : List Ver.V) : List UInt8 := lst ver l
def vec (v : List Int) : List UInt8 := vers (Vec.ends v)
def rdVer : Rdr Ver.V := bnd rn fun b => bnd rn fun n => ret ⟨b, n⟩
def rdVers : Rdr (List Ver.V) := list rdVer
def rdVec : Rdr (List Int) := bnd rdVers fun l => ret (Vec.ofl l)
def Nn (n : Int) : Prop := 0 ≤ n ∧ n ≤ 9223372036854775807
def NnV (v : Ver.V) : Prop := Nn v.by_ ∧ Nn v.n
def acc {α : Type} (f : α → List UInt8) (l : List α) (n : Nat) : List UInt8 := Leb.enc l.length ++ (l.take n).flatMap (fun x => txt (f x))
theorem acc_zero {α : Type} (f : α → List UInt8) (l : List α) : numR (l.length : Int) = acc f l 0 := by
 unfold numR num acc
 rw [if_pos (by omega)]
 simp
theorem acc_all {α : Type} (f : α → List UInt8) (l : List α) : acc f l l.length = lst f l := by unfold acc; rw [List.take_length]; rfl
theorem acc_next {α : Type} {f : α → List UInt8} {l : List α} {n : Nat} {x : α} (hx : l[n]? = some x) : acc f l n ++ txt (f x) = acc f l (n + 1) := by
 obtain ⟨h1, e1⟩ := List.getElem?_eq_some_iff.1 hx
 unfold acc
 rw [List.take_succ_eq_append_getElem h1, e1, List.flatMap_append, List.append_assoc]
 simp
theorem acc_len {α : Type} {f : α → List UInt8} {l : List α} {m k : Nat} (hf : ∀ x ∈ l, (f x).length ≤ m) (hk : l.length ≤ k) (n : Nat) : (acc f l n).length ≤ 9 + k * (m + 9) := by
 have h1 := flat_le (f := f) (m := m) (l.take n) (fun y hy => hf y (List.mem_of_mem_take hy))
 have h2 := (Leb.enc_len l.length).2
 have h3 : (l.take n).length ≤ k := by rw [List.length_take]; omega
 have h4 : (l.take n).length * (m + 9) ≤ k * (m + 9) := Nat.mul_le_mul_right _ h3
 unfold acc
 rw [List.length_append]
 omega
theorem verR_is {v : Ver.V} (h : NnV v) : verR v = ver v := by unfold verR ver; rw [numR_is h.1.1, numR_is h.2.1]
theorem verR_len (v : Ver.V) : (verR v).length ≤ 18 := by
 have h1 := numR_len v.by_
 have h2 := numR_len v.n
 unfold verR
 rw [List.length_append]
 omega
theorem flat_same {α : Type} {f g : α → List UInt8} {l : List α} (h : ∀ x ∈ l, f x = g x) : lst f l = lst g l := by
 unfold lst
 congr 1
 induction l with
 | nil => rfl
 | cons x l ih =>
  rw [List.flatMap_cons, List.flatMap_cons, h x (by simp), ih (fun y hy => h y (List.mem_cons_of_mem _ hy))]
theorem versR_is {l : List Ver.V} (h : ∀ x ∈ l, NnV x) : versR l = vers l := flat_same (fun x hx => verR_is (h x hx))
theorem takes_ver {v : Ver.V} (h : NnV v) : Takes rdVer (ver v) v :=
 (Takes.bnd (k := fun b => bnd rn fun n => ret (⟨b, n⟩ : Ver.V)) (Takes.num h.1.1 h.1.2) (Takes.bnd (Takes.num h.2.1 h.2.2) (Takes.ret _))).eq (by rw [List.append_nil]; rfl)
theorem ver_le (v : Ver.V) : (ver v).length ≤ 18 := by
 have h1 := num_len v.by_
 have h2 := num_len v.n
 unfold ver
 rw [List.length_append]
 omega
theorem vers_le (l : List Ver.V) : (vers l).length ≤ 9 + l.length * 27 := lst_le l (fun x _ => ver_le x)
theorem takes_vers {l : List Ver.V} (h : ∀ v ∈ l, NnV v) (hl : l.length < 9223372036854775808) : Takes rdVers (vers l) l :=
 list_backs (fun x hx => ⟨takes_ver (h x hx), by have := ver_le x; omega⟩) hl
theorem ends_le (v : List Int) : (Vec.ends v).length ≤ 65 := by
 have := Vec.endsK_len v 65
 rwa [Vec.endsK_all] at this
theorem vec_le (v : List Int) : (vec v).length ≤ 1764 := by
 have h1 := vers_le (Vec.ends v)
 have h2 := ends_le v
 have h3 : (Vec.ends v).length * 27 ≤ 65 * 27 := Nat.mul_le_mul_right _ h2
 unfold vec
 omega
theorem ends_nn {v : List Int} (h : ∀ n ∈ v, n ≤ 9223372036854775807) : ∀ x ∈ Vec.ends v, NnV x := by
 intro x hx
 obtain ⟨i, hi, h0, rfl⟩ := (Vec.ends_mem v x).1 hx
 have := Vec.at_le h i
 exact ⟨⟨by simp only; omega, by simp only; omega⟩, ⟨by simp only; omega, this⟩⟩
theorem takes_vec {v : List Int} (h : Vec.Plain v) (hb : ∀ n ∈ v, n ≤ 9223372036854775807) : Takes rdVec (vec v) v := by
 have h1 := takes_vers (ends_nn hb) (by have := ends_le v; omega)
 have h2 := (Takes.bnd h1 (k := fun l => ret (Vec.ofl l)) (Takes.ret _)).eq (List.append_nil _)
 rw [Vec.ofl_ends, Vec.plain_clean h] at h2
 exact h2
theorem rdVer_nn (l : List UInt8) (e : Int) : NnV (rdVer l e).1 := ⟨rn_nonneg _ _, rn_nonneg _ _⟩
theorem rdVers_nn (l : List UInt8) (e : Int) : ∀ v ∈ (rdVers l e).1, NnV v := list_all (m := l.length) (fun t _ => rdVer_nn t 0) l e (Nat.le_refl _)
theorem rdVer_never : Never rdVer := by show (rdVer [] 0).2.2 ≠ 0; decide +kernel
theorem rdVers_len (l : List UInt8) (e : Int) : (rdVers l e).1.length ≤ l.length := list_len rdVer_never l e
theorem rdVec_plain (l : List UInt8) (e : Int) : Vec.Plain (rdVec l e).1 := Vec.ofl_plain _
theorem rdVer_left (l : List UInt8) (e : Int) : (rdVer l e).2.1.length ≤ l.length := Nat.le_trans (rn_left _ _) (rn_left _ _)
def OkVec (v : List Int) : Prop := Vec.clean v = v
instance (v : List Int) : Decidable (OkVec v) := inferInstanceAs (Decidable (_ = _))
def OkItems (l : List Ver.V) : Prop := (∀ x ∈ l, Ver.Right x) ∧ Ver.sort l = l
instance (l : List Ver.V) : Decidable (OkItems l) := inferInstanceAs (Decidable (_ ∧ _))
theorem okVec_plain {v : List Int} : OkVec v ↔ Vec.Plain v := ⟨fun h => by have := Vec.clean_plain v; rwa [show Vec.clean v = v from h] at this, Vec.plain_clean⟩
def putVec (v : List Int) : List UInt8 × Int := putOf (OkVec v) (vec v)
def getVec (s : List UInt8) : List Int × Int := getOf rdVec putVec (List.replicate 65 0) s
end Go.Proofs.YtpafpegcodempaaGreat.Pck
namespace Go.Proofs.YtpafpegcodempaaGreat.Pth
abbrev Tx := List UInt8
def Covers (p s : Tx) : Prop := p = [] ∨ p = s ∨ (p.length < s.length ∧ s.take p.length = p ∧ s[p.length]? = some 47)
instance (p s : Tx) : Decidable (Covers p s) := inferInstanceAs (Decidable (_ ∨ _))
theorem covers_refl (a : Tx) : Covers a a := Or.inr (Or.inl rfl)
theorem covers_nil (a : Tx) : Covers [] a := Or.inl rfl
theorem covers_len {a b : Tx} (h : Covers a b) : a.length ≤ b.length := by
 rcases h with h | h | h
 ·rw [h]; exact Nat.zero_le _
 ·rw [h]; exact Nat.le_refl _
 ·omega
theorem covers_anti {a b : Tx} (h : Covers a b) (k : Covers b a) : a = b := by
 have h1 := covers_len h
 have h2 := covers_len k
 rcases h with h | h | h
 ·rw [h] at h2
  have : b = [] := List.eq_nil_of_length_eq_zero (by simpa using h2)
  rw [h, this]
 ·exact h
 ·omega
theorem covers_trans {a b c : Tx} (h : Covers a b) (k : Covers b c) : Covers a c := by
 rcases h with h | h | ⟨h1, h2, h3⟩
 ·exact Or.inl h
 ·rw [h]; exact k
 ·rcases k with k | k | ⟨k1, k2, k3⟩
  ·rw [k] at h1; simp at h1
  ·rw [← k]; exact Or.inr (Or.inr ⟨h1, h2, h3⟩)
  ·refine Or.inr (Or.inr ⟨by omega, ?_, ?_⟩)
   ·have e : c.take a.length = (c.take b.length).take a.length := by rw [List.take_take, Nat.min_eq_left (by omega)]
    rw [e, k2, h2]
   ·have e : (c.take b.length)[a.length]? = c[a.length]? := by rw [List.getElem?_take, if_pos h1]
    rw [← e, k2]
    exact h3
def meet (a b : Tx) : Tx × Bool := if Covers a b then (b, true) else if Covers b a then (a, true) else ([], false)
def parentTo (a : Tx) : Nat → Tx
 | 0 => []
 | n + 1 => if a[n]? = some 47 then a.take n else parentTo a n
def parent (a : Tx) : Tx := parentTo a a.length
def okChar (c : UInt8) : Bool := (97 ≤ c.toNat && c.toNat ≤ 122) || (48 ≤ c.toNat && c.toNat ≤ 57) || c.toNat == 45 || c.toNat == 95 || c.toNat == 46
def dots (s : Tx) : Nat := s.countP fun c => c.toNat == 46
def Name (s : Tx) : Prop := (∀ c ∈ s, okChar c = true) ∧ 1 ≤ s.length ∧ s.length ≤ 12 ∧ dots s < s.length
instance (s : Tx) : Decidable (Name s) := inferInstanceAs (Decidable (_ ∧ _))
def splitA : Tx → Tx → List Tx
 | cur, [] => [cur]
 | cur, c :: s => if c.toNat = 47 then cur :: splitA [] s else splitA (cur ++ [c]) s
def split (s : Tx) : List Tx := splitA [] s
def Right (s : Tx) : Prop := (∀ n ∈ split s, Name n) ∧ s.length ≤ 40 ∧ (split s).length ≤ 6
instance (s : Tx) : Decidable (Right s) := inferInstanceAs (Decidable (_ ∧ _))
def join : List Tx → Tx
 | [] => []
 | [a] => a
 | a :: b :: l => a ++ 47 :: join (b :: l)
def Joins (l : List Tx) : Prop := l ≠ [] ∧ (∀ n ∈ l, Name n) ∧ Right (join l)
instance (l : List Tx) : Decidable (Joins l) := inferInstanceAs (Decidable (_ ∧ _))
end Go.Proofs.YtpafpegcodempaaGreat.Pth
namespace Go.Proofs.YtpafpegcodempaaGreat.Sz
abbrev Rg := Int × Int
def holds (l : List Rg) (n : Int) : Bool := decide (0 ≤ n ∧ n ≤ 200) && l.any fun r => decide (r.1 ≤ n ∧ n ≤ r.2)
def of (l : List Rg) : List Bool := (List.range 201).map fun (k : Nat) => holds l (k : Int)
def formR : Nat → Option Nat → List Bool → List Rg
 | _, none, [] => []
 | k, some lo, [] => [((lo : Int), (k : Int) - 1)]
 | k, none, false :: b => formR (k + 1) none b
 | k, none, true :: b => formR (k + 1) (some k) b
 | k, some lo, true :: b => formR (k + 1) (some lo) b
 | k, some lo, false :: b => ((lo : Int), (k : Int) - 1) :: formR (k + 1) none b
def form (b : List Bool) : List Rg := formR 0 none b
def norm (l : List Rg) : List Rg := form (of l)
def pick (k : Nat) (x y : Bool) : Bool := if k = 0 then x || y else if k = 1 then x && y else x && !y
def two (k : Nat) (a b : List Rg) : List Rg := form ((List.range 201).map fun (i : Nat) => pick k (holds a (i : Int)) (holds b (i : Int)))
def many (l : List Rg) : Nat := ((of l).filter id).length
def Covers (a b : List Rg) : Prop := ∀ n : Int, holds b n = true → holds a n = true
theorem of_len (l : List Rg) : (of l).length = 201 := by simp [of]
theorem of_at (l : List Rg) (k : Nat) (h : k < 201) : (of l)[k]? = some (holds l (k : Int)) := by
 unfold of
 rw [List.getElem?_map, List.getElem?_range h]
 rfl
theorem holds_out {l : List Rg} {n : Int} (h : ¬ (0 ≤ n ∧ n ≤ 200)) : holds l n = false := by
 unfold holds
 rw [decide_eq_false h]
 rfl
theorem holds_cons (r : Rg) (l : List Rg) (n : Int) : holds (r :: l) n = ((decide (0 ≤ n ∧ n ≤ 200) && decide (r.1 ≤ n ∧ n ≤ r.2)) || holds l n) := by
 unfold holds
 rw [List.any_cons]
 cases decide (0 ≤ n ∧ n ≤ 200) <;> simp
theorem holds_nil (n : Int) : holds [] n = false := by simp [holds]
def open_ (k : Nat) (st : Option Nat) (n : Int) : Bool := match st with | some lo => decide ((lo : Int) ≤ n ∧ n ≤ (k : Int) - 1) | none => false
def Opens (k : Nat) (st : Option Nat) : Prop := ∀ lo, st = some lo → lo < k
theorem formR_holds : ∀ (b : List Bool) (k : Nat) (st : Option Nat), Opens k st → ∀ n : Int, 0 ≤ n → n ≤ 200 → holds (formR k st b) n = (open_ k st n || (decide ((k : Int) ≤ n) && (b[(n - k).toNat]?).getD false))
 | [], k, none, _, n, h0, h1 => by
  unfold formR open_
  rw [holds_nil]
  simp
 | [], k, some lo, _, n, h0, h1 => by
  unfold formR open_
  rw [holds_cons, holds_nil, decide_eq_true (p := 0 ≤ n ∧ n ≤ 200) ⟨h0, h1⟩]
  simp
 | false :: b, k, none, _, n, h0, h1 => by
  unfold formR
  rw [formR_holds b (k + 1) none (fun lo h => by cases h) n h0 h1]
  unfold open_
  simp only [Bool.false_or]
  by_cases h : (k : Int) ≤ n
  ·by_cases e : n = (k : Int)
   ·subst e
    have h2 : ¬ (((k + 1 : Nat) : Int) ≤ (k : Int)) := by omega
    rw [decide_eq_false h2]
    simp
   ·have h2 : ((k + 1 : Nat) : Int) ≤ n := by omega
    have h3 : (n - (k : Int)).toNat = (n - ((k + 1 : Nat) : Int)).toNat + 1 := by omega
    rw [decide_eq_true h, decide_eq_true h2, h3, List.getElem?_cons_succ]
  ·have h2 : ¬ (((k + 1 : Nat) : Int) ≤ n) := by omega
   rw [decide_eq_false h, decide_eq_false h2]
   simp
 | true :: b, k, none, _, n, h0, h1 => by
  unfold formR
  rw [formR_holds b (k + 1) (some k) (fun lo h => by injection h with h; omega) n h0 h1]
  unfold open_
  simp only [Bool.false_or]
  by_cases h : (k : Int) ≤ n
  ·by_cases e : n = (k : Int)
   ·subst e
    simp
   ·have h2 : ((k + 1 : Nat) : Int) ≤ n := by omega
    have h3 : (n - (k : Int)).toNat = (n - ((k + 1 : Nat) : Int)).toNat + 1 := by omega
    have h4 : ¬ ((k : Int) ≤ n ∧ n ≤ ((k + 1 : Nat) : Int) - 1) := by omega
    rw [decide_eq_true h, decide_eq_true h2, decide_eq_false h4, h3, List.getElem?_cons_succ, Bool.false_or]
  ·have h2 : ¬ (((k + 1 : Nat) : Int) ≤ n) := by omega
   have h4 : ¬ ((k : Int) ≤ n ∧ n ≤ ((k + 1 : Nat) : Int) - 1) := by omega
   rw [decide_eq_false h, decide_eq_false h2, decide_eq_false h4]
   simp
 | true :: b, k, some lo, ho, n, h0, h1 => by
  have hlo := ho lo rfl
  unfold formR
  rw [formR_holds b (k + 1) (some lo) (fun x h => by injection h with h; omega) n h0 h1]
  unfold open_
  by_cases e : n = (k : Int)
  ·subst e
   have h4 : ((lo : Int) ≤ (k : Int) ∧ (k : Int) ≤ ((k + 1 : Nat) : Int) - 1) := by omega
   simp only [decide_eq_true h4, Bool.true_or]
   simp
  ·by_cases h : (k : Int) ≤ n
   ·have h2 : ((k + 1 : Nat) : Int) ≤ n := by omega
    have h3 : (n - (k : Int)).toNat = (n - ((k + 1 : Nat) : Int)).toNat + 1 := by omega
    have h4 : ¬ ((lo : Int) ≤ n ∧ n ≤ ((k + 1 : Nat) : Int) - 1) := by omega
    have h5 : ¬ ((lo : Int) ≤ n ∧ n ≤ (k : Int) - 1) := by omega
    simp only [decide_eq_false h4, decide_eq_false h5, decide_eq_true h, decide_eq_true h2, h3, List.getElem?_cons_succ]
   ·have h2 : ¬ (((k + 1 : Nat) : Int) ≤ n) := by omega
    have h6 : ((lo : Int) ≤ n ∧ n ≤ ((k + 1 : Nat) : Int) - 1) ↔ ((lo : Int) ≤ n ∧ n ≤ (k : Int) - 1) := by omega
    simp only [decide_eq_false h, decide_eq_false h2, Bool.false_and, Bool.or_false]
    exact decide_eq_decide.2 h6
 | false :: b, k, some lo, ho, n, h0, h1 => by
  have hlo := ho lo rfl
  unfold formR
  rw [holds_cons, formR_holds b (k + 1) none (fun x h => by cases h) n h0 h1, decide_eq_true (p := 0 ≤ n ∧ n ≤ 200) ⟨h0, h1⟩]
  unfold open_
  simp only [Bool.true_and, Bool.false_or]
  congr 1
  by_cases h : (k : Int) ≤ n
  ·by_cases e : n = (k : Int)
   ·subst e
    have h2 : ¬ (((k + 1 : Nat) : Int) ≤ (k : Int)) := by omega
    rw [decide_eq_false h2]
    simp
   ·have h2 : ((k + 1 : Nat) : Int) ≤ n := by omega
    have h3 : (n - (k : Int)).toNat = (n - ((k + 1 : Nat) : Int)).toNat + 1 := by omega
    rw [decide_eq_true h, decide_eq_true h2, h3, List.getElem?_cons_succ]
  ·have h2 : ¬ (((k + 1 : Nat) : Int) ≤ n) := by omega
   rw [decide_eq_false h, decide_eq_false h2]
   simp
theorem form_holds (b : List Bool) (n : Int) (h0 : 0 ≤ n) (h1 : n ≤ 200) : holds (form b) n = (b[n.toNat]?).getD false := by
 unfold form
 rw [formR_holds b 0 none (fun lo h => by cases h) n h0 h1]
 unfold open_
 simp [h0]
theorem norm_holds (l : List Rg) (n : Int) : holds (norm l) n = holds l n := by
 by_cases h : 0 ≤ n ∧ n ≤ 200
 ·unfold norm
  rw [form_holds _ n h.1 h.2, of_at l n.toNat (by omega)]
  have : ((n.toNat : Nat) : Int) = n := by omega
  rw [this]
  rfl
 ·rw [holds_out h, holds_out h]
theorem of_same {a b : List Rg} (h : ∀ n, holds a n = holds b n) : of a = of b := by
 unfold of
 exact List.map_congr_left (fun k _ => h k)
theorem norm_norm (l : List Rg) : norm (norm l) = norm l := by
 show form (of (norm l)) = form (of l)
 rw [of_same (norm_holds l)]
theorem two_holds (k : Nat) (a b : List Rg) (n : Int) (h : 0 ≤ n ∧ n ≤ 200) : holds (two k a b) n = pick k (holds a n) (holds b n) := by
 unfold two
 rw [form_holds _ n h.1 h.2, List.getElem?_map, List.getElem?_range (by omega)]
 have : ((n.toNat : Nat) : Int) = n := by omega
 simp [this]
theorem formR_none : ∀ (b : List Bool) (k : Nat), formR k none b = [] ↔ ∀ x ∈ b, x = false
 | [], k => by simp [formR]
 | false :: b, k => by
  unfold formR
  rw [formR_none b (k + 1)]
  simp
 | true :: b, k => by
  constructor
  ·intro h
   exfalso
   have hne : ∀ (b : List Bool) (k lo : Nat), formR k (some lo) b ≠ [] := by
    intro b
    induction b with
    | nil => intro k lo; simp [formR]
    | cons x b ih =>
     intro k lo
     cases x
     ·simp [formR]
     ·show formR (k + 1) (some lo) b ≠ []
      exact ih _ _
   exact hne b (k + 1) k h
  ·intro h
   have := h true (by simp)
   cases this
theorem covers_iff (a b : List Rg) : Covers a b ↔ two 2 b a = [] := by
 unfold two form
 rw [formR_none]
 constructor
 ·intro h x hx
  obtain ⟨k, hk, rfl⟩ := List.mem_map.1 hx
  show pick 2 (holds b (k : Int)) (holds a (k : Int)) = false
  have := h (k : Int)
  cases hb : holds b (k : Int)
  ·rfl
  ·rw [this hb]; rfl
 ·intro h n hb
  by_cases hn : 0 ≤ n ∧ n ≤ 200
  ·have := h _ (List.mem_map.2 ⟨n.toNat, List.mem_range.2 (show n.toNat < 201 by omega), rfl⟩)
   have e : ((n.toNat : Nat) : Int) = n := by omega
   rw [e, hb] at this
   cases ha : holds a n
   ·rw [ha] at this; cases this
   ·rfl
  ·rw [holds_out hn] at hb; cases hb
instance (a b : List Rg) : Decidable (Covers a b) := decidable_of_iff _ (covers_iff a b).symm
theorem covers_refl (a : List Rg) : Covers a a := fun _ h => h
theorem formR_bd : ∀ (b : List Bool) (k : Nat) (st : Option Nat), k + b.length ≤ 201 → Opens k st → ∀ r ∈ formR k st b, 0 ≤ r.1 ∧ r.1 ≤ r.2 ∧ r.2 ≤ 200
 | [], k, none, _, _, r, hr => by cases hr
 | [], k, some lo, hk, ho, r, hr => by
  have := ho lo rfl
  unfold formR at hr
  rw [List.mem_singleton.1 hr]
  simp only [List.length_nil] at hk
  refine ⟨by simp, by simp; omega, by simp; omega⟩
 | false :: b, k, none, hk, ho, r, hr => formR_bd b (k + 1) none (by simp at hk; omega) (fun lo h => by cases h) r hr
 | true :: b, k, none, hk, ho, r, hr => formR_bd b (k + 1) (some k) (by simp at hk; omega) (fun lo h => by injection h with h; omega) r hr
 | true :: b, k, some lo, hk, ho, r, hr => by
  have := ho lo rfl
  exact formR_bd b (k + 1) (some lo) (by simp at hk; omega) (fun x h => by injection h with h; omega) r hr
 | false :: b, k, some lo, hk, ho, r, hr => by
  have := ho lo rfl
  unfold formR at hr
  simp only [List.length_cons] at hk
  rcases List.mem_cons.1 hr with e | e
  ·rw [e]
   refine ⟨by simp, by simp; omega, by simp; omega⟩
  ·exact formR_bd b (k + 1) none (by omega) (fun x h => by cases h) r e
theorem formR_len : ∀ (b : List Bool) (k : Nat) (st : Option Nat), (formR k st b).length ≤ b.length + 1
 | [], k, none => by simp [formR]
 | [], k, some lo => by simp [formR]
 | false :: b, k, none => by
  have := formR_len b (k + 1) none
  unfold formR
  rw [List.length_cons]; omega
 | true :: b, k, none => by
  have := formR_len b (k + 1) (some k)
  unfold formR
  rw [List.length_cons]; omega
 | true :: b, k, some lo => by
  have := formR_len b (k + 1) (some lo)
  unfold formR
  rw [List.length_cons]; omega
 | false :: b, k, some lo => by
  have := formR_len b (k + 1) none
  unfold formR
  rw [List.length_cons, List.length_cons]; omega
end Go.Proofs.YtpafpegcodempaaGreat.Sz
