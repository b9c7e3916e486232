/- The landed vec: put, Of, Add. -/
import Derived.Test.YtlgaljlbjbfdgaaVecCln
import Derived.Test.YtlgaljlbjbfdgaaVerCck
import Derived.Great.Walk
set_option linter.unusedSimpArgs false
set_option linter.unusedVariables false
namespace Go.Proofs.Ytlgaljlbjbfdgaa
open Go.RowKit Go.Sort

/-- What put makes of a vector. -/
def Vec.putv (v : List Int) (x : Ver.V) : List Int := if Ver.Right x then v.set x.by_.toNat (max ((v[x.by_.toNat]?).getD 0) x.n) else v
set_option maxRecDepth 100000 in
theorem Vec.putv_up {v : List Int} (h : Vec.Plain v) (x : Ver.V) : Vec.putv v x = Vec.up v x := by
  unfold Vec.putv
  by_cases hx : Ver.Right x
  · have hr := hx
    unfold Ver.Right at hr
    rw [if_pos hx, h.2 _ (by omega)]
    exact Vec.up_max h hx (h.2 _ (by omega))
  · rw [if_neg hx, Vec.up_no (fun k => hx k.1)]

set_option maxRecDepth 100000 in
theorem vec_put {a w : World} {b : Nat} {v : List Int} (x : Ver.V) (hx : Ver.Bd x) (h : VRow w b v) (hl : Laid a w) (hb : a.heap.size ≤ b) : Calls Try.prog 27 #[.pointer (some ⟨b, 0, none⟩), verA x] w fun e w' => e = .returned (.tuple #[]) ∧ VRow w' b (Vec.putv v x) ∧ Laid a w' ∧ ∀ c u, c ≠ b → VRow w c u → VRow w' c u := by
  have CH := Lib.hid (fun W => ver_check W x hx)
  have hlt := h.inHeap
  have F := Lib.hid (show ∀ w1, Laid (w.alloc (.cells #[.int .i64 x.by_, .int .i64 x.n] 25)) w1 → w1.cell? ⟨w.heap.size, 0, none⟩ = some (.int .i64 x.by_) ∧ w1.cell? ⟨w.heap.size, 1, none⟩ = some (.int .i64 x.n) ∧ VRow w1 b v ∧ Laid a w1 ∧ (∀ c u, VRow w c u → VRow w1 c u) from fun w1 h1 => by
    have hr := (Row.made w 25 #[.int .i64 x.by_, .int .i64 x.n]).below h1.below (by simp)
    exact ⟨hr.at 0, hr.at 1, (h.alloc _).below h1.below (by simp; omega), (hl.alloc _).trans h1, fun c u hc => (hc.alloc _).below h1.below (by have := hc.inHeap; simp; omega)⟩)
  by_cases hr : Ver.Right x
  · have e : Ver.checkV x = 0 := if_pos hr
    rw [e] at CH
    have ep : Hid (Vec.putv v x = v.set x.by_.toNat (max ((v[x.by_.toNat]?).getD 0) x.n)) := Lib.hid (if_pos hr)
    obtain ⟨k, hk, hk2⟩ : ∃ k : Nat, x.by_ = (k : Int) ∧ 1 ≤ k ∧ k ≤ 64 := by
      unfold Ver.Right at hr
      exact ⟨x.by_.toNat, by omega, by omega⟩
    obtain ⟨n, hn⟩ : ∃ n, v[k]? = some n := ⟨_, List.getElem?_eq_getElem (by rw [h.len]; omega)⟩
    rw [hk, Int.toNat_natCast, hn] at ep
    obtain ⟨x1, x2⟩ := x
    simp only at hk CH F ep
    subst hk
    have Hn := Lib.hid hn
    have HB := Lib.hid hb
    have Hk := Lib.hid hk2
    have hne : ¬ w.heap.size = b := by omega
    clear h hl hb hx hr e hn hk2 hlt
    go_enter Try.func27, Try.ntmps27
    go_wp2_with (go_at_call 25; refine (CH.out _).mono ?_; rintro e w1 ⟨rfl, hL⟩)
    obtain ⟨c0, c1, c2, c3, c4⟩ := F.out _ hL
    have cv := c2.at Hn.out
    have cf := c2.free k
    have had := vec_addr (k := k) (by have := Hk.out; omega) b
    have C2 := Lib.hid c2
    have C3 := Lib.hid c3
    have C4 := Lib.hid c4
    clear c2 c3 c4 hL
    refine wp_region_tail (n := 13) (S := (fun w' : World => w' = w1.drew)) (by kernel_rfl) (by kernel_rfl) (by rfl) rfl (fun hHeld => ?_)
    refine wpAnyH_take (i := 0) (v := ?_) rfl (by kernel_rfl) (by kernel_rfl) (by kernel_rfl) (fun _ _ _ h => h) (Or.inl ⟨by rfl, (by intro w hSw; subst hSw; go_simp; try with_reducible rfl)⟩) (by assumption) ?_
    simp only [Act.put, List.getElem_toArray, List.getElem_cons_zero, List.getElem_cons_succ, List.setIfInBounds_toArray, List.set_cons_zero, List.set_cons_succ]
    refine wpAnyH_take (i := 1) (v := ?_) rfl (by kernel_rfl) (by kernel_rfl) (by kernel_rfl) (fun _ _ _ h => h) (Or.inl ⟨by rfl, (by intro w hSw; subst hSw; go_simp; try with_reducible rfl)⟩) (by assumption) ?_
    simp only [Act.put, List.getElem_toArray, List.getElem_cons_zero, List.getElem_cons_succ, List.setIfInBounds_toArray, List.set_cons_zero, List.set_cons_succ]
    refine wpAnyH_take (i := 2) (v := ?_) rfl (by kernel_rfl) (by kernel_rfl) (by kernel_rfl) (fun _ _ _ h => h) (Or.inl ⟨by rfl, (by intro w hSw; subst hSw; go_simp; try with_reducible rfl)⟩) (by assumption) ?_
    simp only [Act.put, List.getElem_toArray, List.getElem_cons_zero, List.getElem_cons_succ, List.setIfInBounds_toArray, List.set_cons_zero, List.set_cons_succ]
    refine wpAnyH_take (i := 3) (v := ?_) rfl (by kernel_rfl) (by kernel_rfl) (by kernel_rfl) (fun _ _ _ h => h) (Or.inl ⟨by rfl, (by intro w hSw; subst hSw; go_simp; try with_reducible rfl)⟩) (by assumption) ?_
    simp only [Act.put, List.getElem_toArray, List.getElem_cons_zero, List.getElem_cons_succ, List.setIfInBounds_toArray, List.set_cons_zero, List.set_cons_succ]
    refine wpAnyH_take (i := 4) (v := ?_) rfl (by kernel_rfl) (by kernel_rfl) (by kernel_rfl) (fun _ _ _ h => h) (Or.inl ⟨by rfl, (by intro w hSw; subst hSw; go_simp; try with_reducible rfl)⟩) (by assumption) ?_
    simp only [Act.put, List.getElem_toArray, List.getElem_cons_zero, List.getElem_cons_succ, List.setIfInBounds_toArray, List.set_cons_zero, List.set_cons_succ]
    refine wpAnyH_take (i := 5) (v := ?_) rfl (by kernel_rfl) (by kernel_rfl) (by kernel_rfl) (fun _ _ _ h => h) (Or.inl ⟨by rfl, (by intro w hSw; subst hSw; go_simp; try with_reducible rfl)⟩) (by assumption) ?_
    simp only [Act.put, List.getElem_toArray, List.getElem_cons_zero, List.getElem_cons_succ, List.setIfInBounds_toArray, List.set_cons_zero, List.set_cons_succ]
    refine wpAnyH_take (i := 6) (v := ?_) rfl (by kernel_rfl) (by kernel_rfl) (by kernel_rfl) (fun _ _ _ h => h) (Or.inl ⟨by rfl, (by intro w hSw; subst hSw; go_simp; try with_reducible rfl)⟩) (by assumption) ?_
    simp only [Act.put, List.getElem_toArray, List.getElem_cons_zero, List.getElem_cons_succ, List.setIfInBounds_toArray, List.set_cons_zero, List.set_cons_succ]
    refine wpAnyH_take (i := 7) (v := ?_) rfl (by kernel_rfl) (by kernel_rfl) (by kernel_rfl) (fun _ _ _ h => h) (Or.inl ⟨by rfl, (by intro w hSw; subst hSw; go_simp; try with_reducible rfl)⟩) (by assumption) ?_
    simp only [Act.put, List.getElem_toArray, List.getElem_cons_zero, List.getElem_cons_succ, List.setIfInBounds_toArray, List.set_cons_zero, List.set_cons_succ]
    refine wpAnyH_take (i := 8) (v := ?_) rfl (by kernel_rfl) (by kernel_rfl) (by kernel_rfl) (fun _ _ _ h => h) (Or.inl ⟨by rfl, (by intro w hSw; subst hSw; go_simp; try with_reducible rfl)⟩) (by assumption) ?_
    simp only [Act.put, List.getElem_toArray, List.getElem_cons_zero, List.getElem_cons_succ, List.setIfInBounds_toArray, List.set_cons_zero, List.set_cons_succ]
    refine wpAnyH_take (i := 9) (v := ?_) rfl (by kernel_rfl) (by kernel_rfl) (by kernel_rfl) (fun _ _ _ h => h) (Or.inl ⟨by rfl, (by intro w hSw; subst hSw; go_simp; try with_reducible rfl)⟩) (by assumption) ?_
    simp only [Act.put, List.getElem_toArray, List.getElem_cons_zero, List.getElem_cons_succ, List.setIfInBounds_toArray, List.set_cons_zero, List.set_cons_succ]
    refine wpAnyH_take (i := 10) (v := ?_) rfl (by kernel_rfl) (by kernel_rfl) (by kernel_rfl) (fun _ _ _ h => h) (Or.inl ⟨by rfl, (by intro w hSw; subst hSw; go_simp; try with_reducible rfl)⟩) (by assumption) ?_
    simp only [Act.put, List.getElem_toArray, List.getElem_cons_zero, List.getElem_cons_succ, List.setIfInBounds_toArray, List.set_cons_zero, List.set_cons_succ]
    refine wpAnyH_take (i := 11) (v := ?_) rfl (by kernel_rfl) (by kernel_rfl) (by kernel_rfl) (fun _ _ _ h => h) (Or.inl ⟨by rfl, (by intro w hSw; subst hSw; go_simp; try with_reducible rfl)⟩) (by assumption) ?_
    simp only [Act.put, List.getElem_toArray, List.getElem_cons_zero, List.getElem_cons_succ, List.setIfInBounds_toArray, List.set_cons_zero, List.set_cons_succ]
    refine wpAnyH_take (i := 12) (v := ?_) rfl (by kernel_rfl) (by kernel_rfl) (by kernel_rfl) (fun _ _ _ h => h) (Or.inl ⟨by rfl, (by intro w hSw; subst hSw; go_simp; try with_reducible rfl)⟩) (by assumption) ?_
    simp only [Act.put, List.getElem_toArray, List.getElem_cons_zero, List.getElem_cons_succ, List.setIfInBounds_toArray, List.set_cons_zero, List.set_cons_succ]
    refine wpAnyH_done (by kernel_rfl) ?_ _
    refine wpAny_of_held (S := fun _ => True) _ _ _ _ ?_
    have hHeld : True := trivial
    refine wpAnyH_take (i := 13) (v := ?_) rfl (by kernel_rfl) (by kernel_rfl) (by kernel_rfl) (fun _ _ _ h => h) (Or.inl ⟨by rfl, (by intro w hSw; go_simp; try with_reducible rfl)⟩) (by assumption) ?_
    simp only [Act.put, List.getElem_toArray, List.getElem_cons_zero, List.getElem_cons_succ, List.setIfInBounds_toArray, List.set_cons_zero, List.set_cons_succ]
    refine wpAnyH_ready (rs := [14]) (by kernel_rfl) (by simp) ?_
    refine AllReadyH.cons rfl (fun K hK => ?_) AllReadyH.nil
    go_simp
    refine hK.out _ _ trivial (fun hHeld => ?_)
    clear hK K
    refine wpAnyH_done (by kernel_rfl) ?_ _
    have h1 := C2.out.stored k (max n x2)
    exact Go.Great.bodyPost_end0 rfl rfl ⟨rfl, by rw [ep.out]; exact h1, (C3.out.stored HB.out _).drew, fun c u hc hu => (C4.out c u hu).storedElsewhere (fun e => hc e.symm) _⟩
  · have e : Ver.checkV x = 2 := if_neg hr
    rw [e] at CH
    have ep : Hid (Vec.putv v x = v) := Lib.hid (if_neg hr)
    obtain ⟨x1, x2⟩ := x
    simp only at CH F ep
    clear h hl hb hx hr e hlt
    go_enter Try.func27, Try.ntmps27
    go_wp2_with (go_at_call 25; refine (CH.out _).mono ?_; rintro e w1 ⟨rfl, hL⟩; have F1 := Lib.hid (F.out _ hL); clear hL)
    exact Go.Great.bodyPost_end0 rfl rfl ⟨rfl, by rw [ep.out]; exact F1.out.2.2.1, F1.out.2.2.2.1, fun c u _ hu => F1.out.2.2.2.2 c u hu⟩

set_option maxRecDepth 100000 in
set_option maxHeartbeats 1600000 in
theorem vec_of {w : World} {F : Nat → Prop} {s : Value} {l : List Ver.V} (h : Vrs w F s l) (hl : l.length ≤ 1000000) (hb : ∀ x ∈ l, Ver.Bd x) : Calls Try.prog 17 #[s] w fun e w' => e = .returned (vecA (Vec.ofl l)) ∧ Laid w w' := by
  have hz := vecZero
  obtain ⟨A, c, rfl, hc⟩ := h.parts
  have hb1 : VRow ((w.alloc (.cells (vecR Vec.zeros) 23)).alloc (.cells (vecR Vec.zeros) 23)) w.heap.size Vec.zeros := (VRow.made w Vec.zeros_len).alloc _
  have hb2 : VRow ((w.alloc (.cells (vecR Vec.zeros) 23)).alloc (.cells (vecR Vec.zeros) 23)) (w.heap.size + 1) Vec.zeros := by
    have := VRow.made (w.alloc (.cells (vecR Vec.zeros) 23)) (v := Vec.zeros) Vec.zeros_len
    rwa [World.size_alloc] at this
  have HL0 : Hid (Laid w ((w.alloc (.cells (vecR Vec.zeros) 23)).alloc (.cells (vecR Vec.zeros) 23))) := Lib.hid ((Laid.new w _).alloc _)
  have HB1 := Lib.hid hb1
  have HB2 := Lib.hid hb2
  have H := Lib.hid h
  have HBd := Lib.hid hb
  have hl' : (l.length : Int) ≤ 1000000 := by omega
  clear h hb hb1 hb2
  go_enter Try.func17, Try.ntmps17
  go_wp2_with fail
  go_loopw [8] (fun i wr => ∃ k : Nat, k ≤ l.length ∧ i = .int .i64 (k : Int) ∧ VRow wr w.heap.size Vec.zeros ∧ VRow wr (w.heap.size + 1) (Vec.ofl (l.take k)) ∧ Laid w wr) (fun i _ => l.length - (intOf i).toNat)
  case atStart => exact ⟨0, Nat.zero_le _, rfl, HB1.out, by rw [List.take_zero]; exact HB2.out, HL0.out⟩
  case round =>
    obtain ⟨k, hk, rfl, h1, h2, h3⟩ := hrel
    by_cases hlt : k < l.length
    · obtain ⟨b, o, cap, e, -, -, hb⟩ := H.out.block (by omega)
      injection e with e1 e2 e3
      subst e1 e3
      clear e2
      obtain ⟨x, hx⟩ : ∃ x, l[k]? = some x := ⟨_, List.getElem?_eq_getElem hlt⟩
      obtain ⟨c0, c1⟩ := Vrs.at (H.out.below h3.below) hx
      have hk0 : (0 : Int) ≤ (k : Int) := by omega
      have hk1 : (k : Int) < (l.length : Int) := by omega
      have e : Hid (Vec.putv (Vec.ofl (l.take k)) x = Vec.ofl (l.take (k + 1))) := Lib.hid (by rw [Vec.putv_up (Vec.ofl_plain _), Vec.ofl_take l k x hx])
      have hxb := HBd.out x (List.mem_of_getElem? hx)
      have PU := Lib.hid (vec_put (a := w) x hxb (h2.alloc (.cells #[.int .i64 x.by_, .int .i64 x.n] 25)) (h3.alloc _) (Nat.le_succ _))
      have K1 := Lib.hid (fun W' (hb : Laid w W') => hb)
      have H1 := Lib.hid (h1.alloc (.cells #[.int .i64 x.by_, .int .i64 x.n] 25))
      obtain ⟨x1, x2⟩ := x
      simp only at c0 c1 PU H1
      clear h1 h2 h3 hx hxb
      go_wp2_with fail
      refine PU.out.mono ?_
      rintro e w1 ⟨rfl, h4, h5, h6⟩
      have H4 : Hid (VRow w1 (w.heap.size + 1) (Vec.ofl (l.take (k + 1)))) := Lib.hid (by rw [← e.out]; exact h4)
      have H5 := Lib.hid h5
      have H6 : Hid (VRow w1 w.heap.size Vec.zeros) := Lib.hid (h6 _ _ (by omega) H1.out)
      clear h4 h5 h6
      go_wp2_with fail
      exact ⟨⟨k + 1, by omega, rfl, H6.out, H4.out, H5.out⟩, by show l.length - ((k : Int) + 1).toNat < l.length - (k : Int).toNat; omega⟩
    · obtain rfl : k = l.length := by omega
      rw [List.take_length] at h2
      have H1 := Lib.hid h1
      have H2 := Lib.hid h2
      have H3 := Lib.hid h3
      have Hc : Hid ((Vec.ofl l).length = 65) := Lib.hid (Vec.ofl_plain l).1
      clear h1 h2 h3
      go_wp2_with (first | refine wpList_vload (by rfl) _ (by rfl) (by rfl) H2.out ?_ | refine wpList_vstore (by rfl) _ _ (by rfl) (by rfl) (by rfl) H1.out Hc.out ?_)
      exact bodyPost_ret (v := vecA (Vec.ofl l)) (results_cell_row (by rfl) _ _ w.heap.size 23 _ (0, 0) _ (by rfl) (H1.out.set _ Hc.out).row Try.underlying23 rfl (vecSize Hc.out)) rfl ⟨rfl, H3.out.set (Nat.le_refl _) _⟩

set_option maxRecDepth 100000 in
set_option maxHeartbeats 1600000 in
theorem vec_add (w : World) {v : List Int} (x : Ver.V) (hv : v.length = 65) (hx : Ver.Bd x) : Calls Try.prog 18 #[vecA v, verA x] w fun e w' => e = .returned (vecA (Vec.add v x)) ∧ Laid w w' := by
  have hz := vecZero
  have CL := Lib.hid (fun W => vec_clean W hv)
  have start : ∃ W, W = ((w.alloc (.cells (vecR v) 23)).alloc (.cells #[.int .i64 x.by_, .int .i64 x.n] 25)).alloc (.cells (vecR Vec.zeros) 23) ∧ VRow W w.heap.size v ∧ Row W (w.heap.size + 1) 25 #[.int .i64 x.by_, .int .i64 x.n] ∧ VRow W (w.heap.size + 1 + 1) Vec.zeros ∧ Laid w W := by
    refine ⟨_, rfl, ((VRow.made w hv).alloc _).alloc _, ?_, ?_, ((Laid.new w _).alloc _).alloc _⟩
    · have := (Row.made (w.alloc (.cells (vecR v) 23)) 25 #[.int .i64 x.by_, .int .i64 x.n]).behindNew (.cells (vecR Vec.zeros) 23)
      rwa [World.size_alloc] at this
    · have := VRow.made ((w.alloc (.cells (vecR v) 23)).alloc (.cells #[.int .i64 x.by_, .int .i64 x.n] 25)) (v := Vec.zeros) Vec.zeros_len
      rwa [World.size_alloc, World.size_alloc] at this
  obtain ⟨W, hW, r0, r1, r2, hL⟩ := start
  have Hx := Lib.hid hx
  have Hc : Hid ((Vec.clean v).length = 65) := Lib.hid (Vec.clean_len v)
  have HW := Lib.hid hW
  have R0 := Lib.hid r0
  have R1 := Lib.hid r1
  have R2 := Lib.hid r2
  have HL := Lib.hid hL
  have hA : Vec.putv (Vec.clean v) x = Vec.add v x := Vec.putv_up (Vec.clean_plain v) x
  have HA := Lib.hid hA
  have Ha : Hid ((Vec.add v x).length = 65) := Lib.hid (Vec.add_plain v x).1
  obtain ⟨x1, x2⟩ := x
  simp only at hW R1
  clear hx hv r0 r1 r2 hL hA
  go_enter Try.func18, Try.ntmps18
  go_wp2_with (refine wpList_vload (by rfl) _ (by rfl) (by rfl) (HW.out ▸ R0.out) ?_)
  rw [← hW]
  refine (CL.out _).mono ?_
  rintro e w1 ⟨rfl, h1⟩
  have S0 := Lib.hid (R0.out.below h1.below R0.out.inHeap)
  have S1 := (R1.out.below h1.below R1.out.inHeap)
  have S2 := (R2.out.below h1.below R2.out.inHeap)
  have T0 := S0.out.set (Vec.clean v) Hc.out
  have T1 := row_setElsewhere S1 (c := w.heap.size) (by omega) (vecR (Vec.clean v))
  have c0 := T1.at 0
  have c1 := T1.at 1
  simp only [List.getElem?_toArray, List.getElem?_cons_zero, List.getElem?_cons_succ] at c0 c1
  have T2 := S2.setElsewhere (c := w.heap.size) (by omega) (vecR (Vec.clean v))
  have TL := (HL.out.trans h1).set (Nat.le_refl _) (vecR (Vec.clean v))
  have PU := Lib.hid (vec_put (a := w) _ Hx.out T0 TL (Nat.le_refl _))
  have T2 := Lib.hid T2
  clear S1 S2 T0 T1 TL h1 hW
  go_wp2_with (refine wpList_vstore (by rfl) _ _ (by rfl) (by rfl) (by rfl) S0.out Hc.out ?_)
  refine PU.out.mono ?_
  rintro e w2 ⟨rfl, h4, h5, h6⟩
  rw [HA.out] at h4
  have H4 := Lib.hid h4
  have H5 := Lib.hid h5
  have H6 := Lib.hid (h6 _ _ (by omega) T2.out)
  clear h4 h5 h6 c0 c1
  go_wp2_with (first | refine wpList_vload (by rfl) _ (by rfl) (by rfl) H4.out ?_ | refine wpList_vstore (by rfl) _ _ (by rfl) (by rfl) (by rfl) H6.out Ha.out ?_)
  exact bodyPost_ret (v := vecA (Vec.add v ⟨x1, x2⟩)) (results_cell_row (by rfl) _ _ (w.heap.size + 1 + 1) 23 _ (0, 0) _ (by rfl) (H6.out.set _ Ha.out).row Try.underlying23 rfl (vecSize Ha.out)) rfl ⟨rfl, H5.out.set (by omega) _⟩
end Go.Proofs.Ytlgaljlbjbfdgaa
