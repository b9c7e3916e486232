import Derived.Test.YtgpeobmaneponaaCom8
import Derived.Test.YtgpeobmaneponaaCom4
import Derived.Test.YtgpeobmaneponaaCom9
import Derived.Test.YtgpeobmaneponaaCom13
import Derived.Test.YtgpeobmaneponaaCom1
import Derived.Test.YtgpeobmaneponaaCom2
import Derived.Lib.Bytealg
import Derived.Lib.Join
import Derived.Lib.LastIndexByte
import Derived.Lib.Strings
import Derived.Lib.OthersKept
import Derived.WalkMore
set_option maxRecDepth 100000
set_option linter.unusedVariables false
set_option linter.unusedSimpArgs false
set_option maxHeartbeats 12800000
namespace Go.Proofs.Ytgpeobmaneponaa
open List renaming getElem_toArray → xz1, getElem_cons_zero → xz2, getElem_cons_succ → xz3, setIfInBounds_toArray → xz4, set_cons_zero → xz5, set_cons_succ → xz6
open Go.RowKit Go.Sort
theorem upd_best (V : VersOk) {w : World} {F : Nat → Prop} {v : Value} {l : List Upd.U} (item : Ver.V) (h : Ups w F v l) (hl : l.length ≤ 100000) (hb : ∀ u ∈ l, Upd.Bd u) (hx : Ver.Bd item) :
  Calls Try.prog 20 #[v, verA item] w fun e w' => e = .returned (.tuple #[upA ((Upd.best l item).getD Upd.zeroU), .bool (Upd.best l item).isSome]) ∧ Below w.heap.size w w' := by
 have mixed : Try.prog.follows .mixedOrders = true := by kernel_rfl
 obtain ⟨i0, hi0, hz0, hz1, hz2⟩ := ver_parts upInfo
 obtain ⟨A, cap, rfl, -⟩ := h.parts
 obtain ⟨W0, hW0⟩ : ∃ W0, W0 = (w.alloc (.cells #[.int .i64 item.by_, .int .i64 item.n] 23)).alloc (.cells #[.int .i64 0, .int .i64 0, .int .i64 0, .int .i64 0, .int .i64 0, .string ⟨#[]⟩, .string ⟨#[]⟩, .bool false] 27) := ⟨_, rfl⟩
 have hb0 : Below w.heap.size w W0 := by rw [hW0]; exact ((Below.refl _ _).alloc (Nat.le_refl _) _).alloc (by simp) _
 have r0 : Row W0 w.heap.size 23 #[.int .i64 item.by_, .int .i64 item.n] := by rw [hW0]; exact (Row.made w _ _).behindNew _
 have r1 : Row W0 (w.heap.size + 1) 27 #[.int .i64 0, .int .i64 0, .int .i64 0, .int .i64 0, .int .i64 0, .string ⟨#[]⟩, .string ⟨#[]⟩, .bool false] := by
  rw [hW0]
  have := Row.made (w.alloc (.cells #[.int .i64 item.by_, .int .i64 item.n] 23)) 27 #[.int .i64 0, .int .i64 0, .int .i64 0, .int .i64 0, .int .i64 0, .string ⟨#[]⟩, .string ⟨#[]⟩, .bool false]
  rwa [World.size_alloc] at this
 have CA := Lib.hid (fun (W : World) (cb bm : Nat) (h0 : W.cell? ⟨cb, 0, none⟩ = some (.map (some bm))) (h1 : cb < W.heap.size) (h2 : VmAt W bm (Upd.bestFn (l.filter fun u => decide (u.item = item)))) => cho_asks h0 h1 h2 item hx)
 rw [Upd.best_own] at CA
 have CH := Lib.hid (fun (W : World) (v : Value) (h : RowsOwn 27 8 upV W0 (l.filter fun u => decide (u.item = item)) v W) => upd_chooser V (h.rows (fun _ _ => rfl)) (Nat.le_trans (List.length_filter_le _ _) hl) (fun u hu => hb u (List.mem_filter.1 hu).1))
 generalize (Upd.best l item).getD Upd.zeroU = u at *
 generalize (Upd.best l item).isSome = is at *
 obtain ⟨⟨i1, i2⟩, ⟨t, ⟨v1, v2⟩⟩, p, d, dd⟩ := u
 obtain ⟨x1, x2⟩ := item
 dsimp only [upA, verA] at *
 generalize mk p = y1 at *
 generalize mk d = y2 at *
 have H := Lib.hid (fun (W : World) (h : Below W0.heap.size W0 W) => Rws.below (Rws.below ‹Ups w F _ l› hb0) h)
 have HB0 := Lib.hid hb0
 have R1 := Lib.hid (fun (W : World) (h : Below W0.heap.size W0 W) => r1.below h r1.inHeap)
 have XC := Lib.hid (fun (W : World) (h : Below W0.heap.size W0 W) => (⟨(r0.below h r0.inHeap).at 0, (r0.below h r0.inHeap).at 1⟩ : W.cell? ⟨w.heap.size, 0, none⟩ = some (.int .i64 x1) ∧ W.cell? ⟨w.heap.size, 1, none⟩ = some (.int .i64 x2)))
 have HS := Lib.hid r0.inHeap
 have HS1 := Lib.hid r1.inHeap
 have Hsz : Hid ((Try.prog.info? 27).map (·.size) = some 8) := Lib.hid (by kernel_rfl)
 have hl' : (l.length : Int) ≤ 100000 := by omega
 have HL := Lib.hid hl
 clear h hb hx hb0 r0 r1 hl
 go_enter Try.func20, Try.ntmps20
 go_wp2_with fail
 rw [← hW0]
 clear hW0
 go_loopw [6, 11] (fun out i wr => ∃ k : Nat, k ≤ l.length ∧ i = .int .i64 (k : Int) ∧ Hid (RowsOwn 27 8 upV W0 ((l.take k).filter fun u => decide (u.item = (⟨x1, x2⟩ : Ver.V))) out wr)) (fun _ i _ => l.length - (intOf i).toNat)
 case atStart => exact ⟨0, Nat.zero_le _, rfl, Lib.hid (RowsOwn.start _ _ _ W0)⟩
 case round =>
  obtain ⟨k, hk, rfl, hO⟩ := hrel
  by_cases hlt : k < l.length
  ·obtain ⟨x, hx⟩ : ∃ x, l[k]? = some x := ⟨_, List.getElem?_eq_getElem hlt⟩
   have hUp := H.out wr hO.out.2
   obtain ⟨b, o, rfl⟩ : ∃ b o, A = some ⟨b, o, none⟩ := by
    obtain ⟨b, o, c, e, -⟩ := hUp.block (by omega)
    injection e with e1
    exact ⟨b, o, e1⟩
   have LE := Lib.hid (up_lies (range_rws hUp hx) (up_len x))
   have hft := Upd.filter_take (fun u : Upd.U => decide (u.item = (⟨x1, x2⟩ : Ver.V))) l k x hx
   have hEq := fun W => ver_eql W x.item ⟨x1, x2⟩
   have hA : Below wr.heap.size wr (wr.alloc (.cells (upV x).toArray 27)) := (Below.refl _ _).alloc (Nat.le_refl _) _
   have OA := Lib.hid (hO.out.below hA)
   obtain ⟨c0, c1⟩ := XC.out _ OA.out.2
   have hk0 : (0 : Int) ≤ (k : Int) := by omega
   have hk1 : (k : Int) < (l.length : Int) := by omega
   have hlen : Hid (((l.take k).filter fun u => decide (u.item = (⟨x1, x2⟩ : Ver.V))).length ≤ k) := Lib.hid (Nat.le_trans (List.length_filter_le _ _) (by rw [List.length_take]; omega))
   generalize hq : decide (x.item = (⟨x1, x2⟩ : Ver.V)) = q at hft hEq
   have HE := Lib.hid hEq
   have HX := Lib.hid hx
   obtain ⟨⟨j1, j2⟩, ⟨s, ⟨u1, u2⟩⟩, px, dx, ddx⟩ := x
   dsimp only [upA, verA, upV] at *
   have hmade := fun W => rows_made (f := upV) (k := 8) W 27 (⟨⟨j1, j2⟩, ⟨s, ⟨u1, u2⟩⟩, px, dx, ddx⟩ : Upd.U)
   have HM := Lib.hid hmade
   have HO2 := Lib.hid (fun (v2 : Value) (w2 : World) (o : Obj) (h1 : w2.ownsRow W0.heap.size 27 8 v2 (((l.take k).filter fun u => decide (u.item = (⟨x1, x2⟩ : Ver.V))).length + 1) (((l.take k).filter fun u => decide (u.item = (⟨x1, x2⟩ : Ver.V))).flatMap upV ++ upV (⟨⟨j1, j2⟩, ⟨s, ⟨u1, u2⟩⟩, px, dx, ddx⟩ : Upd.U))) (h2 : _) => OA.out.more (x := (⟨⟨j1, j2⟩, ⟨s, ⟨u1, u2⟩⟩, px, dx, ddx⟩ : Upd.U)) (o := o) (v' := v2) (w2 := w2) h1 h2)
   dsimp only [upV] at HM
   generalize mk px = z1 at *
   generalize mk dx = z2 at *
   clear hx hUp hA hEq hq hmade
   cases q with
   | false =>
    have e : ((l.take k).filter fun u => decide (u.item = (⟨x1, x2⟩ : Ver.V))) = ((l.take (k + 1)).filter fun u => decide (u.item = (⟨x1, x2⟩ : Ver.V))) := by rw [hft, if_neg (by decide), List.append_nil]
    have ON := OA.out
    rw [e] at ON
    replace ON := Lib.hid ON
    clear e
    clear hft hO HM HO2
    go_wp2_with (first | refine wpList_mload (by rfl) _ (by rfl) (by rfl) LE.out ?_ | refine wpList_bin (by rfl) .eql _ _ _ _ (by rfl) (by rfl) (by rfl) verGuard (HE.out _) ?_)
    exact ⟨⟨k + 1, by omega, by go_num, ON⟩, by show l.length - ((k : Int) + 1).toNat < l.length - (k : Int).toNat; omega⟩
   | true =>
    have e : ((l.take (k + 1)).filter fun u => decide (u.item = (⟨x1, x2⟩ : Ver.V))) = ((l.take k).filter fun u => decide (u.item = (⟨x1, x2⟩ : Ver.V))) ++ [⟨⟨j1, j2⟩, ⟨s, ⟨u1, u2⟩⟩, px, dx, ddx⟩] := by rw [hft, if_pos rfl]
    have He := Lib.hid e
    have hown3 := OA.out.1.alloc (.cells #[.int .i64 j1, .int .i64 j2, .int .i64 u1, .int .i64 u2, .int .i64 s, .string z1, .string z2, .bool ddx] 27)
    have hmade := HM.out (wr.alloc (.cells #[.int .i64 j1, .int .i64 j2, .int .i64 u1, .int .i64 u2, .int .i64 s, .string z1, .string z2, .bool ddx] 27))
    rw [World.size_alloc] at hmade
    have hsz3 : W0.heap.size ≤ ((wr.alloc (.cells #[.int .i64 j1, .int .i64 j2, .int .i64 u1, .int .i64 u2, .int .i64 s, .string z1, .string z2, .bool ddx] 27)).alloc (.cells #[.int .i64 j1, .int .i64 j2, .int .i64 u1, .int .i64 u2, .int .i64 s, .string z1, .string z2, .bool ddx] 27)).heap.size := by have := OA.out.2.size; simp at this ⊢; omega
    clear hft hO e
    generalize ((l.take k).filter fun u => decide (u.item = (⟨x1, x2⟩ : Ver.V))) = own at *
    go_wp2_with (first | refine wpList_mload (by rfl) _ (by rfl) (by rfl) LE.out ?_ | refine wpList_bin (by rfl) .eql _ _ _ _ (by rfl) (by rfl) (by rfl) verGuard (HE.out _) ?_ | (at_builtin; go_loud (refine wp_joins (f := upV) (k := 8) rfl _ _ 44 rfl (W0.heap.size) 27 i0 (upA Upd.zeroU) 80 Try.underlying44 hi0 hz0 hz1 hz2 rfl (by decide) rfl rfl hown3 hmade (fun _ _ => rfl) (fun x _ => up_one x) ?c3 ?c4 hsz3 ?_)))
    case c3 => have := hlen.out; have := HL.out; unfold maxLen; first | omega | (simp <;> omega)
    case c4 => have := hlen.out; have := HL.out; first | omega | (simp <;> omega)
    intro v3 w3 h1 h2 _
    have hnew := HO2.out v3 w3 _ (by simpa using h1) h2
    rw [← He.out] at hnew
    replace hnew := Lib.hid hnew
    clear h1 h2 hown3 hmade
    go_wp2_with fail
    exact ⟨⟨k + 1, by omega, by go_num, hnew⟩, by show l.length - ((k : Int) + 1).toNat < l.length - (k : Int).toNat; omega⟩
  ·obtain rfl : k = l.length := by omega
   have hO' := hO.out
   rw [List.take_length] at hO'
   have OW := Lib.hid hO'
   have HC2 := Lib.hid (CH.out wr.drew _ (hO'.below ((Below.refl _ _).drew)))
   obtain ⟨A2, cap2, eA, -⟩ := (hO'.rows (fun _ _ => rfl)).parts
   rw [eA] at HC2
   rw [eA]
   have HOb : Hid (Below W0.heap.size W0 wr) := Lib.hid hO.out.2
   clear hO hO' OW CH eA H
   generalize (l.filter fun u => decide (u.item = (⟨x1, x2⟩ : Ver.V))).length = m2 at *
   go_wp2_with fail
   refine wp_region_tail (n := 4) (S := (fun w' : World => Below W0.heap.size W0 w')) (by kernel_rfl) (by kernel_rfl) (by rfl) (HOb.out.drew) (fun hHeld => ?_)
   refine wpAnyH_td (i := 0) rfl ?_
   simp only [Act.put, xz1, xz2, xz3, xz4, xz5, xz6]
   refine wpAnyH_tk (i := 2) (v := ?_) rfl (Or.inl ⟨by rfl, (by intro w hSw; obtain ⟨c0, c1⟩ := XC.out _ hSw; go_simp; try with_reducible rfl)⟩) (by assumption) ?_
   simp only [Act.put, xz1, xz2, xz3, xz4, xz5, xz6]
   refine wpAnyH_ready (rs := [1]) (by kernel_rfl) (by simp) ?_
   refine AllReadyH.cons rfl (fun K hK => ?_) AllReadyH.nil
   go_simp
   go_at_call 37
   refine (HC2.out).mono ?_
   rintro e wc ⟨fv, rfl, ⟨cb, bm, rfl, hcb, hc0, hVm⟩, hbN⟩
   have HC3 := Lib.hid (CA.out wc cb bm hc0 hcb hVm)
   have hhN := hHeld.trans (hbN.mono hHeld.size)
   clear hcb hc0 hVm hbN
   refine hK.out _ _ hhN (fun hHeld => ?_)
   clear hhN
   clear hK K
   refine wpAnyH_ready (rs := [3]) (by kernel_rfl) (by simp) ?_
   refine AllReadyH.cons rfl (fun K hK => ?_) AllReadyH.nil
   go_simp
   go_at_call 53
   refine (HC3.out).mono ?_
   rintro e wd ⟨rfl, hbN⟩
   have hhN := hHeld.trans (hbN.mono hHeld.size)
   have Bd := Lib.hid hhN
   clear hbN
   refine hK.out _ _ hhN (fun hHeld => ?_)
   clear hhN
   clear hK K
   refine wpAnyH_done (by kernel_rfl) ?_ _
   refine wpAny_of_held (S := fun _ => True) _ _ _ _ ?_
   have hHeld : True := trivial
   refine wpAnyH_td (i := 4) rfl ?_
   simp only [Act.put, xz1, xz2, xz3, xz4, xz5, xz6]
   refine wpAnyH_td (i := 5) rfl ?_
   simp only [Act.put, xz1, xz2, xz3, xz4, xz5, xz6]
   refine wpAnyH_ready (rs := [6]) (by kernel_rfl) (by simp) ?_
   refine AllReadyH.cons rfl (fun K hK => ?_) AllReadyH.nil
   refine step_rstore (cs := [.int .i64 i1, .int .i64 i2, .int .i64 v1, .int .i64 v2, .int .i64 t, .string y1, .string y2, .bool dd]) (.tmp 4) (.tmp 28) rfl (by rfl) (by rfl) (by rfl) (R1.out _ Bd.out) Hsz.out rfl (by simp [Value.oneCell']) ?_
   rintro w3 hr3 hk3
   have R3 := Lib.hid hr3
   have B3 := Lib.hid ((HB0.out.trans (Bd.out.mono HB0.out.size)).trans (hk3.below (Nat.le_trans HB0.out.size Bd.out.size) (fun i e => by omega)))
   clear hr3 hk3
   refine hK.out _ _ trivial (fun hHeld => ?_)
   clear hK K
   refine wpAnyH_td (i := 7) rfl ?_
   simp only [Act.put, xz1, xz2, xz3, xz4, xz5, xz6]
   refine wpAnyH_done (by kernel_rfl) ?_ _
   go_wp2_with fail
   refine bodyPost_ret (v := .tuple #[.agg #[.int .i64 i1, .int .i64 i2, .int .i64 v1, .int .i64 v2, .int .i64 t, .string y1, .string y2, .bool dd], .bool is]) ?_ rfl ⟨rfl, B3.out⟩
   rw [results_cell_tmp (by rfl)]
   have hl := run_loadVar_row (P := Try.prog) _ (w.heap.size + 1) 27 27 _ (0, 0) _ R3.out Try.underlying27 rfl Hsz.out
   simp [asAddr, hl, Result.andThen]
end Go.Proofs.Ytgpeobmaneponaa
namespace Go.Proofs.Ytgpeobmaneponaa
open Go.RowKit Go.Sort
theorem Chosen.below {w w' : World} {fv : Value} {l : List Upd.U} (h : Chosen w fv l) (k : Below w.heap.size w w') : Chosen w' fv l := by
 obtain ⟨cb, bm, e, h1, h2, h3⟩ := h
 exact ⟨cb, bm, e, Nat.lt_of_lt_of_le h1 k.size, (k.cell (p := ⟨cb, 0, none⟩) h1).trans h2, h3.below k⟩
theorem upd_view (V : VersOk) (Z : FilterOk) {w : World} {F G : Nat → Prop} {v fv : Value} {l : List Upd.U} {f : List Flt.Cl} (h : Ups w F v l) (hf : Cls w G fv f) (hl : l.length ≤ 100000) (hb : ∀ u ∈ l, Upd.Bd u) (lf : f.length ≤ 100000) (bf : ∀ c ∈ f, Flt.Bd c) :
  Calls Try.prog 23 #[v, fv] w fun e w' => ∃ v', e = .returned v' ∧ Ups w' (NewIn w w') v' (Upd.view l (Upd.hit f)) ∧ Below w.heap.size w w' := by
 obtain ⟨i0, hi0, hz0, hz1, hz2⟩ := ver_parts upInfo
 obtain ⟨A, cap, rfl, -⟩ := h.parts
 obtain ⟨A1, cap1, rfl, -⟩ := hf.parts
 have CH := Lib.hid (upd_chooser V h hl hb)
 have H := Lib.hid (fun (W : World) (hW : Below w.heap.size w W) => Rws.below h hW)
 have MA := Lib.hid (fun (u : Upd.U) (hu : u ∈ l) (W : World) (hW : Below w.heap.size w W) => upd_hit Z u (Rws.below hf hW) lf bf (hb u hu))
 have Hbd := Lib.hid hb
 have HL := Lib.hid hl
 have hl' : (l.length : Int) ≤ 100000 := by omega
 generalize hP : Upd.hit f = P at *
 generalize f.length = fl at *
 clear h hf hb bf lf hP hl
 go_enter Try.func23, Try.ntmps23
 go_wp2_with fail
 refine (CH.out).mono ?_
 rintro e w0 ⟨cv, rfl, hC0, hb0⟩
 have C0 := Lib.hid (fun (W : World) (hW : Below w0.heap.size w0 W) => hC0.below hW)
 obtain ⟨cb, bm, rfl, -⟩ := hC0
 have HB0 := Lib.hid hb0
 clear hb0 CH
 go_wp2_with fail
 go_loopw [6, 15] (fun out i wr => ∃ k : Nat, k ≤ l.length ∧ i = .int .i64 (k : Int) ∧ Hid (RowsOwn 27 8 upV w0 ((l.take k).filter (Upd.keepB l P)) out wr)) (fun _ i _ => l.length - (intOf i).toNat)
 case atStart => exact ⟨0, Nat.zero_le _, rfl, Lib.hid (RowsOwn.start _ _ _ w0)⟩
 case round =>
  obtain ⟨k, hk, rfl, hO⟩ := hrel
  by_cases hlt : k < l.length
  ·obtain ⟨x, hx⟩ : ∃ x, l[k]? = some x := ⟨_, List.getElem?_eq_getElem hlt⟩
   have hxm : x ∈ l := List.mem_of_getElem? hx
   have hUp := H.out wr (HB0.out.trans (hO.out.2.mono HB0.out.size))
   obtain ⟨b, o, rfl⟩ : ∃ b o, A = some ⟨b, o, none⟩ := by
    obtain ⟨b, o, c, e, -⟩ := hUp.block (by omega)
    injection e with e1
    exact ⟨b, o, e1⟩
   have LE := Lib.hid (up_lies (range_rws hUp hx) (up_len x))
   have hft := Upd.filter_take (Upd.keepB l P) l k x hx
   obtain ⟨y, hy⟩ : ∃ y, Upd.best l x.item = some y := by
    cases hb : Upd.best l x.item with
    | none => exact absurd rfl ((Upd.best_is _ l x.item rfl).2 hb x hxm)
    | some y => exact ⟨y, rfl⟩
   have hkeep : Upd.keepB l P x = (decide (x = y) && P x) := by
    have e1 : (Upd.best l x.item = some x) ↔ x = y := by
     rw [hy]
     exact ⟨fun h => (Option.some.inj h).symm, fun h => by rw [h]⟩
    unfold Upd.keepB
    rw [decide_eq_decide.2 e1]
   rw [hkeep] at hft
   have hA : Below wr.heap.size wr (wr.alloc (.cells (upV x).toArray 27)) := (Below.refl _ _).alloc (Nat.le_refl _) _
   have OA := hO.out.below hA
   have CQ := Lib.hid (by
    obtain ⟨cb', bm', e, c1, c2, c3⟩ := C0.out _ OA.2
    have e := (Value.func.inj e).2.2
    have e := congrArg Array.toList e
    injection e with e _
    injection e with e
    injection e with e
    injection e with e _ _
    subst e
    have := cho_asks c2 c1 c3 x.item (Hbd.out x hxm).item
    rw [hy] at this
    exact this : Calls Try.prog 53 #[verA x.item, .pointer (some ⟨cb, 0, none⟩)] (wr.alloc (.cells (upV x).toArray 27)) fun e w' => e = .returned (.tuple #[upA ((some y).getD Upd.zeroU), .bool (some y).isSome]) ∧ Below (wr.alloc (.cells (upV x).toArray 27)).heap.size (wr.alloc (.cells (upV x).toArray 27)) w')
   have hk0 : (0 : Int) ≤ (k : Int) := by omega
   have hk1 : (k : Int) < (l.length : Int) := by omega
   have hlen : Hid (((l.take k).filter (Upd.keepB l P)).length ≤ k) := Lib.hid (Nat.le_trans (List.length_filter_le _ _) (by rw [List.length_take]; omega))
   have EQ := Lib.hid (fun W => up_eql W x y)
   have MX := Lib.hid (fun (W : World) (hW : Below w.heap.size w W) => MA.out x hxm W hW)
   have HM := Lib.hid (fun W => rows_made (f := upV) (k := 8) W 27 x)
   have HO2 := Lib.hid (fun (v2 : Value) (w1 w2 : World) (o : Obj) (out : Value) (hO : RowsOwn 27 8 upV w0 ((l.take k).filter (Upd.keepB l P)) out w1) (h1 : w2.ownsRow w0.heap.size 27 8 v2 (((l.take k).filter (Upd.keepB l P)).length + 1) (((l.take k).filter (Upd.keepB l P)).flatMap upV ++ upV x)) (h2 : (w1.alloc o).grownBy w2 out.ownBlock) => hO.more (x := x) (o := o) (v' := v2) h1 h2)
   generalize hq : decide (x = y) = q at hft EQ
   generalize hp : P x = p at hft MX
   have OAh := Lib.hid OA
   have HBr := Lib.hid (HB0.out.trans (OA.2.mono HB0.out.size))
   have RX := Lib.hid (Row.made wr 27 (upV x).toArray)
   obtain ⟨⟨i1, i2⟩, ⟨t, ⟨v1, v2⟩⟩, px, dx, dd⟩ := x
   obtain ⟨⟨j1, j2⟩, ⟨s, ⟨u1, u2⟩⟩, py, dy, d2⟩ := y
   have Hft := Lib.hid hft
   have HM2 := HM
   dsimp only [upV] at HM LE RX OAh HBr CQ
   dsimp only [upA, verA, Option.getD, Option.isSome] at CQ EQ MX
   generalize mk px = y1 at *
   generalize mk dx = y2 at *
   generalize mk py = z1 at *
   generalize mk dy = z2 at *
   have hne : Hid (wr.heap.size < (wr.alloc (.cells #[.int .i64 i1, .int .i64 i2, .int .i64 v1, .int .i64 v2, .int .i64 t, .string y1, .string y2, .bool dd] 27)).heap.size) := Lib.hid (by simp)
   clear hx hxm hUp hy hkeep hft hA OA hq hp hO HM2
   go_wp2_with (refine wpList_mload (by rfl) _ (by rfl) (by rfl) LE.out ?_)
   refine (CQ.out).mono ?_
   rintro e w2 ⟨rfl, h2⟩
   have hA2 : Below w2.heap.size w2 (w2.alloc (.cells #[.int .i64 j1, .int .i64 j2, .int .i64 u1, .int .i64 u2, .int .i64 s, .string z1, .string z2, .bool d2] 27)) := (Below.refl _ _).alloc (Nat.le_refl _) _
   have R2 := RX.out.below h2 RX.out.inHeap
   have LU := Lib.hid (up_lies_row (cs := [.int .i64 i1, .int .i64 i2, .int .i64 v1, .int .i64 v2, .int .i64 t, .string y1, .string y2, .bool dd]) (R2.below hA2 R2.inHeap) rfl)
   have O3 := Lib.hid ((OAh.out.below h2).below hA2)
   have B3 := Lib.hid ((HBr.out.trans (h2.mono HBr.out.size)).trans (hA2.mono (Nat.le_trans HBr.out.size h2.size)))
   have R3 := Lib.hid (R2.below hA2 R2.inHeap)
   have MX2 := Lib.hid (MX.out _ B3.out)
   clear h2 hA2 R2 CQ
   cases q with
   | false =>
    have e : (l.take k).filter (Upd.keepB l P) = (l.take (k + 1)).filter (Upd.keepB l P) := by rw [Hft.out, Bool.false_and, if_neg (by decide), List.append_nil]
    have ON := O3.out
    rw [e] at ON
    replace ON := Lib.hid ON
    clear e Hft HO2 HM
    go_wp2_with (first | refine wpList_mload (by rfl) _ (by rfl) (by rfl) LU.out ?_ | refine wpList_bin (by rfl) .eql _ _ _ _ (by rfl) (by rfl) (by rfl) upGuard (EQ.out _) ?_)
    exact ⟨⟨k + 1, by omega, by go_num, ON⟩, by show l.length - ((k : Int) + 1).toNat < l.length - (k : Int).toNat; omega⟩
   | true =>
    cases p with
    | false =>
     have e : (l.take k).filter (Upd.keepB l P) = (l.take (k + 1)).filter (Upd.keepB l P) := by rw [Hft.out, Bool.true_and, if_neg (by decide), List.append_nil]
     have He := Lib.hid e
     clear e Hft HO2 HM
     go_wp2_with (first | refine wpList_mload (by rfl) _ (by rfl) (by rfl) LU.out ?_ | refine wpList_bin (by rfl) .eql _ _ _ _ (by rfl) (by rfl) (by rfl) upGuard (EQ.out _) ?_)
     refine (MX2.out).mono ?_
     rintro e w4 ⟨rfl, h4⟩
     have ON := O3.out.below h4
     rw [He.out] at ON
     replace ON := Lib.hid ON
     clear h4 MX2
     go_wp2_with fail
     exact ⟨⟨k + 1, by omega, by go_num, ON⟩, by show l.length - ((k : Int) + 1).toNat < l.length - (k : Int).toNat; omega⟩
    | true =>
     have e := Hft.out
     rw [Bool.true_and, if_pos rfl] at e
     have He := Lib.hid e
     clear e Hft
     go_wp2_with (first | refine wpList_mload (by rfl) _ (by rfl) (by rfl) LU.out ?_ | refine wpList_bin (by rfl) .eql _ _ _ _ (by rfl) (by rfl) (by rfl) upGuard (EQ.out _) ?_)
     refine (MX2.out).mono ?_
     rintro e w4 ⟨rfl, h4⟩
     have O4 := Lib.hid (O3.out.below h4)
     have L4 := Lib.hid (up_lies_row (cs := [.int .i64 i1, .int .i64 i2, .int .i64 v1, .int .i64 v2, .int .i64 t, .string y1, .string y2, .bool dd]) (R3.out.below h4 R3.out.inHeap) rfl)
     have hown3 := O4.out.1.alloc (.cells #[.int .i64 i1, .int .i64 i2, .int .i64 v1, .int .i64 v2, .int .i64 t, .string y1, .string y2, .bool dd] 27)
     have hmade := HM.out w4
     have hsz3 : w0.heap.size ≤ (w4.alloc (.cells #[.int .i64 i1, .int .i64 i2, .int .i64 v1, .int .i64 v2, .int .i64 t, .string y1, .string y2, .bool dd] 27)).heap.size := by have := O4.out.2.size; simp; omega
     have HO3 := Lib.hid (fun (v2 : Value) (w2 : World) (o : Obj) => HO2.out v2 _ w2 o _ O4.out)
     clear h4 MX2 O3 HO2
     generalize (l.take k).filter (Upd.keepB l P) = own at *
     go_wp2_with (first | refine wpList_mload (by rfl) _ (by rfl) (by rfl) L4.out ?_ | (at_builtin; refine wp_joins (f := upV) (k := 8) rfl _ _ 44 rfl (w0.heap.size) 27 i0 (upA Upd.zeroU) 80 Try.underlying44 hi0 hz0 hz1 hz2 rfl (by decide) rfl rfl hown3 hmade (fun _ _ => rfl) (fun x _ => up_one x) ?c3 ?c4 hsz3 ?_))
     case c3 => have := hlen.out; have := HL.out; unfold maxLen; first | omega | (simp <;> omega)
     case c4 => have := hlen.out; have := HL.out; first | omega | (simp <;> omega)
     intro v3 w3 h1 h2 _
     have hnew := HO3.out v3 w3 _ (by simpa using h1) h2
     rw [← He.out] at hnew
     replace hnew := Lib.hid hnew
     clear h1 h2 hown3 hmade
     go_wp2_with fail
     exact ⟨⟨k + 1, by omega, by go_num, hnew⟩, by show l.length - ((k : Int) + 1).toNat < l.length - (k : Int).toNat; omega⟩
  ·obtain rfl : k = l.length := by omega
   have hO' := hO.out
   rw [List.take_length] at hO'
   have hfl : (l.filter (Upd.keepB l P)).length ≤ 1000000 := Nat.le_trans (List.length_filter_le _ _) (Nat.le_trans HL.out (by decide))
   have SO := Lib.hid (up_sortfn V hO' hfl)
   have CO := Lib.hid (fun (B : World) (x : Value) (T : List Upd.U) (hs : T.length ≤ 1000000) (hx : RowsOwn 27 8 upV w0 T x B) => up_compact hx hs)
   have HFL := Lib.hid hfl
   clear hO hO' hfl
   go_wp2_with fail
   refine (SO.out).mono ?_
   rintro e w2 ⟨rfl, T, hT, hperm, hup⟩
   have HT := Lib.hid hT
   have hTl : Hid (T.length ≤ 1000000) := Lib.hid (by rw [hperm.length_eq]; exact HFL.out)
   have hfin : Hid (Lib.compact T = Upd.view l P) := Lib.hid (Upd.view_is hperm hup)
   clear hT hperm hup SO
   go_wp2_with fail
   refine (CO.out _ _ _ hTl.out HT.out).mono ?_
   rintro e w3 ⟨v3, rfl, h3⟩
   have H3 : Hid (RowsOwn 27 8 upV w0 (Upd.view l P) v3 w3) := Lib.hid (by rw [← hfin.out]; exact h3)
   clear h3 CO
   go_wp2_with fail
   go_ret
   exact ⟨_, rfl, ((H3.out.since HB0.out).rows (fun _ _ => rfl)), (H3.out.since HB0.out).2⟩
end Go.Proofs.Ytgpeobmaneponaa
namespace Go.Proofs.Ytgpeobmaneponaa
open Go.RowKit
theorem update_of (P : PathOk) (V : VersOk) (Z : FilterOk) : UpdateOk where
 check := fun {w} u hu => upd_check P V u hu w
 checkM := fun {w} m hm => upd_checkM P V m hm w
 toMeta := fun {w} u hu => upd_meta u w hu.data
 file := fun {w} u hu => upd_file u w hu.data
 hit := fun u h hl hf hu => upd_hit Z u h hl hf hu
 hitM := fun m h hl hf hm => upd_hitM Z m h hl hf hm
 wins := fun {w} a b => (upd_wins V a b w).mono fun _ _ h => ⟨h.1, h.2.below⟩
 best := fun item h hl hb hx => upd_best V item h hl hb hx
 view := fun h hf hl hb lf bf => upd_view V Z h hf hl hb lf bf
end Go.Proofs.Ytgpeobmaneponaa
namespace Go.Proofs.Ytgpeobmaneponaa.Pth
def lens : List Tx → Nat
 | [] => 0
 | t :: l => t.length + 1 + lens l
theorem lens_append (a b : List Tx) : lens (a ++ b) = lens a + lens b := by
 induction a with
 | nil => simp [lens]
 | cons t a ih => simp only [List.cons_append, lens, ih]; omega
theorem lens_splitA (s : Tx) : ∀ cur, lens (splitA cur s) = cur.length + s.length + 1 := by
 induction s with
 | nil => intro cur; simp [splitA, lens]
 | cons c s ih =>
  intro cur
  unfold splitA
  split
  ·simp only [lens, ih, List.length_nil, List.length_cons]; omega
  ·rw [ih]; simp only [List.length_append, List.length_cons, List.length_nil]; omega
theorem splitA_step (cur : Tx) (c : UInt8) (s : Tx) : splitA cur (c :: s) = if c.toNat = 47 then cur :: splitA [] s else splitA (cur ++ [c]) s := by rw [splitA]
theorem splitA_no {s : Tx} (h : ∀ c ∈ s, c.toNat ≠ 47) : ∀ cur, splitA cur s = [cur ++ s] := by
 induction s with
 | nil => intro cur; simp [splitA]
 | cons c s ih =>
  intro cur
  unfold splitA
  rw [if_neg (h c (List.mem_cons_self ..)), ih (fun x hx => h x (List.mem_cons_of_mem _ hx))]
  simp
theorem splitA_at {a : Tx} (h : ∀ c ∈ a, c.toNat ≠ 47) (b : Tx) : ∀ cur, splitA cur (a ++ 47 :: b) = (cur ++ a) :: splitA [] b := by
 induction a with
 | nil =>
  intro cur
  show splitA cur (47 :: b) = _
  rw [splitA_step, if_pos (by decide)]; simp
 | cons c a ih =>
  intro cur
  show splitA cur (c :: (a ++ 47 :: b)) = _
  rw [splitA_step, if_neg (h c (List.mem_cons_self ..)), ih (fun x hx => h x (List.mem_cons_of_mem _ hx))]
  simp
def Fit (d : List Tx) : Prop := (∀ t ∈ d, Name t) ∧ d.length ≤ 6 ∧ lens d ≤ 41
theorem fit_nil : Fit [] := ⟨by simp, by simp, by simp [lens]⟩
def Next (d : List Tx) (t : Tx) : Prop := Name t ∧ (0 : Int) ≤ (6 - (d.length : Int)) - 1 ∧ (0 : Int) ≤ (41 - (lens d : Int)) - ((t.length : Int) + 1)
instance (d : List Tx) (t : Tx) : Decidable (Next d t) := inferInstanceAs (Decidable (_ ∧ _))
theorem fit_next {d : List Tx} {t : Tx} (h : Fit d) (k : Next d t) : Fit (d ++ [t]) := by
 obtain ⟨h1, h2, h3⟩ := h
 obtain ⟨k1, k2, k3⟩ := k
 refine ⟨?_, ?_, ?_⟩
 ·intro x hx
  rcases List.mem_append.1 hx with hx | hx
  ·exact h1 x hx
  ·rw [List.mem_singleton.1 hx]; exact k1
 ·rw [List.length_append, List.length_singleton]; omega
 ·rw [lens_append]; simp only [lens]; omega
theorem fit_not {d e : List Tx} {t : Tx} (k : ¬ Next d t) : ¬ Fit (d ++ t :: e) := by
 rintro ⟨h1, h2, h3⟩
 apply k
 rw [List.length_append, List.length_cons] at h2
 rw [lens_append] at h3
 simp only [lens] at h3
 exact ⟨h1 t (by simp), by omega, by omega⟩
theorem right_fit (s : Tx) : Right s ↔ Fit (split s) := by
 have h := lens_splitA s []
 rw [List.length_nil, Nat.zero_add] at h
 constructor
 ·rintro ⟨h1, h2, h3⟩
  exact ⟨h1, h3, by unfold split; omega⟩
 ·rintro ⟨h1, h2, h3⟩
  exact ⟨h1, by unfold split at h3; omega, h2⟩
theorem index_cases : ∀ s : Tx, (Lib.indexByte s 47 = -1 ∧ ∀ c ∈ s, c.toNat ≠ 47) ∨ ∃ a b, s = a ++ 47 :: b ∧ (∀ c ∈ a, c.toNat ≠ 47) ∧ Lib.indexByte s 47 = (a.length : Int)
 | [] => Or.inl ⟨rfl, by simp⟩
 | c :: s => by
  by_cases hc : c = 47
  ·subst hc
   exact Or.inr ⟨[], s, rfl, by simp, rfl⟩
  ·have hc2 : c.toNat ≠ 47 := fun e => hc (UInt8.toNat_inj.1 e)
   have hb : (c == 47) = false := by rw [beq_eq_false_iff_ne]; exact hc
   rcases index_cases s with ⟨h1, h2⟩ | ⟨a, b, rfl, h2, h3⟩
   ·refine Or.inl ⟨?_, ?_⟩
    ·show (if c == 47 then 0 else if Lib.indexByte s 47 == -1 then -1 else Lib.indexByte s 47 + 1) = _
     rw [hb, h1]; rfl
    ·intro x hx
     rcases List.mem_cons.1 hx with rfl | hx
     ·exact hc2
     ·exact h2 x hx
   ·refine Or.inr ⟨c :: a, b, rfl, ?_, ?_⟩
    ·intro x hx
     rcases List.mem_cons.1 hx with rfl | hx
     ·exact hc2
     ·exact h2 x hx
    ·show (if c == 47 then 0 else if Lib.indexByte (a ++ 47 :: b) 47 == -1 then -1 else Lib.indexByte (a ++ 47 :: b) 47 + 1) = _
     rw [hb, h3]
     have : (((a.length : Nat) : Int) == -1) = false := by rw [beq_eq_false_iff_ne]; omega
     rw [this]
     simp
end Go.Proofs.Ytgpeobmaneponaa.Pth
namespace Go.Proofs.Ytgpeobmaneponaa
open Go.RowKit
theorem rune_cases (s : ByteArray) (k : Nat) (h : k < s.size) {c : UInt8} (hc : s.data.toList[k]? = some c) : ∃ r wd : Nat, (Utf8.decode s k).1 = r ∧ (Utf8.decode s k).2 = wd ∧ r ≤ 2147483647 ∧ 1 ≤ wd ∧ (r < 128 → r = c.toNat ∧ wd = 1) ∧ (128 ≤ r → 128 ≤ c.toNat) := by
 have hc' : s[k]'h = c := by
  rw [List.getElem?_eq_getElem (by rw [← Lib.size_eq]; exact h), Array.getElem_toList] at hc
  injection hc
 refine ⟨_, _, rfl, rfl, decode_le s k, ?_, ?_, ?_⟩
 all_goals
  by_cases ha : (s[k]'h).toNat < 128
  ·rw [decode_ascii s k h ha, hc']
   rw [hc'] at ha
   first | omega | (intro; exact ⟨rfl, rfl⟩) | (intro hh; simp only at hh; omega)
  ·have := decode_high s k h (by omega)
   rw [hc'] at ha
   omega
theorem good_cases (n : Nat) : n = 46 ∨ (97 ≤ n ∧ n ≤ 122) ∨ (48 ≤ n ∧ n ≤ 57) ∨ n = 45 ∨ n = 95 ∨ n < 45 ∨ n = 47 ∨ (57 < n ∧ n < 95) ∨ n = 96 ∨ 122 < n := by omega
theorem pth_isname (s : List UInt8) (w : World) (hs : s.length ≤ 100000) :
    Calls Try.prog 74 #[.string (mk s)] w fun e w' => e = .returned (.bool (decide (Pth.Name s))) ∧ Below w.heap.size w w' := by
  have ls : (mk s).size = s.length := mk_len s
  have hS : ((mk s).size : Int) ≤ 100000 := by rw [ls]; omega
  by_cases h12 : s.length ≤ 12
  · have g1 : decide ((12 : Int) < ((mk s).size : Int)) = false := by rw [ls]; exact decide_eq_false (by omega)
    have Ls := Lib.hid ls
    clear ls
    generalize hxs : mk s = xs at *
    have Hxs := Lib.hid hxs
    go_enter Try.func74, Try.ntmps74
    go_wp2_with fail
    go_step3
    go_wp2_with fail
    go_step3
    go_wp2_with fail
    go_loopw [3, 4] (fun g d wr => ∃ k : Nat, k ≤ s.length ∧ g = .int .i64 (k : Int) ∧ d = .int .i64 (Pth.dots (s.take k) : Int) ∧ (∀ c ∈ s.take k, Pth.okChar c = true) ∧ wr.heap[w.heap.size]? = some (.stringIter xs k) ∧ Below w.heap.size w wr) (fun _ _ wr => s.length - wr.iterPos w.heap.size)
    case atStart => exact ⟨0, Nat.zero_le _, rfl, rfl, by simp, by have := World.iter_heap w xs 0; simpa using this, by first | exact (Below.refl _ w).alloc (Nat.le_refl _) _ | simpa using (Below.refl _ w).alloc (Nat.le_refl _) (.stringIter xs 0)⟩
    case round =>
      obtain ⟨k, hk, rfl, rfl, hall, hit, hbel⟩ := hrel
      have hk0 : (0 : Int) ≤ (k : Int) := by omega
      have hdk : Pth.dots (s.take k) ≤ k := by
        have := List.countP_le_length (p := fun c : UInt8 => c.toNat == 46) (l := s.take k)
        rw [List.length_take] at this
        unfold Pth.dots; omega
      have Hall := Lib.hid hall
      have Hbel := Lib.hid hbel
      clear hall hbel
      by_cases hlt : k < s.length
      · have hlx : k < xs.size := by have := Ls.out; omega
        obtain ⟨c, hc, ic⟩ := idx xs k hlx
        clear ic
        obtain ⟨r, wd, e1, e2, hr, hw1, hlow, hhigh⟩ := rune_cases xs k hlx hc
        have hnx : ∀ ty, (Instr.next (.pointer (some ⟨w.heap.size, 0, none⟩)) true ty).run Try.prog wr = .ok (.tuple #[.bool true, .int .i64 k, .int .i32 (r : Int)]) (wr.iterAt w.heap.size xs (k + wd)) := fun ty => by
          rw [Lib.run_next_any_at wr w.heap.size xs k ty hit hlx, e1, e2]
        have hit2 := Lib.hid (Lib.iterAt_heap wr w.heap.size xs k (k + wd) hit)
        have hbel2 := Lib.hid (Lib.below_iterAt Hbel.out (k := w.heap.size) (Nat.le_refl _) xs (k + wd))
        have hsc : s[k]? = some c := by rw [← hc, ← Hxs.out, mk_data]
        obtain ⟨hl, he⟩ := List.getElem?_eq_some_iff.1 hsc
        have htk : s.take (k + 1) = s.take k ++ [c] := by rw [List.take_succ_eq_append_getElem hl, he]
        have hdn : Hid (Pth.dots (s.take (k + 1)) = Pth.dots (s.take k) + (if c.toNat = 46 then 1 else 0)) := Lib.hid (by
          rw [htk]
          unfold Pth.dots
          rw [List.countP_append, List.countP_singleton]
          by_cases h : c.toNat = 46
          · rw [if_pos h, h]; rfl
          · rw [if_neg h, if_neg (by simpa using h)])
        have hgood : Hid (Pth.okChar c = true → ∀ x ∈ s.take (k + 1), Pth.okChar x = true) := Lib.hid (fun h x hx => by
          rw [htk, List.mem_append] at hx
          rcases hx with hx | hx
          · exact Hall.out x hx
          · rw [List.mem_singleton.1 hx]; exact h)
        have hbad : Hid (Pth.okChar c = false → decide (Pth.Name s) = false) := Lib.hid (fun h => decide_eq_false (fun m => by
          have := m.1 c (List.mem_of_getElem? hsc)
          rw [h] at this; cases this))
        have hok : Hid (Pth.okChar c = ((decide (97 ≤ c.toNat) && decide (c.toNat ≤ 122)) || (decide (48 ≤ c.toNat) && decide (c.toNat ≤ 57)) || c.toNat == 45 || c.toNat == 95 || c.toNat == 46)) := Lib.hid rfl
        have hc256 := c.toNat_lt
        have hd9 : ((Pth.dots (s.take k) : Nat) : Int) ≤ 100000 := by omega
        have hpos : wr.iterPos w.heap.size = k := by simp [World.iterPos, hit]
        have hpos2 : Hid ((wr.iterAt w.heap.size xs (k + wd)).iterPos w.heap.size = k + wd) := Lib.hid (by have := hit2.out; simp [World.iterPos, this])
        have Hpos := Lib.hid hpos
        have hge : ((k : Int) == (xs.size : Int)) = false := by rw [beq_eq_false_iff_ne]; omega
        have hkx : (k : Int) ≤ 100000 := by omega
        clear hc hsc htk he hl hdk e1 e2 hit hpos
        generalize wr.iterAt w.heap.size xs (k + wd) = wi at *
        generalize c.toNat = cn at *
        generalize Pth.dots (s.take k) = dk at *
        rcases good_cases r with h | h | h | h | h | h | h | h | h | h
        all_goals
          first | (have e46 : ((r : Int) == 46) = true := by rw [beq_iff_eq]; omega) | (have e46 : ((r : Int) == 46) = false := by rw [beq_eq_false_iff_ne]; omega)
          first | (have d97 : decide ((97 : Int) ≤ (r : Int)) = true := decide_eq_true (by omega)) | (have d97 : decide ((97 : Int) ≤ (r : Int)) = false := decide_eq_false (by omega))
          first | (have d122 : decide ((r : Int) ≤ 122) = true := decide_eq_true (by omega)) | (have d122 : decide ((r : Int) ≤ 122) = false := decide_eq_false (by omega))
          first | (have d48 : decide ((48 : Int) ≤ (r : Int)) = true := decide_eq_true (by omega)) | (have d48 : decide ((48 : Int) ≤ (r : Int)) = false := decide_eq_false (by omega))
          first | (have d57 : decide ((r : Int) ≤ 57) = true := decide_eq_true (by omega)) | (have d57 : decide ((r : Int) ≤ 57) = false := decide_eq_false (by omega))
          first | (have e45 : ((r : Int) == 45) = true := by rw [beq_iff_eq]; omega) | (have e45 : ((r : Int) == 45) = false := by rw [beq_eq_false_iff_ne]; omega)
          first | (have e95 : ((r : Int) == 95) = true := by rw [beq_iff_eq]; omega) | (have e95 : ((r : Int) == 95) = false := by rw [beq_eq_false_iff_ne]; omega)
          first
            | (have hT : Hid (Pth.okChar c = true ∧ wd = 1 ∧ r = cn) := Lib.hid (by
                 have := hlow (by omega)
                 refine ⟨?_, this.2, this.1⟩
                 rw [hok.out]; simp; omega))
            | (have hF : Hid (Pth.okChar c = false) := Lib.hid (by
                 rw [hok.out]
                 by_cases h8 : r < 128
                 · have := hlow h8; simp; omega
                 · have := hhigh (by omega); simp; omega))
          have HH := Lib.hid h
          have Hr := Lib.hid hr
          clear h hlow hhigh hr hw1
          go_wp2_with fail
          first
            | (try rw [Exit.noGoto_ret]
               go_ret
               exact ⟨by rw [hbad.out hF.out]; rfl, hbel2.out⟩)
            | (refine ⟨⟨k + 1, by omega, rfl, ?_, hgood.out hT.out.1, by have := hit2.out; rw [hT.out.2.1] at this; exact this, hbel2.out⟩, ?_⟩
               · rw [hdn.out]
                 first
                   | (rw [if_pos (by have := HH.out; have := hT.out; omega)]; rfl)
                   | (rw [if_neg (by have := HH.out; have := hT.out; omega)]; rfl)
               · rw [hpos2.out, Hpos.out, hT.out.2.1]; omega)
      · have hks : s.length = k := by omega
        have hnx : ∀ ty, (Instr.next (.pointer (some ⟨w.heap.size, 0, none⟩)) true ty).run Try.prog wr = .ok (.tuple #[.bool false]) wr := fun ty => Lib.run_next_end_at wr w.heap.size xs k ty hit (by have := Ls.out; omega)
        have htk : s.take k = s := by rw [← hks]; exact List.take_length
        rw [htk] at Hall hdk
        have hge : ((k : Int) == (xs.size : Int)) = true := by rw [beq_iff_eq]; have := Ls.out; omega
        have hfin : Hid (decide (Pth.Name s) = decide (((Pth.dots s : Nat) : Int) < (k : Int))) := Lib.hid (by
          rw [decide_eq_decide]
          unfold Pth.Name
          constructor
          · rintro ⟨-, -, -, h⟩; omega
          · intro h; exact ⟨Hall.out, by omega, h12, by omega⟩)
        rw [htk]
        clear hit hks htk hlt hdk hk
        generalize ((Pth.dots s : Nat) : Int) = dk at *
        cases hd : decide (dk < (k : Int))
        all_goals
          rw [hd] at hfin
          go_wp2_with fail
          try rw [Exit.noGoto_ret]
          go_ret
          exact ⟨by rw [hfin.out]; rfl, Hbel.out⟩
  · have g1 : decide ((12 : Int) < ((mk s).size : Int)) = true := by rw [ls]; exact decide_eq_true (by omega)
    have hx : Hid (decide (Pth.Name s) = false) := Lib.hid (decide_eq_false (fun h => h12 h.2.2.1))
    clear h12 ls
    generalize mk s = xs at *
    go_enter Try.func74, Try.ntmps74
    go_wp2_with fail
    go_step3
    go_wp2_with fail
    try rw [Exit.noGoto_ret]
    go_ret
    exact ⟨by rw [hx.out]; rfl, Below.refl _ _⟩
end Go.Proofs.Ytgpeobmaneponaa
