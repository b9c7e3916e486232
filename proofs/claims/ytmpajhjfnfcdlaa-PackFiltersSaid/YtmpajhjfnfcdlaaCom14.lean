import Derived.Test.YtmpajhjfnfcdlaaCom7
import Derived.Test.YtmpajhjfnfcdlaaCom5
import Derived.Test.YtmpajhjfnfcdlaaCom9
import Derived.Test.YtmpajhjfnfcdlaaCom6
import Derived.Test.YtmpajhjfnfcdlaaCom4
import Derived.Great.Walk
import Derived.Shelf.SlSortCmp.QuietGrown
import Derived.Deep.Fields
set_option maxRecDepth 100000
set_option linter.all false
set_option maxHeartbeats 12800000
namespace Go.Proofs.Ytmpajhjfnfcdlaa
open Go.RowKit Go.Sort
theorem ver_counts (w : World) (n : Int) (h : n ≤ 9223372036854775807) : Calls Try.prog 107 #[.int .i64 n] w fun e w' => e = .returned (.bool (decide ((1 : Int) ≤ n))) ∧ w = w' := by
 by_cases h1 : (1 : Int) ≤ n
 ·have E : Hid (decide ((1 : Int) ≤ n) = true) := Lib.hid (decide_eq_true h1)
  go_enter Try.func107, Try.ntmps107
  go_wp2_with fail
  go_ret
  exact ⟨by rw [E.out]; first | rfl | (simp; omega), rfl⟩
 ·have E : Hid (decide ((1 : Int) ≤ n) = false) := Lib.hid (decide_eq_false h1)
  go_enter Try.func107, Try.ntmps107
  go_wp2_with fail
  go_ret
  exact ⟨by rw [E.out]; first | rfl | (simp; omega), rfl⟩
theorem ver_check (w : World) (v : Ver.V) (hb : Ver.Bd v) : Calls Try.prog 77 #[verA v] w fun e w' => e = .returned (.int .i64 (Ver.checkV v)) ∧ Laid w w' := by
 have L := Lib.hid (laid_one w)
 obtain ⟨x, y⟩ := v
 have CO := Lib.hid (fun W => ver_counts W y (by have := hb.2; unfold Ver.I64 at this; exact this.2))
 have E0 : Hid (Ver.checkV ⟨x, y⟩ = if (1 : Int) ≤ x ∧ x ≤ 64 ∧ (1 : Int) ≤ y then 0 else 2) := Lib.hid rfl
 clear hb
 by_cases h1 : x < 1
 ·have E : Hid (Ver.checkV ⟨x, y⟩ = 2) := Lib.hid (by rw [E0.out, if_neg (by omega)])
  go_enter Try.func77, Try.ntmps77
  go_wp2_with fail
  go_ret
  exact ⟨by rw [E.out]; rfl, L.out _⟩
 ·by_cases h2 : 64 < x
  ·have E : Hid (Ver.checkV ⟨x, y⟩ = 2) := Lib.hid (by rw [E0.out, if_neg (by omega)])
   go_enter Try.func77, Try.ntmps77
   go_wp2_with fail
   go_ret
   exact ⟨by rw [E.out]; rfl, L.out _⟩
  ·by_cases h3 : (1 : Int) ≤ y
   ·have E : Hid (Ver.checkV ⟨x, y⟩ = 0) := Lib.hid (by rw [E0.out, if_pos (by omega)])
    have CO : Hid (∀ W, Calls Try.prog 107 #[.int .i64 y] W fun e w' => e = .returned (.bool true) ∧ W = w') := Lib.hid (fun W => by have := CO.out W; rwa [decide_eq_true h3] at this)
    go_enter Try.func77, Try.ntmps77
    go_wp2_with (go_at_call 107; refine (CO.out _).mono ?_; rintro e w' ⟨rfl, rfl⟩)
    go_ret
    exact ⟨by rw [E.out]; rfl, L.out _⟩
   ·have E : Hid (Ver.checkV ⟨x, y⟩ = 2) := Lib.hid (by rw [E0.out, if_neg (by omega)])
    have CO : Hid (∀ W, Calls Try.prog 107 #[.int .i64 y] W fun e w' => e = .returned (.bool false) ∧ W = w') := Lib.hid (fun W => by have := CO.out W; rwa [decide_eq_false h3] at this)
    go_enter Try.func77, Try.ntmps77
    go_wp2_with (go_at_call 107; refine (CO.out _).mono ?_; rintro e w' ⟨rfl, rfl⟩)
    go_ret
    exact ⟨by rw [E.out]; rfl, L.out _⟩
open Go.RowKit Go.Sort
def Vec.putv (v : List Int) (x : Ver.V) : List Int := if Ver.Right x then v.set x.by_.toNat (max ((v[x.by_.toNat]?).getD 0) x.n) else v
theorem Vec.putv_up {v : List Int} (h : Vec.Plain v) (x : Ver.V) : Vec.putv v x = Vec.up v x := by
 unfold Vec.putv
 by_cases hx : Ver.Right x
 ·have hr := hx
  unfold Ver.Right at hr
  rw [if_pos hx, h.2 _ (by omega)]
  exact Vec.up_max h hx (h.2 _ (by omega))
 ·rw [if_neg hx, Vec.up_no (fun k => hx k.1)]
theorem vec_put {a w : World} {b : Nat} {v : List Int} (x : Ver.V) (hx : Ver.Bd x) (h : VRow w b v) (hl : Laid a w) (hb : a.heap.size ≤ b) : Calls Try.prog 70 #[.pointer (some ⟨b, 0, none⟩), verA x] w fun e w' => e = .returned (.tuple #[]) ∧ VRow w' b (Vec.putv v x) ∧ Laid a w' ∧ ∀ c u, c ≠ b → VRow w c u → VRow w' c u := by
 have CH := Lib.hid (fun W => ver_check W x hx)
 have hlt := h.inHeap
 have F := Lib.hid (show ∀ w1, Laid (w.alloc (.cells #[.int .i64 x.by_, .int .i64 x.n] 23)) w1 → w1.cell? ⟨w.heap.size, 0, none⟩ = some (.int .i64 x.by_) ∧ w1.cell? ⟨w.heap.size, 1, none⟩ = some (.int .i64 x.n) ∧ VRow w1 b v ∧ Laid a w1 ∧ (∀ c u, VRow w c u → VRow w1 c u) from fun w1 h1 => by
  have hr := (Row.made w 23 #[.int .i64 x.by_, .int .i64 x.n]).below h1.below (by simp)
  exact ⟨hr.at 0, hr.at 1, (h.alloc _).below h1.below (by simp; omega), (hl.alloc _).trans h1, fun c u hc => (hc.alloc _).below h1.below (by have := hc.inHeap; simp; omega)⟩)
 by_cases hr : Ver.Right x
 ·have e : Ver.checkV x = 0 := if_pos hr
  rw [e] at CH
  have ep : Hid (Vec.putv v x = v.set x.by_.toNat (max ((v[x.by_.toNat]?).getD 0) x.n)) := Lib.hid (if_pos hr)
  obtain ⟨k, hk, hk2⟩ : ∃ k : Nat, x.by_ = (k : Int) ∧ 1 ≤ k ∧ k ≤ 64 := by
   unfold Ver.Right at hr
   exact ⟨x.by_.toNat, by omega, by omega⟩
  obtain ⟨n, hn⟩ : ∃ n, v[k]? = some n := ⟨_, List.getElem?_eq_getElem (by rw [h.len]; omega)⟩
  rw [hk, Int.toNat_natCast, hn] at ep
  obtain ⟨x1, x2⟩ := x
  simp only at hk CH F ep
  subst hk
  have Hn := Lib.hid hn
  have HB := Lib.hid hb
  have Hk := Lib.hid hk2
  have hne : ¬ w.heap.size = b := by omega
  clear h hl hb hx hr e hn hk2 hlt
  go_enter Try.func70, Try.ntmps70
  go_wp2_with (go_at_call 77; refine (CH.out _).mono ?_; rintro e w1 ⟨rfl, hL⟩)
  obtain ⟨c0, c1, c2, c3, c4⟩ := F.out _ hL
  have cv := c2.at Hn.out
  have cf := c2.free k
  have had := vec_addr (k := k) (by have := Hk.out; omega) b
  have C2 := Lib.hid c2
  have C3 := Lib.hid c3
  have C4 := Lib.hid c4
  clear c2 c3 c4 hL
  refine wp_region_tail (n := 13) (S := (fun w' : World => w' = w1.drew)) (by kernel_rfl) (by kernel_rfl) (by rfl) rfl (fun hHeld => ?_)
  refine wpAnyH_tk (i := 0) (v := ?_) rfl (Or.inl ⟨by rfl, (by intro w hSw; subst hSw; go_simp; try with_reducible rfl)⟩) (by assumption) ?_
  simp only [zz]
  refine wpAnyH_tk (i := 1) (v := ?_) rfl (Or.inl ⟨by rfl, (by intro w hSw; subst hSw; go_simp; try with_reducible rfl)⟩) (by assumption) ?_
  simp only [zz]
  refine wpAnyH_tk (i := 2) (v := ?_) rfl (Or.inl ⟨by rfl, (by intro w hSw; subst hSw; go_simp; try with_reducible rfl)⟩) (by assumption) ?_
  simp only [zz]
  refine wpAnyH_tk (i := 3) (v := ?_) rfl (Or.inl ⟨by rfl, (by intro w hSw; subst hSw; go_simp; try with_reducible rfl)⟩) (by assumption) ?_
  simp only [zz]
  refine wpAnyH_tk (i := 4) (v := ?_) rfl (Or.inl ⟨by rfl, (by intro w hSw; subst hSw; go_simp; try with_reducible rfl)⟩) (by assumption) ?_
  simp only [zz]
  refine wpAnyH_tk (i := 5) (v := ?_) rfl (Or.inl ⟨by rfl, (by intro w hSw; subst hSw; go_simp; try with_reducible rfl)⟩) (by assumption) ?_
  simp only [zz]
  refine wpAnyH_tk (i := 6) (v := ?_) rfl (Or.inl ⟨by rfl, (by intro w hSw; subst hSw; go_simp; try with_reducible rfl)⟩) (by assumption) ?_
  simp only [zz]
  refine wpAnyH_tk (i := 7) (v := ?_) rfl (Or.inl ⟨by rfl, (by intro w hSw; subst hSw; go_simp; try with_reducible rfl)⟩) (by assumption) ?_
  simp only [zz]
  refine wpAnyH_tk (i := 8) (v := ?_) rfl (Or.inl ⟨by rfl, (by intro w hSw; subst hSw; go_simp; try with_reducible rfl)⟩) (by assumption) ?_
  simp only [zz]
  refine wpAnyH_tk (i := 9) (v := ?_) rfl (Or.inl ⟨by rfl, (by intro w hSw; subst hSw; go_simp; try with_reducible rfl)⟩) (by assumption) ?_
  simp only [zz]
  refine wpAnyH_tk (i := 10) (v := ?_) rfl (Or.inl ⟨by rfl, (by intro w hSw; subst hSw; go_simp; try with_reducible rfl)⟩) (by assumption) ?_
  simp only [zz]
  refine wpAnyH_tk (i := 11) (v := ?_) rfl (Or.inl ⟨by rfl, (by intro w hSw; subst hSw; go_simp; try with_reducible rfl)⟩) (by assumption) ?_
  simp only [zz]
  refine wpAnyH_tk (i := 12) (v := ?_) rfl (Or.inl ⟨by rfl, (by intro w hSw; subst hSw; go_simp; try with_reducible rfl)⟩) (by assumption) ?_
  simp only [zz]
  refine wpAnyH_done (by kernel_rfl) ?_ _
  refine wpAny_of_held (S := fun _ => True) _ _ _ _ ?_
  have hHeld : True := trivial
  refine wpAnyH_td (i := 13) rfl ?_
  simp only [zz]
  refine wpAnyH_ready (rs := [14]) (by kernel_rfl) (by simp) ?_
  refine AllReadyH.cons rfl (fun K hK => ?_) AllReadyH.nil
  go_simp
  refine hK.out _ _ trivial (fun hHeld => ?_)
  clear hK K
  refine wpAnyH_done (by kernel_rfl) ?_ _
  have h1 := C2.out.stored k (max n x2)
  exact Go.Great.bodyPost_end0 rfl rfl ⟨rfl, by rw [ep.out]; exact h1, (C3.out.stored HB.out _).drew, fun c u hc hu => (C4.out c u hu).storedElsewhere (fun e => hc e.symm) _⟩
 ·have e : Ver.checkV x = 2 := if_neg hr
  rw [e] at CH
  have ep : Hid (Vec.putv v x = v) := Lib.hid (if_neg hr)
  obtain ⟨x1, x2⟩ := x
  simp only at CH F ep
  clear h hl hb hx hr e hlt
  go_enter Try.func70, Try.ntmps70
  go_wp2_with (go_at_call 77; refine (CH.out _).mono ?_; rintro e w1 ⟨rfl, hL⟩; have F1 := Lib.hid (F.out _ hL); clear hL)
  exact Go.Great.bodyPost_end0 rfl rfl ⟨rfl, by rw [ep.out]; exact F1.out.2.2.1, F1.out.2.2.2.1, fun c u _ hu => F1.out.2.2.2.2 c u hu⟩
theorem vec_of {w : World} {F : Nat → Prop} {s : Value} {l : List Ver.V} (h : Vrs w F s l) (hl : l.length ≤ 1000000) (hb : ∀ x ∈ l, Ver.Bd x) : Calls Try.prog 31 #[s] w fun e w' => e = .returned (vecA (Vec.ofl l)) ∧ Laid w w' := by
 have hz := vecZero
 obtain ⟨A, c, rfl, hc⟩ := h.parts
 have hb1 : VRow ((w.alloc (.cells (vecR Vec.zeros) 46)).alloc (.cells (vecR Vec.zeros) 46)) w.heap.size Vec.zeros := (VRow.made w Vec.zeros_len).alloc _
 have hb2 : VRow ((w.alloc (.cells (vecR Vec.zeros) 46)).alloc (.cells (vecR Vec.zeros) 46)) (w.heap.size + 1) Vec.zeros := by
  have := VRow.made (w.alloc (.cells (vecR Vec.zeros) 46)) (v := Vec.zeros) Vec.zeros_len
  rwa [World.size_alloc] at this
 have HL0 : Hid (Laid w ((w.alloc (.cells (vecR Vec.zeros) 46)).alloc (.cells (vecR Vec.zeros) 46))) := Lib.hid ((Laid.new w _).alloc _)
 have HB1 := Lib.hid hb1
 have HB2 := Lib.hid hb2
 have H := Lib.hid h
 have HBd := Lib.hid hb
 have hl' : (l.length : Int) ≤ 1000000 := by omega
 clear h hb hb1 hb2
 go_enter Try.func31, Try.ntmps31
 go_wp2_with fail
 go_loopw [8] (fun i wr => ∃ k : Nat, k ≤ l.length ∧ i = .int .i64 (k : Int) ∧ VRow wr w.heap.size Vec.zeros ∧ VRow wr (w.heap.size + 1) (Vec.ofl (l.take k)) ∧ Laid w wr) (fun i _ => l.length - (intOf i).toNat)
 case atStart => exact ⟨0, Nat.zero_le _, rfl, HB1.out, by rw [List.take_zero]; exact HB2.out, HL0.out⟩
 case round =>
  obtain ⟨k, hk, rfl, h1, h2, h3⟩ := hrel
  by_cases hlt : k < l.length
  ·obtain ⟨b, o, cap, e, -, -, hb⟩ := H.out.block (by omega)
   injection e with e1 e2 e3
   subst e1 e3
   clear e2
   obtain ⟨x, hx⟩ : ∃ x, l[k]? = some x := ⟨_, List.getElem?_eq_getElem hlt⟩
   obtain ⟨c0, c1⟩ := Vrs.at (H.out.below h3.below) hx
   have hk0 : (0 : Int) ≤ (k : Int) := by omega
   have hk1 : (k : Int) < (l.length : Int) := by omega
   have e : Hid (Vec.putv (Vec.ofl (l.take k)) x = Vec.ofl (l.take (k + 1))) := Lib.hid (by rw [Vec.putv_up (Vec.ofl_plain _), Vec.ofl_take l k x hx])
   have hxb := HBd.out x (List.mem_of_getElem? hx)
   have PU := Lib.hid (vec_put (a := w) x hxb (h2.alloc (.cells #[.int .i64 x.by_, .int .i64 x.n] 23)) (h3.alloc _) (Nat.le_succ _))
   have K1 := Lib.hid (fun W' (hb : Laid w W') => hb)
   have H1 := Lib.hid (h1.alloc (.cells #[.int .i64 x.by_, .int .i64 x.n] 23))
   obtain ⟨x1, x2⟩ := x
   simp only at c0 c1 PU H1
   clear h1 h2 h3 hx hxb
   go_wp2_with fail
   refine PU.out.mono ?_
   rintro e w1 ⟨rfl, h4, h5, h6⟩
   have H4 : Hid (VRow w1 (w.heap.size + 1) (Vec.ofl (l.take (k + 1)))) := Lib.hid (by rw [← e.out]; exact h4)
   have H5 := Lib.hid h5
   have H6 : Hid (VRow w1 w.heap.size Vec.zeros) := Lib.hid (h6 _ _ (by omega) H1.out)
   clear h4 h5 h6
   go_wp2_with fail
   exact ⟨⟨k + 1, by omega, rfl, H6.out, H4.out, H5.out⟩, by show l.length - ((k : Int) + 1).toNat < l.length - (k : Int).toNat; omega⟩
  ·obtain rfl : k = l.length := by omega
   rw [List.take_length] at h2
   have H1 := Lib.hid h1
   have H2 := Lib.hid h2
   have H3 := Lib.hid h3
   have Hc : Hid ((Vec.ofl l).length = 65) := Lib.hid (Vec.ofl_plain l).1
   clear h1 h2 h3
   go_wp2_with (first | refine wpList_vload (by rfl) _ (by rfl) (by rfl) H2.out ?_ | refine wpList_vstore (by rfl) _ _ (by rfl) (by rfl) (by rfl) H1.out Hc.out ?_)
   exact bodyPost_ret (v := vecA (Vec.ofl l)) (results_cell_row (by rfl) _ _ w.heap.size 46 _ (0, 0) _ (by rfl) (H1.out.set _ Hc.out).row Try.underlying46 rfl (vecSize Hc.out)) rfl ⟨rfl, H3.out.set (Nat.le_refl _) _⟩
open Go.RowKit Go.Sort
theorem vec_ends (w : World) {v : List Int} (hv : v.length = 65) : Calls Try.prog 89 #[vecA v] w fun e w' => ∃ s, e = .returned s ∧ RowsOwn 23 2 verV w (Vec.ends v) s w' := by
 obtain ⟨i0, hi0, hz0, hz1, hz2⟩ := ver_parts verInfo
 have CL := Lib.hid (fun W => vec_clean W hv)
 have R0 := Lib.hid (VRow.made w hv)
 have HL := Lib.hid (Laid.new w (.cells (vecR v) 46))
 clear hv
 go_enter Try.func89, Try.ntmps89
 go_wp2_with (refine wpList_vload (by rfl) _ (by rfl) (by rfl) R0.out ?_)
 refine (CL.out _).mono ?_
 rintro e w1 ⟨rfl, h1⟩
 have H1 := Lib.hid (Laid.trans HL.out h1).below
 clear h1
 go_wp2_with fail
 go_loopw [3, 8] (fun sv i wr => ∃ k : Nat, k ≤ 65 ∧ i = .int .i64 (k : Int) ∧ RowsOwn 23 2 verV w (Vec.endsK v k) sv wr) (fun _ i _ => 65 - (intOf i).toNat)
 case atStart => exact ⟨0, Nat.zero_le _, rfl, RowsOwn.first H1.out⟩
 case round =>
  obtain ⟨k, hk, rfl, hr⟩ := hrel
  by_cases hlt : k < 65
  ·have hix := vec_index hlt (Vec.clean_get v hlt)
   have hk0 : (0 : Int) ≤ (k : Int) := by omega
   have hk1 : (k : Int) < 65 := by omega
   have Hk := Lib.hid hk
   by_cases hp : 0 < Vec.at_ v k
   ·have HE := Lib.hid (Vec.endsK_more v k hp)
    have Hlen := Lib.hid (Vec.endsK_len v k)
    generalize Vec.at_ v k = n at *
    have HR := Lib.hid hr
    have hown := hr.1.alloc (.cells #[.int .i64 (k : Int), .int .i64 n] 23)
    have Hmd := Lib.hid (ver_made wr 23 ⟨(k : Int), n⟩)
    have hsz : w.heap.size ≤ wr.heap.size := hr.2.size
    clear hr hk
    go_wp2_with (at_builtin; refine wp_joins (f := verV) (k := 2) rfl _ _ 47 rfl w.heap.size 23 i0 (.agg #[.int .i64 0, .int .i64 0]) 16 Try.underlying47 hi0 hz0 hz1 hz2 rfl (by decide) rfl rfl hown Hmd.out (fun _ _ => rfl) (fun x _ => ver_one x) ?c1 ?c2 ?c3 ?_; (case c1 => (have e1 := Hlen.out; have e2 := Hk.out; rw [show ([(⟨(k : Int), n⟩ : Ver.V)]).length = 1 from rfl]; unfold maxLen; omega)); (case c2 => (have e1 := Hlen.out; have e2 := Hk.out; rw [show ([(⟨(k : Int), n⟩ : Ver.V)]).length = 1 from rfl]; omega)); (case c3 => (simp; omega)); intro v2 w2 own2 hg2 _; have F2 := Lib.hid (HR.out.more (x := (⟨(k : Int), n⟩ : Ver.V)) (v' := v2) (by simpa [verV] using own2) hg2); clear own2 hg2)
    rw [← HE.out] at F2
    exact ⟨⟨k + 1, by omega, rfl, F2.out⟩, by show 65 - ((k : Int) + 1).toNat < 65 - (k : Int).toNat; omega⟩
   ·have hp' : Vec.at_ v k ≤ 0 := by omega
    rw [← Vec.endsK_same v k hp] at hr
    have HR := Lib.hid hr
    generalize Vec.at_ v k = n at *
    clear hr
    go_wp2_with fail
    exact ⟨⟨k + 1, by omega, rfl, HR.out⟩, by show 65 - ((k : Int) + 1).toNat < 65 - (k : Int).toNat; omega⟩
  ·obtain rfl : k = 65 := by omega
   have HR := Lib.hid hr
   clear hr
   go_wp2_with fail
   go_ret
   exact ⟨_, rfl, HR.out⟩
theorem vec_ok : VecOk where
 clean := fun hv => vec_clean _ hv
 ofl := fun h hl hb => vec_of h hl hb
 ends := fun hv => (vec_ends _ hv).mono (fun e w' h => by obtain ⟨s, e1, h⟩ := h; exact ⟨s, e1, h.rows (fun _ _ => rfl), h.2⟩)
open Go.ChangeShapes Go.WideShapes Go.ChangeAt Go.RowKit Go.Deep
theorem Sz.intCells : Try.prog.cellsOf 3 = 1 := by kernel_rfl
theorem Sz.rangeCells : Try.prog.cellsOf 62 = 2 := by kernel_rfl
theorem Sz.in_heap {W : World} {a : Addr} {v : Value} (h : W.cell? a = some v) : a.block < W.heap.size ∧ a.spot = none := by
 refine ⟨World.block_lt_of_cell? W a h, ?_⟩
 exact World.cell?_spot h
theorem Sz.list_of {α : Type} {p : Nat → α → Prop} : ∀ n, (∀ i, i < n → ∃ x, p i x) → ∃ l : List α, l.length = n ∧ ∀ i x, l[i]? = some x → p i x
 | 0, _ => ⟨[], rfl, fun i x h => by simp at h⟩
 | n + 1, h => by
  obtain ⟨l, hl, hp⟩ := Sz.list_of n (fun i hi => h i (by omega))
  obtain ⟨x, hx⟩ := h n (by omega)
  refine ⟨l ++ [x], by simp [hl], fun i y hy => ?_⟩
  by_cases hi : i < n
  ·rw [List.getElem?_append_left (by omega)] at hy
   exact hp i y hy
  ·have hin : i < (l ++ [x]).length := (List.getElem?_eq_some_iff.1 hy).1
   have : i = n := by simp [hl] at hin; omega
   subst this
   rw [List.getElem?_append_right (by omega), hl, Nat.sub_self] at hy
   simp at hy
   rw [← hy]; exact hx
section
variable {H : Type} {enc : TypeId × Value → H}
end
open Go.ChangeShapes Go.WideShapes Go.ChangeAt Go.RowKit Go.Deep
theorem Flt.stringCells : Try.prog.cellsOf 9 = 1 := by kernel_rfl
theorem Flt.clauseCells : Try.prog.cellsOf 64 = 3 := by kernel_rfl
section
variable {H : Type} {enc : TypeId × Value → H}
def Flt.In (c : Flt.Cl) : Prop := c.pre.length ≤ 9223372036854775807 ∧ Go.Proofs.Ytmpajhjfnfcdlaa.Bd (Flt.rg c)
theorem open_cls {W : World} {c : Value} {n : Nat} {d : DataW H × List MemPlace} (h : DataW.trod enc Try.prog W 0 (fun _ => true) true n 60 [c] = some d) :
  ∃ (A : Option Addr) (len cap : Nat) (l : List Flt.Cl), c = .slice A len cap ∧ Cls W (fun i => i < W.heap.size) c l ∧ l.length = len ∧ len ≤ cap ∧ len ≤ 9223372036854775807 ∧ ∀ r ∈ l, Flt.In r := by
 obtain ⟨d, pl⟩ := d
 rcases open_slice Try.underlying60 h with ⟨hcs, _⟩ | ⟨a, len', cap', m, n', D, Pl, hcs, _, hl, hm, hmm, _, hi⟩
 ·simp at hcs
  exact ⟨none, 0, 0, [], hcs, by rw [hcs]; exact Rws.none _ _ _, rfl, Nat.le_refl _, by omega, fun r hr => by cases hr⟩
 ·simp at hcs
  subst hcs
  simp at hmm
  unfold maxLen at hm
  have hcell : ∀ i, i < len' → ∃ f : Flt.Cl, W.cell? (a.add (i * 3)) = some (.string (mk f.pre)) ∧ W.cell? (a.add (i * 3 + 1)) = some (.int .i64 f.lo) ∧ W.cell? (a.add (i * 3 + 2)) = some (.int .i64 f.hi) ∧ Flt.In f := by
   intro i hil
   obtain ⟨cs', hc, ht⟩ := hi i (by omega)
   rw [Flt.clauseCells] at hc
   obtain ⟨_, hcl, hat⟩ := World.cells?_some hc
   obtain ⟨xs, n'', _, _, _, hxs, hfs⟩ := DataW.trod_struct Try.underlying64 ht
   match cs', hcl with
   | [c0, c1, c2], _ =>
    have hl2 : xs.length = 2 := hxs
    have k0 : DataW.trod enc Try.prog W 0 (fun _ => true) true n'' 9 (([c0, c1, c2].drop 0).take (Try.prog.cellsOf 9)) = xs[0]? := hfs 0 _ rfl
    have k1 : DataW.trod enc Try.prog W 0 (fun _ => true) true n'' 62 (([c0, c1, c2].drop 1).take (Try.prog.cellsOf 62)) = xs[1]? := hfs 1 _ rfl
    rw [Flt.stringCells, List.getElem?_eq_getElem (by omega)] at k0
    rw [Sz.rangeCells, List.getElem?_eq_getElem (by omega)] at k1
    obtain ⟨ys, n3, _, _, _, hys, hgs⟩ := DataW.trod_struct Try.underlying62 k1
    have hl3 : ys.length = 2 := hys
    have k2 : DataW.trod enc Try.prog W 0 (fun _ => true) true n3 3 (([c1, c2].drop 0).take (Try.prog.cellsOf 3)) = ys[0]? := hgs 0 _ rfl
    have k3 : DataW.trod enc Try.prog W 0 (fun _ => true) true n3 3 (([c1, c2].drop 1).take (Try.prog.cellsOf 3)) = ys[1]? := hgs 1 _ rfl
    rw [Sz.intCells, List.getElem?_eq_getElem (by omega)] at k2 k3
    obtain ⟨x0, e0, _, w0⟩ := DataW.trod_string Try.underlying9 k0
    obtain ⟨x1, e1, _, w1⟩ := DataW.trod_int Try.underlying3 k2
    obtain ⟨x2, e2, _, w2⟩ := DataW.trod_int Try.underlying3 k3
    have e0 : c0 = .string x0 := by simpa using e0
    have e1 : c1 = .int .i64 x1 := by simpa using e1
    have e2 : c2 = .int .i64 x2 := by simpa using e2
    have b1 := bounds_i64 w1
    have b2 := bounds_i64 w2
    refine ⟨⟨x0.data.toList, x1, x2⟩, ?_, ?_, ?_, ?_, by unfold Bd Flt.rg; simp only; omega⟩
    ·have := hat 0 (by omega)
     rw [e0, Go.Deep.add_add] at this
     rw [mk_of]
     exact this
    ·have := hat 1 (by omega)
     rw [e1, Go.Deep.add_add] at this
     exact this
    ·have := hat 2 (by omega)
     rw [e2, Go.Deep.add_add] at this
     exact this
    ·have := w0
     unfold maxLen at this
     simpa using this
  obtain ⟨l, hll, hlp⟩ := Sz.list_of len' hcell
  refine ⟨some a, len', cap', l, rfl, ⟨some a, cap', by rw [hll], by rw [hll]; exact hl, fun hpos => ?_⟩, hll, hl, by omega, fun r hr => ?_⟩
  ·rw [hll] at hpos
   obtain ⟨x0, h0, _⟩ := hcell 0 hpos
   have hb := Sz.in_heap h0
   obtain ⟨b, off, spot⟩ := a
   have hs : spot = none := by simpa [Addr.add] using hb.2
   subst hs
   have hb1 : b < W.heap.size := by simpa [Addr.add] using hb.1
   refine ⟨b, off, rfl, hb1, hb1, fun i x hx j u hu => ?_⟩
   obtain ⟨q0, q1, q2, _⟩ := hlp i x hx
   rw [Go.WideShapes.add_plain] at q0 q1 q2
   match j, hu with
   | 0, hu => simp [clV] at hu; subst hu; exact q0
   | 1, hu => simp [clV] at hu; subst hu; rw [← Nat.add_assoc] at q1; exact q1
   | 2, hu => simp [clV] at hu; subst hu; rw [← Nat.add_assoc] at q2; exact q2
  ·obtain ⟨i, hil, rfl⟩ := List.getElem_of_mem hr
   exact (hlp i _ (List.getElem?_eq_getElem hil)).2.2.2
theorem open_cll {W : World} {v : Value} {d : DataW H} {p : List MemPlace} (hv : ∃ a len cap, v = .slice a len cap) (h : DataW.Trod enc Try.prog W 0 (fun _ => true) true 60 v d p) :
  ∃ l : List Flt.Cl, Cls W (fun i => i < W.heap.size) v l ∧ l.length ≤ 9223372036854775807 ∧ ∀ r ∈ l, Flt.In r := by
 obtain ⟨A, len, cap, rfl⟩ := hv
 obtain ⟨fuel, hf⟩ := h
 obtain ⟨_, _, _, l, _, h1, h2, _, h4, h5⟩ := open_cls (by simpa [Value.cells] using hf)
 exact ⟨l, h1, by omega, h5⟩
end
end Go.Proofs.Ytmpajhjfnfcdlaa
