import Derived.Test.YtkcgmnhjofoeiaaGreatCom11
import Derived.Test.YtkcgmnhjofoeiaaGreatCom13
import Derived.Test.YtkcgmnhjofoeiaaGreatCom19
import Derived.Test.YtkcgmnhjofoeiaaGreatCom9
import Derived.Test.YtkcgmnhjofoeiaaGreatCom5
import Derived.Test.YtkcgmnhjofoeiaaGreatCom3
import Derived.Test.YtkcgmnhjofoeiaaGreatCom6
import Derived.Test.YtkcgmnhjofoeiaaGreatCom4
import Derived.Deep.Fields
set_option maxRecDepth 100000
set_option linter.all false
set_option maxHeartbeats 12800000
namespace Go.Proofs.YtkcgmnhjofoeiaaGreat
open Go.RowKit Go.Sort
theorem knZero (w : World) : (zeroValue 25).run Tryz.prog w = .ok (.agg #[.slice none 0 0, .slice none 0 0]) w := by kernel_rfl
theorem knSize (a b : Value) : (Tryz.prog.info? 25).map (·.size) = some [a, b].length := by kernel_rfl
theorem knSizeA (a b : Value) : (Tryz.prog.info? 25).map (·.size) = some (#[a, b] : Array Value).size := by kernel_rfl
theorem two_one {x y : Value} (hx : x.oneCell' = true) (hy : y.oneCell' = true) : ∀ u ∈ [x, y], u.oneCell' = true := by
 intro u hu
 rcases List.mem_cons.1 hu with rfl | hu
 ·exact hx
 ·rw [List.mem_singleton.1 hu]; exact hy
theorem Row.there2 {w : World} {b : Nat} {t : TypeId} {x y : Value} (h : Row w b t #[x, y]) : w.there b 0 2 := by
 intro j hj
 rw [Nat.zero_add]
 refine ⟨?_, h.free j⟩
 rw [h.at j]
 rcases j with _ | _ | j
 ·rfl
 ·rfl
 ·omega
theorem Row.put2 {w : World} {b : Nat} {t : TypeId} {x y : Value} (h : Row w b t #[x, y]) (u v : Value) : Row (w.setCells b 0 [u, v]) b t #[u, v] := (h.stored 0 u).stored 1 v
theorem put2_kept (w : World) (b : Nat) (u v : Value) : Kept (fun i => i = b) w (w.setCells b 0 [u, v]) := Kept.stored (p := ⟨b, 0 + 1, none⟩) (Kept.stored (p := ⟨b, 0, none⟩) (Kept.refl (fun i => i = b) w) (Or.inl rfl) u) (Or.inl rfl) v
theorem put2_below {B : Nat} {a w : World} (h : Below B a w) (hB : B ≤ w.heap.size) {b : Nat} (hb : B ≤ b) (u v : Value) : Below B a (w.setCells b 0 [u, v]) := h.trans ((put2_kept w b u v).below hB (fun i hi => by rw [hi]; exact hb))
theorem Rws.away {α : Type} {k : Nat} {f : α → List Value} {w : World} {F : Nat → Prop} {v : Value} {l : List α} {b m n c d : Nat} {t : TypeId} {A B : Option Addr} (h : Rws k f w F v l) (hr : Row w b t #[.slice A m c, .slice B n d]) (hne : ∀ x ∈ l, ∃ u, (f x)[0]? = some u ∧ ∀ A n c, u ≠ .slice A n c) : Rws k f w (fun i => i ≠ b) v l := by
 obtain ⟨A', cap, e, hc, hat⟩ := h
 refine ⟨A', cap, e, hc, fun h0 => ?_⟩
 obtain ⟨b', o, eA, hF, hlt, hcl⟩ := hat h0
 refine ⟨b', o, eA, fun eb => ?_, hlt, hcl⟩
 subst eb
 obtain ⟨u, hu, hus⟩ := hne l[0] (List.getElem_mem _)
 have h1 := hcl 0 l[0] (List.getElem?_eq_getElem h0) 0 u hu
 have h2 := h1.symm.trans (hr.at _)
 generalize o + 0 * k + 0 = q at h2
 rcases q with _ | _ | q
 ·injection h2 with h2; exact hus _ _ _ h2
 ·injection h2 with h2; exact hus _ _ _ h2
 ·cases h2
theorem cls_away {w : World} {F : Nat → Prop} {v : Value} {l : List Flt.Cl} {b m n c d : Nat} {t : TypeId} {A B : Option Addr} (h : Cls w F v l) (hr : Row w b t #[.slice A m c, .slice B n d]) : Cls w (fun i => i ≠ b) v l :=
 Rws.away h hr (fun x _ => ⟨_, rfl, fun _ _ _ e => by cases e⟩)
theorem vrs_away {w : World} {F : Nat → Prop} {v : Value} {l : List Ver.V} {b m n c d : Nat} {t : TypeId} {A B : Option Addr} (h : Vrs w F v l) (hr : Row w b t #[.slice A m c, .slice B n d]) : Vrs w (fun i => i ≠ b) v l :=
 Rws.away h hr (fun x _ => ⟨_, rfl, fun _ _ _ e => by cases e⟩)
theorem its_away {w : World} {F : Nat → Prop} {v : Value} {l : List Know.It} {b m n c d : Nat} {t : TypeId} {A B : Option Addr} (h : Its w F v l) (hr : Row w b t #[.slice A m c, .slice B n d]) : Its w (fun i => i ≠ b) v l :=
 ⟨Rws.away h.1 hr (fun x _ => ⟨_, rfl, fun _ _ _ e => by cases e⟩), h.2⟩
def KnNew (w : World) (v : Value) (c : Know.K) (w' : World) : Prop := ∃ a b rs, v = .agg #[a, b] ∧ rs.map (·.x) = c.frags ∧ Rws 67 rfV w' (fun i => w.heap.size ≤ i) a rs ∧ (∀ r ∈ rs, r.In w' AnyB) ∧ Its w' AnyB b c.items
section
variable {w w' W w1 : World} {v : Value} {c : Know.K}
theorem KnNew.kns (h : KnNew w v c w') : Kns w' AnyB v c := by
 obtain ⟨a, b, rs, e, e2, h1, h2, h3⟩ := h
 exact ⟨a, b, e, ⟨rs, e2, h1.mono (fun _ _ => trivial), h2⟩, h3⟩
theorem KnNew.parts (h : KnNew w v c w') : ∃ A m e B n d, v = .agg #[.slice A m e, .slice B n d] := by
 obtain ⟨a, b, rs, rfl, e2, h1, h2, h3⟩ := h
 obtain ⟨A, e, rfl, -⟩ := h1.parts
 obtain ⟨B, d, rfl, -⟩ := h3.1.parts
 exact ⟨_, _, _, _, _, _, rfl⟩
theorem kn_end {A B : Option Addr} {m e n d b : Nat} (h : KnNew W (.agg #[.slice A m e, .slice B n d]) c w1) (hr : Row w1 b 25 #[.slice none 0 0, .slice none 0 0]) (hb : b < W.heap.size) (hB : Below w.heap.size w w1) (hw : w.heap.size ≤ b) :
  w1.there b 0 2 ∧ Row (w1.setCells b 0 [.slice A m e, .slice B n d]) b 25 #[.slice A m e, .slice B n d] ∧ KnNew w (.agg #[.slice A m e, .slice B n d]) c (w1.setCells b 0 [.slice A m e, .slice B n d]) ∧ Below w.heap.size w (w1.setCells b 0 [.slice A m e, .slice B n d]) := by
 have KE := put2_kept w1 b (.slice A m e) (.slice B n d)
 obtain ⟨x, y, rs, e1, e2, h1, h2, h3⟩ := h
 refine ⟨hr.there2, hr.put2 _ _, ⟨x, y, rs, e1, e2, ?_, fun r hx => ?_, ?_⟩, put2_below hB hB.size hw _ _⟩
 ·exact (h1.kept KE (fun i hi e => by rw [e] at hi; omega)).mono (fun i hi => by omega)
 ·exact ⟨((cls_away (h2 r hx).f hr).kept KE (fun i hi e => hi e)).mono (fun _ _ => trivial), ((vrs_away (h2 r hx).no hr).kept KE (fun i hi e => hi e)).mono (fun _ _ => trivial), (h2 r hx).len⟩
 ·exact ((its_away h3 hr).kept KE (fun i hi e => hi e)).any
end
theorem many_mem {l : List Know.Fr} {x : Know.Fr} (h : x ∈ l) : (Flt.prefixes x.f).length ≤ Know.wt l := Know.sum_mem (fun x : Know.Fr => (Flt.prefixes x.f).length) h
theorem joined_ok {k : Know.K} {S : List Know.Fr} (hk : Know.Ok k) (hp : S.Perm (k.frags.map Know.tidy)) (hs : Know.Sorted S) : ((Know.joinAll S).map Know.normF).length ≤ 99999 ∧ ∀ x ∈ (Know.joinAll S).map Know.normF, x.no.length ≤ 100000 ∧ Cov.Ok x.f := by
 have hmem := Know.joined_mem hp hs hk.len
 refine ⟨?_, fun x hx => ?_⟩
 ·have h1 := Know.len_le (l := (Know.joinAll S).map Know.normF) (m := k.frags.map (Know.mk k.frags)) ((Know.joined_up hp hs).imp (fun {a b} hab e => by rw [e] at hab; exact Know.flt_irrefl _ hab)) (fun x hx => by
   obtain ⟨z, hz, e⟩ := (hmem x).1 hx
   exact List.mem_map.2 ⟨z, hz, e.symm⟩)
  have h2 : (k.frags.map (Know.mk k.frags)).length = k.frags.length := List.length_map ..
  have := hk.fr
  omega
 ·obtain ⟨z, hz, rfl⟩ := (hmem x).1 hx
  refine ⟨Nat.le_trans (Ver.sort_len z.no) (Nat.le_trans (hk.no z hz) (by decide)), ?_⟩
  refine Cov.Ok.of ?_ ?_
  ·have h1 := Cov.norm_short (Know.gather k.frags (Vec.clean z.v) (Ver.sort z.no))
   have h2 : (Flt.prefixes (Know.gather k.frags (Vec.clean z.v) (Ver.sort z.no))).length ≤ Know.wt k.frags := by
    refine Nat.le_trans (Know.gather_prefixes _ _ _) ?_
    unfold Know.wt
    generalize (fun z_1 : Know.Fr => decide (Vec.clean z_1.v = Vec.clean z.v ∧ Ver.sort z_1.no = Ver.sort z.no)) = p
    generalize k.frags = l
    induction l with
    | nil => exact Nat.le_refl _
    | cons a l ih =>
     rw [List.filter_cons]
     split
     ·rw [List.map_cons, List.sum_cons, List.map_cons, List.sum_cons]; omega
     ·rw [List.map_cons, List.sum_cons]; omega
   have h3 := hk.wt
   show (Flt.norm (Know.gather k.frags (Vec.clean z.v) (Ver.sort z.no))).length ≤ 100000
   omega
  ·refine Flt.norm_right (fun c hc => ?_)
   obtain ⟨y, hy, hcy⟩ := List.mem_flatMap.1 hc
   exact hk.sane y (List.mem_filter.1 hy).1 c hcy
theorem know_canon (V : VecOk) (I : IsetOk) (C : CoverOk) (Z : FilterOk) {w : World} {F : Nat → Prop} {v : Value} {k : Know.K} (h : Kns w F v k) (hk : Know.Ok k) : Calls Tryz.prog 38 #[v] w fun e w' => ∃ v' c, e = .returned v' ∧ Know.Canon k c ∧ KnNew w v' c w' ∧ Below w.heap.size w w' := by
 have hz := knZero
 obtain ⟨a, b, rfl, hf, hi⟩ := h
 obtain ⟨A, ca, rfl, -⟩ := hf.parts
 obtain ⟨B, cb, rfl, -⟩ := hi.1.parts
 obtain ⟨W0, hW0⟩ : ∃ W0, W0 = (w.alloc (.cells #[.slice A k.frags.length ca, .slice B k.items.length cb] 25)).alloc (.cells #[.slice none 0 0, .slice none 0 0] 25) := ⟨_, rfl⟩
 have hb0 : Below w.heap.size w W0 := by rw [hW0]; exact ((Below.refl _ _).alloc (Nat.le_refl _) _).alloc (by simp) _
 have r0 : Row W0 w.heap.size 25 #[.slice A k.frags.length ca, .slice B k.items.length cb] := by rw [hW0]; exact (Row.made w _ _).behindNew _
 have r1 : Row W0 (w.heap.size + 1) 25 #[.slice none 0 0, .slice none 0 0] := by
  rw [hW0]
  have := Row.made (w.alloc (.cells #[.slice A k.frags.length ca, .slice B k.items.length cb] 25)) 25 #[.slice none 0 0, .slice none 0 0]
  rwa [World.size_alloc] at this
 have XC := Lib.hid (fun (W : World) (h : InB W0 W) => (⟨(r0.below h.below r0.inHeap).at 0, (r0.below h.below r0.inHeap).at 1⟩ : W.cell? ⟨w.heap.size, 0, none⟩ = some (.slice A k.frags.length ca) ∧ W.cell? ⟨w.heap.size, 1, none⟩ = some (.slice B k.items.length cb)))
 have R1 := Lib.hid (fun (W : World) (h : InB W0 W) => (r1.below h.below r1.inHeap : Row W (w.heap.size + 1) 25 #[.slice none 0 0, .slice none 0 0]))
 have JN := Lib.hid (fun (W : World) (h : InB W0 W) => know_joined V I Z ((hf.below hb0).below h.below) (by have := hk.fr; omega) (fun x hx => Nat.le_trans (hk.no x hx) (by decide)) hk.cl hk.sane)
 have WI := Lib.hid (fun (W W1 : World) (v' : Value) (js : List RFr) (S : List Know.Fr) (hj : FOwn W1 js v' W) (hp : S.Perm (k.frags.map Know.tidy)) (hs : Know.Sorted S) (e : js.map (·.x) = (Know.joinAll S).map Know.normF) =>
  know_widest V I C (e ▸ hj.frs : Frs W AnyB v' ((Know.joinAll S).map Know.normF)) (joined_ok hk hp hs).1 (fun x hx => ((joined_ok hk hp hs).2 x hx).1) (fun x hx => ((joined_ok hk hp hs).2 x hx).2))
 have GA := Lib.hid (fun (W : World) (h : InB W0 W) => know_gathered V I ((hi.below hb0).below h.below) (by have := hk.it; omega) hk.bdI)
 have HL := Lib.hid hk.len
 have HB0 := Lib.hid hb0
 have HSz0 := Lib.hid r1.inHeap
 clear hf hi hk hb0 r0 r1
 go_enter Tryz.func38, Tryz.ntmps38
 go_wp2_with fail
 rw [← hW0]
 clear hW0
 refine wp_region_tail (n := 7) (S := (fun w' : World => InB W0 w')) (by kernel_rfl) (by kernel_rfl) (by rfl) ((InB.refl W0).drew) (fun hHeld => ?_)
 refine wpAnyH_td (i := 0) rfl ?_
 simp only [zz]
 refine wpAnyH_tk (i := 1) (v := ?_) rfl (Or.inl ⟨by rfl, (by intro w hSw; obtain ⟨c0, c1⟩ := XC.out _ hSw; go_simp; try with_reducible rfl)⟩) (by assumption) ?_
 simp only [zz]
 refine wpAnyH_td (i := 4) rfl ?_
 simp only [zz]
 refine wpAnyH_tk (i := 5) (v := ?_) rfl (Or.inl ⟨by rfl, (by intro w hSw; obtain ⟨c0, c1⟩ := XC.out _ hSw; go_simp; try with_reducible rfl)⟩) (by assumption) ?_
 simp only [zz]
 refine wpAnyH_ready (rs := [2]) (by kernel_rfl) (by simp) ?_
 refine AllReadyH.cons rfl (fun K hK => ?_) AllReadyH.nil
 go_simp
 go_at_call 69
 refine (JN.out _ hHeld).mono ?_
 rintro e w2 ⟨v2, js, S, rfl, h2, hp, hs, ej⟩
 have S2 := InB.trans hHeld h2.size
 have WD := Lib.hid (WI.out _ _ _ _ _ h2 hp hs ej)
 have HSz := Lib.hid S2.below.size
 have CN := Lib.hid (Know.canon_of hp hs HL.out)
 obtain ⟨A2, c2, e2, -⟩ := h2.frs.parts
 rw [List.length_map] at e2
 subst e2
 refine hK.out _ _ S2 (fun hHeld => ?_)
 clear h2 hp hs ej S2
 clear hK K
 refine wpAnyH_ready (rs := [3]) (by kernel_rfl) (by simp) ?_
 refine AllReadyH.cons rfl (fun K hK => ?_) AllReadyH.nil
 go_simp
 go_at_call 68
 refine (WD.out).mono ?_
 rintro e w3 ⟨v3, rs, rfl, h3, e3⟩
 have S3 := InB.trans hHeld h3.size
 have N3 := Lib.hid h3
 have E3 := Lib.hid e3
 obtain ⟨A3, c3, e4, -⟩ := h3.rws.parts
 subst e4
 refine hK.out _ _ S3 (fun hHeld => ?_)
 clear h3 e3 S3
 clear hK K
 refine wpAnyH_ready (rs := [6]) (by kernel_rfl) (by simp) ?_
 refine AllReadyH.cons rfl (fun K hK => ?_) AllReadyH.nil
 go_simp
 go_at_call 70
 refine (GA.out _ hHeld).mono ?_
 rintro e w6 ⟨v6, rfl, h6, b6⟩
 have S6 := InB.trans hHeld b6
 obtain ⟨A6, c6, e6, -⟩ := h6.1.parts
 subst e6
 have KN : Hid (KnNew w2 (.agg #[.slice A3 rs.length c3, .slice A6 (Know.items_of k.items).length c6]) ⟨Know.whole_of S, Know.items_of k.items⟩ w6) := Lib.hid ⟨_, _, rs, rfl, E3.out, Rws.below (N3.out.rws.mono (fun i hi => hi.1)) b6, fun r hr => ((N3.out.ins r hr).any).below b6, h6⟩
 have R6 := Lib.hid (R1.out _ S6)
 have B6 := Lib.hid (HB0.out.trans (S6.below.mono HB0.out.size))
 have O9 : Hid (∀ u ∈ [(Value.slice A3 rs.length c3), (Value.slice A6 (Know.items_of k.items).length c6)], u.oneCell' = true) := Lib.hid (two_one rfl rfl)
 have KE := kn_end (b := w.heap.size + 1) KN.out R6.out (Nat.lt_of_lt_of_le HSz0.out HSz.out) B6.out (Nat.le_succ _)
 have T9 := Lib.hid KE.1
 have R9 := Lib.hid KE.2.1
 have K9 := Lib.hid KE.2.2.1
 have B9 := Lib.hid KE.2.2.2
 clear KE
 refine hK.out _ _ S6 (fun hHeld => ?_)
 clear h6 b6 S6
 clear hK K
 refine wpAnyH_done (by kernel_rfl) ?_ _
 refine wpAny_of_held (S := fun _ => True) _ _ _ _ ?_
 have hHeld : True := trivial
 refine wpAnyH_td (i := 7) rfl ?_
 simp only [zz]
 refine wpAnyH_ready (rs := [8]) (by kernel_rfl) (by simp) ?_
 refine AllReadyH.cons rfl (fun K hK => ?_) AllReadyH.nil
 refine step_mstore (.tmp 2) (.tmp 10) rfl (by rfl) (by rfl) (by rfl) T9.out (knSize _ _) O9.out ?_
 refine hK.out _ _ trivial (fun hHeld => ?_)
 clear hK K
 refine wpAnyH_done (by kernel_rfl) ?_ _
 go_wp2_with fail
 exact bodyPost_ret (v := .agg #[.slice A3 rs.length c3, .slice A6 (Know.items_of k.items).length c6]) (results_cell_row (by rfl) _ _ (w.heap.size + 1) 25 _ (0, 0) _ (by rfl) R9.out Tryz.underlying25 rfl (knSizeA _ _)) rfl ⟨_, _, rfl, CN.out, K9.out, B9.out⟩
open Go.ChangeShapes Go.WideShapes Go.ChangeAt Go.RowKit Go.Deep
theorem Ver.intCells : Tryz.prog.cellsOf 3 = 1 := by kernel_rfl
theorem Ver.verCells : Tryz.prog.cellsOf 33 = 2 := by kernel_rfl
theorem Ver.in_heap {W : World} {a : Addr} {v : Value} (h : W.cell? a = some v) : a.block < W.heap.size ∧ a.spot = none :=
 ⟨World.block_lt_of_cell? W a h, World.cell?_spot h⟩
theorem Ver.list_of {α : Type} {p : Nat → α → Prop} : ∀ n, (∀ i, i < n → ∃ x, p i x) → ∃ l : List α, l.length = n ∧ ∀ i x, l[i]? = some x → p i x
 | 0, _ => ⟨[], rfl, fun i x h => by simp at h⟩
 | n + 1, h => by
  obtain ⟨l, hl, hp⟩ := Ver.list_of n (fun i hi => h i (by omega))
  obtain ⟨x, hx⟩ := h n (by omega)
  refine ⟨l ++ [x], by simp [hl], fun i y hy => ?_⟩
  by_cases hi : i < n
  ·rw [List.getElem?_append_left (by omega)] at hy
   exact hp i y hy
  ·have hin : i < (l ++ [x]).length := (List.getElem?_eq_some_iff.1 hy).1
   have : i = n := by simp [hl] at hin; omega
   subst this
   rw [List.getElem?_append_right (by omega), hl, Nat.sub_self] at hy
   simp at hy
   rw [← hy]; exact hx
theorem Ver.rows_of {α : Type} {k : Nat} {f : α → List Value} {W : World} {a : Addr} {len cap : Nat} {l : List α} (hk : 0 < k) (hf : ∀ x, (f x).length = k) (hll : l.length = len) (hl : len ≤ cap)
  (h : ∀ i x, l[i]? = some x → ∀ j u, (f x)[j]? = some u → W.cell? (a.add (i * k + j)) = some u) : Rws k f W (fun i => i < W.heap.size) (.slice (some a) len cap) l := by
 refine ⟨some a, cap, by rw [hll], by rw [hll]; exact hl, fun hpos => ?_⟩
 obtain ⟨x0, hx0⟩ : ∃ x, l[0]? = some x := ⟨_, List.getElem?_eq_getElem hpos⟩
 obtain ⟨u0, hu0⟩ : ∃ u, (f x0)[0]? = some u := ⟨_, List.getElem?_eq_getElem (by rw [hf]; exact hk)⟩
 have hb := Ver.in_heap (h 0 x0 hx0 0 u0 hu0)
 obtain ⟨b, off, spot⟩ := a
 have hs : spot = none := by simpa [Addr.add] using hb.2
 subst hs
 have hb1 : b < W.heap.size := by simpa [Addr.add] using hb.1
 refine ⟨b, off, rfl, hb1, hb1, fun i x hx j u hu => ?_⟩
 have := h i x hx j u hu
 rwa [Go.WideShapes.add_plain, ← Nat.add_assoc] at this
section
variable {H : Type} {enc : TypeId × Value → H}
theorem open_ver2 {W : World} {n : Nat} {cs : List Value} {x : DataW H × List MemPlace} (hl : cs.length = 2) (h : DataW.trod enc Tryz.prog W 0 (fun _ => true) true n 33 cs = some x) : ∃ v : Ver.V, cs = verV v ∧ Ver.Bd v := by
 obtain ⟨xs, n'', _, _, _, hxs, hfs⟩ := DataW.trod_struct Tryz.underlying33 h
 match cs, hl with
 | [c0, c1], _ =>
  have hl2 : xs.length = 2 := hxs
  have k0 : DataW.trod enc Tryz.prog W 0 (fun _ => true) true n'' 3 (([c0, c1].drop 0).take (Tryz.prog.cellsOf 3)) = xs[0]? := hfs 0 _ rfl
  have k1 : DataW.trod enc Tryz.prog W 0 (fun _ => true) true n'' 3 (([c0, c1].drop 1).take (Tryz.prog.cellsOf 3)) = xs[1]? := hfs 1 _ rfl
  rw [Ver.intCells, List.getElem?_eq_getElem (by omega)] at k0 k1
  obtain ⟨x0, e0, _, w0⟩ := DataW.trod_int Tryz.underlying3 k0
  obtain ⟨x1, e1, _, w1⟩ := DataW.trod_int Tryz.underlying3 k1
  have e0 : c0 = .int .i64 x0 := by simpa using e0
  have e1 : c1 = .int .i64 x1 := by simpa using e1
  have b0 := bounds_i64 w0
  have b1 := bounds_i64 w1
  exact ⟨⟨x0, x1⟩, by rw [e0, e1]; rfl, by unfold Ver.Bd Ver.I64; simp only; omega⟩
theorem open_vers {W : World} {v : Value} {d : DataW H} {p : List MemPlace} (hv : ∃ a len cap, v = .slice a len cap) (h : DataW.Trod enc Tryz.prog W 0 (fun _ => true) true 29 v d p) :
  ∃ l : List Ver.V, Vrs W (fun i => i < W.heap.size) v l ∧ l.length ≤ 9223372036854775807 ∧ ∀ x ∈ l, Ver.Bd x := by
 obtain ⟨A, len, cap, rfl⟩ := hv
 obtain ⟨fuel, hf⟩ := h
 rcases open_slice Tryz.underlying29 hf with ⟨hcs, _⟩ | ⟨a, len', cap', m, n', D, Pl, hcs, _, hl, hm, hmm, _, hi⟩
 ·simp [Value.cells] at hcs
  obtain ⟨rfl, rfl, rfl⟩ := hcs
  exact ⟨[], Rws.none _ _ _, by simp, fun r hr => by cases hr⟩
 ·simp [Value.cells] at hcs
  obtain ⟨rfl, rfl, rfl⟩ := hcs
  simp at hmm
  unfold maxLen at hm
  obtain ⟨l, hll, hlp⟩ := Ver.list_of (p := fun i x => (∀ j u, (verV x)[j]? = some u → W.cell? (a.add (i * 2 + j)) = some u) ∧ Ver.Bd x) len (fun i hil => by
   obtain ⟨cs', hc, ht⟩ := hi i (by omega)
   rw [Ver.verCells] at hc
   obtain ⟨_, hcl, hat⟩ := World.cells?_some hc
   obtain ⟨x, e, hx⟩ := open_ver2 hcl ht
   refine ⟨x, fun j u hu => ?_, hx⟩
   have hj : j < 2 := by have := (List.getElem?_eq_some_iff.1 hu).1; rwa [ver_len] at this
   have := hat j hj
   rw [Go.Deep.add_add] at this
   rw [this]
   subst e
   rw [← hu])
  refine ⟨l, Ver.rows_of (by decide) ver_len hll hl (fun i x hx => (hlp i x hx).1), by omega, fun x hx => ?_⟩
  obtain ⟨i, hil, rfl⟩ := List.getElem_of_mem hx
  exact (hlp i _ (List.getElem?_eq_getElem hil)).2
end
open Go.ChangeShapes Go.WideShapes Go.ChangeAt Go.RowKit Go.Deep
theorem Vec.vecCells : Tryz.prog.cellsOf 28 = 65 := by kernel_rfl
section
variable {H : Type} {enc : TypeId × Value → H}
theorem open_vec65 {W : World} {n : Nat} {cs : List Value} {x : DataW H × List MemPlace} (hl : cs.length = 65) (h : DataW.trod enc Tryz.prog W 0 (fun _ => true) true n 28 cs = some x) : ∃ v : List Int, cs = vecL v ∧ v.length = 65 ∧ ∀ n ∈ v, Ver.I64 n := by
 obtain ⟨xs, m, _, _, _, hxl, hel⟩ := DataW.trod_array Tryz.underlying28 h
 have hi : ∀ i, i < 65 → ∃ n : Int, cs[i]? = some (.int .i64 n) ∧ Ver.I64 n := by
  intro i hi
  have k := hel i hi
  rw [Ver.intCells, Nat.mul_one, List.getElem?_eq_getElem (by omega)] at k
  have e : (cs.drop i).take 1 = [cs[i]'(by omega)] := by
   rw [List.take_one, List.head?_drop, List.getElem?_eq_getElem (by omega)]; rfl
  rw [e] at k
  obtain ⟨x0, e0, _, w0⟩ := DataW.trod_int Tryz.underlying3 k
  have b0 := bounds_i64 w0
  refine ⟨x0, ?_, by unfold Ver.I64; omega⟩
  rw [List.getElem?_eq_getElem (by omega)]
  congr 1
  simpa using e0
 obtain ⟨l, hll, hlp⟩ := Ver.list_of (p := fun i (n : Int) => cs[i]? = some (.int .i64 n) ∧ Ver.I64 n) 65 hi
 refine ⟨l, ?_, hll, fun n hn => by
  obtain ⟨i, hi, rfl⟩ := List.getElem_of_mem hn
  exact (hlp i _ (List.getElem?_eq_getElem hi)).2⟩
 apply List.ext_getElem?
 intro i
 by_cases hlt : i < 65
 ·obtain ⟨y, hy⟩ : ∃ y, l[i]? = some y := ⟨_, List.getElem?_eq_getElem (by omega)⟩
  rw [(hlp i y hy).1]
  unfold vecL
  rw [List.getElem?_map, hy]; rfl
 ·rw [List.getElem?_eq_none (by omega), List.getElem?_eq_none (by rw [vecL_len]; omega)]
theorem open_vers1 {W : World} {c : Value} {n : Nat} {d : DataW H × List MemPlace} (h : DataW.trod enc Tryz.prog W 0 (fun _ => true) true n 29 [c] = some d) :
  ∃ l : List Ver.V, Vrs W (fun i => i < W.heap.size) c l ∧ l.length ≤ 9223372036854775807 ∧ ∀ x ∈ l, Ver.Bd x := by
 obtain ⟨d, pl⟩ := d
 have hs : ∃ a len cap, c = .slice a len cap := by
  rcases open_slice Tryz.underlying29 h with ⟨hcs, _⟩ | ⟨a, len', cap', m, n', D, Pl, hcs, _, hl, hm, hmm, _, hi⟩
  ·simp at hcs; exact ⟨_, _, _, hcs⟩
  ·simp at hcs; exact ⟨_, _, _, hcs⟩
 obtain ⟨a, len, cap, rfl⟩ := hs
 exact open_vers ⟨a, len, cap, rfl⟩ ⟨n, h⟩
end
open Go.ChangeShapes Go.WideShapes Go.ChangeAt Go.RowKit Go.Deep
theorem Sz.intCells : Tryz.prog.cellsOf 3 = 1 := by kernel_rfl
theorem Sz.rangeCells : Tryz.prog.cellsOf 85 = 2 := by kernel_rfl
theorem Sz.in_heap {W : World} {a : Addr} {v : Value} (h : W.cell? a = some v) : a.block < W.heap.size ∧ a.spot = none := by
 refine ⟨World.block_lt_of_cell? W a h, ?_⟩
 exact World.cell?_spot h
theorem Sz.list_of {α : Type} {p : Nat → α → Prop} : ∀ n, (∀ i, i < n → ∃ x, p i x) → ∃ l : List α, l.length = n ∧ ∀ i x, l[i]? = some x → p i x
 | 0, _ => ⟨[], rfl, fun i x h => by simp at h⟩
 | n + 1, h => by
  obtain ⟨l, hl, hp⟩ := Sz.list_of n (fun i hi => h i (by omega))
  obtain ⟨x, hx⟩ := h n (by omega)
  refine ⟨l ++ [x], by simp [hl], fun i y hy => ?_⟩
  by_cases hi : i < n
  ·rw [List.getElem?_append_left (by omega)] at hy
   exact hp i y hy
  ·have hin : i < (l ++ [x]).length := (List.getElem?_eq_some_iff.1 hy).1
   have : i = n := by simp [hl] at hin; omega
   subst this
   rw [List.getElem?_append_right (by omega), hl, Nat.sub_self] at hy
   simp at hy
   rw [← hy]; exact hx
section
variable {H : Type} {enc : TypeId × Value → H}
end
open Go.ChangeShapes Go.WideShapes Go.ChangeAt Go.RowKit Go.Deep
theorem Flt.stringCells : Tryz.prog.cellsOf 9 = 1 := by kernel_rfl
theorem Flt.clauseCells : Tryz.prog.cellsOf 87 = 3 := by kernel_rfl
section
variable {H : Type} {enc : TypeId × Value → H}
def Flt.In (c : Flt.Cl) : Prop := c.pre.length ≤ 9223372036854775807 ∧ Go.Proofs.YtkcgmnhjofoeiaaGreat.Bd (Flt.rg c)
theorem open_cls {W : World} {c : Value} {n : Nat} {d : DataW H × List MemPlace} (h : DataW.trod enc Tryz.prog W 0 (fun _ => true) true n 26 [c] = some d) :
  ∃ (A : Option Addr) (len cap : Nat) (l : List Flt.Cl), c = .slice A len cap ∧ Cls W (fun i => i < W.heap.size) c l ∧ l.length = len ∧ len ≤ cap ∧ len ≤ 9223372036854775807 ∧ ∀ r ∈ l, Flt.In r := by
 obtain ⟨d, pl⟩ := d
 rcases open_slice Tryz.underlying26 h with ⟨hcs, _⟩ | ⟨a, len', cap', m, n', D, Pl, hcs, _, hl, hm, hmm, _, hi⟩
 ·simp at hcs
  exact ⟨none, 0, 0, [], hcs, by rw [hcs]; exact Rws.none _ _ _, rfl, Nat.le_refl _, by omega, fun r hr => by cases hr⟩
 ·simp at hcs
  subst hcs
  simp at hmm
  unfold maxLen at hm
  have hcell : ∀ i, i < len' → ∃ f : Flt.Cl, W.cell? (a.add (i * 3)) = some (.string (mk f.pre)) ∧ W.cell? (a.add (i * 3 + 1)) = some (.int .i64 f.lo) ∧ W.cell? (a.add (i * 3 + 2)) = some (.int .i64 f.hi) ∧ Flt.In f := by
   intro i hil
   obtain ⟨cs', hc, ht⟩ := hi i (by omega)
   rw [Flt.clauseCells] at hc
   obtain ⟨_, hcl, hat⟩ := World.cells?_some hc
   obtain ⟨xs, n'', _, _, _, hxs, hfs⟩ := DataW.trod_struct Tryz.underlying87 ht
   match cs', hcl with
   | [c0, c1, c2], _ =>
    have hl2 : xs.length = 2 := hxs
    have k0 : DataW.trod enc Tryz.prog W 0 (fun _ => true) true n'' 9 (([c0, c1, c2].drop 0).take (Tryz.prog.cellsOf 9)) = xs[0]? := hfs 0 _ rfl
    have k1 : DataW.trod enc Tryz.prog W 0 (fun _ => true) true n'' 85 (([c0, c1, c2].drop 1).take (Tryz.prog.cellsOf 85)) = xs[1]? := hfs 1 _ rfl
    rw [Flt.stringCells, List.getElem?_eq_getElem (by omega)] at k0
    rw [Sz.rangeCells, List.getElem?_eq_getElem (by omega)] at k1
    obtain ⟨ys, n3, _, _, _, hys, hgs⟩ := DataW.trod_struct Tryz.underlying85 k1
    have hl3 : ys.length = 2 := hys
    have k2 : DataW.trod enc Tryz.prog W 0 (fun _ => true) true n3 3 (([c1, c2].drop 0).take (Tryz.prog.cellsOf 3)) = ys[0]? := hgs 0 _ rfl
    have k3 : DataW.trod enc Tryz.prog W 0 (fun _ => true) true n3 3 (([c1, c2].drop 1).take (Tryz.prog.cellsOf 3)) = ys[1]? := hgs 1 _ rfl
    rw [Sz.intCells, List.getElem?_eq_getElem (by omega)] at k2 k3
    obtain ⟨x0, e0, _, w0⟩ := DataW.trod_string Tryz.underlying9 k0
    obtain ⟨x1, e1, _, w1⟩ := DataW.trod_int Tryz.underlying3 k2
    obtain ⟨x2, e2, _, w2⟩ := DataW.trod_int Tryz.underlying3 k3
    have e0 : c0 = .string x0 := by simpa using e0
    have e1 : c1 = .int .i64 x1 := by simpa using e1
    have e2 : c2 = .int .i64 x2 := by simpa using e2
    have b1 := bounds_i64 w1
    have b2 := bounds_i64 w2
    refine ⟨⟨x0.data.toList, x1, x2⟩, ?_, ?_, ?_, ?_, by unfold Bd Flt.rg; simp only; omega⟩
    ·have := hat 0 (by omega)
     rw [e0, Go.Deep.add_add] at this
     rw [mk_of]
     exact this
    ·have := hat 1 (by omega)
     rw [e1, Go.Deep.add_add] at this
     exact this
    ·have := hat 2 (by omega)
     rw [e2, Go.Deep.add_add] at this
     exact this
    ·have := w0
     unfold maxLen at this
     simpa using this
  obtain ⟨l, hll, hlp⟩ := Sz.list_of len' hcell
  refine ⟨some a, len', cap', l, rfl, ⟨some a, cap', by rw [hll], by rw [hll]; exact hl, fun hpos => ?_⟩, hll, hl, by omega, fun r hr => ?_⟩
  ·rw [hll] at hpos
   obtain ⟨x0, h0, _⟩ := hcell 0 hpos
   have hb := Sz.in_heap h0
   obtain ⟨b, off, spot⟩ := a
   have hs : spot = none := by simpa [Addr.add] using hb.2
   subst hs
   have hb1 : b < W.heap.size := by simpa [Addr.add] using hb.1
   refine ⟨b, off, rfl, hb1, hb1, fun i x hx j u hu => ?_⟩
   obtain ⟨q0, q1, q2, _⟩ := hlp i x hx
   rw [Go.WideShapes.add_plain] at q0 q1 q2
   match j, hu with
   | 0, hu => simp [clV] at hu; subst hu; exact q0
   | 1, hu => simp [clV] at hu; subst hu; rw [← Nat.add_assoc] at q1; exact q1
   | 2, hu => simp [clV] at hu; subst hu; rw [← Nat.add_assoc] at q2; exact q2
  ·obtain ⟨i, hil, rfl⟩ := List.getElem_of_mem hr
   exact (hlp i _ (List.getElem?_eq_getElem hil)).2.2.2
end
end Go.Proofs.YtkcgmnhjofoeiaaGreat
