import Derived.Test.YtkcgmnhjofoeiaaGreatCom25
import Derived.Test.YtkcgmnhjofoeiaaGreatCom8
import Derived.Test.YtkcgmnhjofoeiaaGreatCom11
import Derived.Test.YtkcgmnhjofoeiaaGreatCom26
set_option maxRecDepth 100000
set_option linter.all false
set_option maxHeartbeats 12800000
namespace Go.Proofs.YtkcgmnhjofoeiaaGreat
open Go.RowKit Go.Sort
instance dec_whole_ref (l : List Know.Fr) (item v : Ver.V) (f : List Flt.Cl) : Decidable (Know.ByWhole l item v f) := inferInstanceAs (Decidable (_ ∧ _))
instance dec_contains_ref (k : Know.K) (item v : Ver.V) (f : List Flt.Cl) : Decidable (Know.Contains k item v f) := inferInstanceAs (Decidable (_ ∨ _))
structure KBd (k : Know.K) : Prop where
 fr : k.frags.length ≤ 99999
 it : k.items.length ≤ 99999
 many : Know.many k.frags ≤ 1000000
 bd : ∀ x ∈ k.frags, FrBd x
theorem Know.whole_more (l : List Know.Fr) (x : Know.Fr) (item v : Ver.V) : Know.whole (l ++ [x]) item v = Know.whole l item v ++ if Know.Fits x item v then x.f else [] := by
 unfold Know.whole
 rw [List.filter_append, List.flatMap_append]
 congr 1
 by_cases h : Know.Fits x item v
 ·simp [h]
 ·simp [h]
theorem Know.whole_len (l : List Know.Fr) (item v : Ver.V) : (Know.whole l item v).length ≤ Know.many l := by
 induction l with
 | nil => exact Nat.le_refl _
 | cons x l ih =>
  unfold Know.whole Know.many at *
  rw [List.filter_cons]
  split
  ·rw [List.flatMap_cons, List.length_append, List.map_cons, List.sum_cons]; omega
  ·rw [List.map_cons, List.sum_cons]; omega
theorem Know.whole_pre {l : List Know.Fr} {item v : Ver.V} (h : ∀ x ∈ l, FrBd x) : ∀ c ∈ Know.whole l item v, c.pre.length ≤ 100000 := by
 intro c hc
 obtain ⟨x, hx, hcx⟩ := List.mem_flatMap.1 hc
 exact (h x (List.mem_filter.1 hx).1).pre c hcx
theorem Know.many_take (l : List Know.Fr) (n : Nat) : Know.many (l.take n) ≤ Know.many l := by
 conv => rhs; rw [← List.take_append_drop n l]
 unfold Know.many
 rw [List.map_append, List.sum_append]
 exact Nat.le_add_right _ _
theorem Know.whole_self {l : List Know.Fr} {x : Know.Fr} {item v : Ver.V} {f : List Flt.Cl} (hx : x ∈ l) (h : Know.Fits x item v) (e : x.f = f) : Know.ByWhole l item v f := by
 refine ⟨⟨x, hx, h⟩, (Know.whole_says ..).2 (fun p n hn => ⟨x, hx, h, by rw [e]; exact hn⟩)⟩
theorem ref_vhasL (w : World) {v : List Int} (x : Ver.V) (hv : v.length = 65) : Calls Tryz.prog 35 #[.agg (vecL v).toArray, .agg #[.int .i64 x.by_, .int .i64 x.n]] w fun e w' => e = .returned (.bool (decide (Vec.Has v x))) ∧ Below w.heap.size w w' := ref_vhas w x hv
theorem ref_kcontains {w : World} {F G : Nat → Prop} {kv u : Value} {k : Know.K} {f : List Flt.Cl} (item x : Ver.V) (h : Kns w F kv k) (hf : Cls w G u f) (hk : KBd k) (lf : f.length ≤ 1000000) (pf : ∀ c ∈ f, c.pre.length ≤ 100000) :
  Calls Tryz.prog 14 #[kv, verA item, verA x, u] w fun e w' => e = .returned (.bool (decide (Know.Contains k item x f))) ∧ Below w.heap.size w w' := by
 have mixed : Tryz.prog.follows .mixedOrders = true := by kernel_rfl
 obtain ⟨i0, hi0, hz0, hz1, hz2⟩ := info_parts clauseInfo
 obtain ⟨a, b, rfl, ⟨rs, hrx, hrr, hri⟩, hi⟩ := h
 obtain ⟨A, ca, rfl, -⟩ := hrr.parts
 obtain ⟨B, cb, rfl, -⟩ := hi.1.parts
 obtain ⟨U, cu, rfl, -⟩ := hf.parts
 obtain ⟨x1, x2⟩ := x
 obtain ⟨y1, y2⟩ := item
 have hfl : rs.length ≤ 99999 := by have := hk.fr; rw [← hrx, List.length_map] at this; exact this
 obtain ⟨W0, hW0⟩ : ∃ W0, W0 = ((w.alloc (.cells #[.slice A rs.length ca, .slice B k.items.length cb] 25)).alloc (.cells #[.int .i64 y1, .int .i64 y2] 33)).alloc (.cells #[.int .i64 x1, .int .i64 x2] 33) := ⟨_, rfl⟩
 have hb0 : Below w.heap.size w W0 := by rw [hW0]; exact (((Below.refl _ _).alloc (Nat.le_refl _) _).alloc (by simp) _).alloc (by simp; omega) _
 have r0 : Row W0 w.heap.size 25 #[.slice A rs.length ca, .slice B k.items.length cb] := by rw [hW0]; exact ((Row.made w _ _).behindNew _).behindNew _
 have r1 : Row W0 (w.heap.size + 1) 33 #[.int .i64 y1, .int .i64 y2] := by
  rw [hW0]
  have := (Row.made (w.alloc (.cells #[.slice A rs.length ca, .slice B k.items.length cb] 25)) 33 #[.int .i64 y1, .int .i64 y2]).behindNew (.cells #[.int .i64 x1, .int .i64 x2] 33)
  rwa [World.size_alloc] at this
 have r2 : Row W0 (w.heap.size + 1 + 1) 33 #[.int .i64 x1, .int .i64 x2] := by
  rw [hW0]
  have := Row.made ((w.alloc (.cells #[.slice A rs.length ca, .slice B k.items.length cb] 25)).alloc (.cells #[.int .i64 y1, .int .i64 y2] 33)) 33 #[.int .i64 x1, .int .i64 x2]
  rwa [World.size_alloc, World.size_alloc] at this
 have XC := Lib.hid (fun (W : World) (h : Below W0.heap.size W0 W) => (⟨(r0.below h r0.inHeap).at 0, (r0.below h r0.inHeap).at 1, (r1.below h r1.inHeap).at 0, (r1.below h r1.inHeap).at 1, (r2.below h r2.inHeap).at 0, (r2.below h r2.inHeap).at 1⟩ : W.cell? ⟨w.heap.size, 0, none⟩ = some (.slice A rs.length ca) ∧ W.cell? ⟨w.heap.size, 1, none⟩ = some (.slice B k.items.length cb) ∧ W.cell? ⟨w.heap.size + 1, 0, none⟩ = some (.int .i64 y1) ∧ W.cell? ⟨w.heap.size + 1, 1, none⟩ = some (.int .i64 y2) ∧ W.cell? ⟨w.heap.size + 1 + 1, 0, none⟩ = some (.int .i64 x1) ∧ W.cell? ⟨w.heap.size + 1 + 1, 1, none⟩ = some (.int .i64 x2)))
 have HR := Lib.hid (fun (W : World) (h : Below W0.heap.size W0 W) => Rws.below (Rws.below hrr hb0) h)
 have HN := Lib.hid (fun (W : World) (h : Below W0.heap.size W0 W) (r : RFr) (hr : r ∈ rs) => ((hri r hr).below hb0).below h)
 have HI := Lib.hid (fun (W : World) (h : Below W0.heap.size W0 W) => (hi.below hb0).below h)
 have HU := Lib.hid (fun (W : World) (h : Below W0.heap.size W0 W) => Rws.below (Rws.below hf hb0) h)
 have HBd : Hid (∀ r ∈ rs, FrBd r.x) := Lib.hid (fun r hr => hk.bd r.x (by rw [← hrx]; exact List.mem_map.2 ⟨r, hr, rfl⟩))
 have HMn : Hid (∀ n, (Know.whole ((rs.take n).map (·.x)) ⟨y1, y2⟩ ⟨x1, x2⟩).length ≤ 1000000) := Lib.hid (fun n => by
  refine Nat.le_trans (Know.whole_len _ _ _) ?_
  rw [List.map_take, hrx]
  exact Nat.le_trans (Know.many_take _ _) hk.many)
 have CS := Lib.hid (fun (W : World) (P : Nat → Prop) (v : Value) (h : Below W0.heap.size W0 W) (hv : Cls W P v (Know.whole k.frags ⟨y1, y2⟩ ⟨x1, x2⟩)) => ref_subsumes hv (Rws.below (Rws.below hf hb0) h) (Nat.le_trans (Know.whole_len _ _ _) hk.many) lf (Know.whole_pre hk.bd) pf)
 have HX := Lib.hid hrx
 have HB0 := Lib.hid hb0
 have HL := Lib.hid lf
 have hf0 : (rs.length : Int) ≤ 99999 := by omega
 have hil0 : (k.items.length : Int) ≤ 99999 := by have := hk.it; omega
 generalize hT : decide (Know.Contains k ⟨y1, y2⟩ ⟨x1, x2⟩ f) = T
 have HT : Hid (T = true ↔ Know.ByItem k.items ⟨y1, y2⟩ ⟨x1, x2⟩ ∨ Know.ByWhole k.frags ⟨y1, y2⟩ ⟨x1, x2⟩ f) := Lib.hid (by rw [← hT, decide_eq_true_iff]; exact Iff.rfl)
 clear hrr hri hi hf hrx hk hb0 r0 r1 r2 hfl lf pf hT
 go_enter Tryz.func14, Tryz.ntmps14
 go_wp2_with fail
 rw [← hW0]
 clear hW0
 go_loopw [9] (fun i wr => ∃ n : Nat, n ≤ k.items.length ∧ i = .int .i64 (n : Int) ∧ Hid (∀ j i, j < n → k.items[j]? = some i → ¬ (i.item = ⟨y1, y2⟩ ∧ Vec.Has i.v ⟨x1, x2⟩)) ∧ Hid (Below W0.heap.size W0 wr)) (fun i _ => k.items.length - (intOf i).toNat)
 case atStart => exact ⟨0, Nat.zero_le _, rfl, Lib.hid (fun j i h => absurd h (Nat.not_lt_zero j)), Lib.hid (Below.refl _ _)⟩
 case round =>
  obtain ⟨n, hn, rfl, hno, hb⟩ := hrel
  obtain ⟨c0, c1, c2, c3, c4, c5⟩ := XC.out _ hb.out
  by_cases hlt : n < k.items.length
  ·obtain ⟨bk, o, cap1, e, -, -, hbk⟩ := (HI.out W0 (Below.refl _ _)).1.block (by omega)
   injection e with e1 e2 e3
   subst e1 e3
   clear e2
   obtain ⟨⟨⟨z1, z2⟩, zv⟩, hz⟩ : ∃ z, k.items[n]? = some z := ⟨_, List.getElem?_eq_getElem hlt⟩
   have h65 := (HI.out W0 (Below.refl _ _)).2 _ (List.mem_of_getElem? hz)
   have LX := Lib.hid (fun (W : World) (h : InB wr W) => ItAt.elem (HI.out W (hb.out.trans (h.below.mono hb.out.size))).1 hz h65)
   have XD := Lib.hid (fun (W : World) (h : InB wr W) => And.intro (XC.out W (hb.out.trans (h.below.mono hb.out.size))) (And.intro (LX.out W h).by_ (LX.out W h).n))
   have V1 := Lib.hid (fun (W : World) (h : InB wr W) => (LX.out W h).v)
   have VH := Lib.hid (fun (W : World) (h : InB wr W) => ref_vhasL W ⟨x1, x2⟩ h65)
   have HZ := Lib.hid hz
   have HNo : Hid (¬ (z1 = y1 ∧ z2 = y2 ∧ Vec.Has zv ⟨x1, x2⟩) → ∀ j i, j < n + 1 → k.items[j]? = some i → ¬ (i.item = ⟨y1, y2⟩ ∧ Vec.Has i.v ⟨x1, x2⟩)) := Lib.hid (fun hne j i hj hi => by
    by_cases e : j = n
    ·subst e
     rw [HZ.out] at hi
     injection hi with hi
     subst hi
     rintro ⟨h1, h2⟩
     injection h1 with h1 h3
     exact hne ⟨h1, h3, h2⟩
    ·exact hno.out j i (by omega) hi)
   have hn0 : (0 : Int) ≤ (n : Int) := by omega
   have hn1 : (n : Int) < (k.items.length : Int) := by omega
   have hn2 : (n : Int) ≤ 99999 := by omega
   clear hz h65 hno LX
   by_cases h1 : z1 = y1
   ·by_cases h2 : z2 = y2
    ·by_cases h3 : Vec.Has zv ⟨x1, x2⟩
     ·rw [decide_eq_true h3] at VH
      have HTt : Hid (T = true) := Lib.hid (HT.out.2 (Or.inl ⟨_, List.mem_of_getElem? HZ.out, by show (⟨z1, z2⟩ : Ver.V) = _; rw [h1, h2], h3⟩))
      subst h1 h2
      clear HNo h3
      go_wp2_with fail
      refine wp_region_below (by assumption) (by kernel_rfl) ?_
      refine wq_td ?_
      simp only [zz]
      (first | (refine wq_mload (by kernel_rfl) _ (by rfl) (by rfl) V1.out ?_) | (refine wq_take (v := ?_) (by kernel_rfl) (by intro w hSw; have hXD := XD.out w hSw; go_simp; first | done | with_reducible rfl) ?_))
      simp only [zz]
      refine wq_td ?_
      simp only [zz]
      refine wq_td ?_
      simp only [zz]
      refine wq_td ?_
      simp only [zz]
      (first | (refine wq_mload (by kernel_rfl) _ (by rfl) (by rfl) V1.out ?_) | (refine wq_take (v := ?_) (by kernel_rfl) (by intro w hSw; have hXD := XD.out w hSw; go_simp; first | done | with_reducible rfl) ?_))
      simp only [zz]
      (first | (refine wq_mload (by kernel_rfl) _ (by rfl) (by rfl) V1.out ?_) | (refine wq_take (v := ?_) (by kernel_rfl) (by intro w hSw; have hXD := XD.out w hSw; go_simp; first | done | with_reducible rfl) ?_))
      simp only [zz]
      refine wq_td ?_
      simp only [zz]
      refine wq_td ?_
      simp only [zz]
      refine wq_td ?_
      simp only [zz]
      (first | (refine wq_mload (by kernel_rfl) _ (by rfl) (by rfl) V1.out ?_) | (refine wq_take (v := ?_) (by kernel_rfl) (by intro w hSw; have hXD := XD.out w hSw; go_simp; first | done | with_reducible rfl) ?_))
      simp only [zz]
      refine wq_td ?_
      simp only [zz]
      refine wq_td ?_
      simp only [zz]
      refine wq_td ?_
      simp only [zz]
      (first | (refine wq_mload (by kernel_rfl) _ (by rfl) (by rfl) V1.out ?_) | (refine wq_take (v := ?_) (by kernel_rfl) (by intro w hSw; have hXD := XD.out w hSw; go_simp; first | done | with_reducible rfl) ?_))
      simp only [zz]
      (first | (refine wq_mload (by kernel_rfl) _ (by rfl) (by rfl) V1.out ?_) | (refine wq_take (v := ?_) (by kernel_rfl) (by intro w hSw; have hXD := XD.out w hSw; go_simp; first | done | with_reducible rfl) ?_))
      simp only [zz]
      refine wq_call (by kernel_rfl) ?hent (fun w hSw => inB_calls hSw (VH.out w hSw)) ?_; (case hent => (intro w hSw; go_simp; done))
      simp only [zz]
      refine wq_td ?_
      simp only [zz]
      refine wq_nil ?_
      intro wq hq
      have HQ1 := Lib.hid hq
      clear hq
      have HE := Lib.hid (HB0.out.trans ((hb.out.trans (HQ1.out.below.mono hb.out.size)).mono HB0.out.size))
      go_wp2_with fail
      go_ret
      exact ⟨by (rw [HTt.out]) <;> rfl, HE.out⟩
     ·rw [decide_eq_false h3] at VH
      have HA := Lib.hid (HNo.out (fun h => h3 h.2.2))
      subst h1 h2
      clear HNo h3
      go_wp2_with fail
      refine wp_region_below (by assumption) (by kernel_rfl) ?_
      refine wq_td ?_
      simp only [zz]
      (first | (refine wq_mload (by kernel_rfl) _ (by rfl) (by rfl) V1.out ?_) | (refine wq_take (v := ?_) (by kernel_rfl) (by intro w hSw; have hXD := XD.out w hSw; go_simp; first | done | with_reducible rfl) ?_))
      simp only [zz]
      refine wq_td ?_
      simp only [zz]
      refine wq_td ?_
      simp only [zz]
      refine wq_td ?_
      simp only [zz]
      (first | (refine wq_mload (by kernel_rfl) _ (by rfl) (by rfl) V1.out ?_) | (refine wq_take (v := ?_) (by kernel_rfl) (by intro w hSw; have hXD := XD.out w hSw; go_simp; first | done | with_reducible rfl) ?_))
      simp only [zz]
      (first | (refine wq_mload (by kernel_rfl) _ (by rfl) (by rfl) V1.out ?_) | (refine wq_take (v := ?_) (by kernel_rfl) (by intro w hSw; have hXD := XD.out w hSw; go_simp; first | done | with_reducible rfl) ?_))
      simp only [zz]
      refine wq_td ?_
      simp only [zz]
      refine wq_td ?_
      simp only [zz]
      refine wq_td ?_
      simp only [zz]
      (first | (refine wq_mload (by kernel_rfl) _ (by rfl) (by rfl) V1.out ?_) | (refine wq_take (v := ?_) (by kernel_rfl) (by intro w hSw; have hXD := XD.out w hSw; go_simp; first | done | with_reducible rfl) ?_))
      simp only [zz]
      refine wq_td ?_
      simp only [zz]
      refine wq_td ?_
      simp only [zz]
      refine wq_td ?_
      simp only [zz]
      (first | (refine wq_mload (by kernel_rfl) _ (by rfl) (by rfl) V1.out ?_) | (refine wq_take (v := ?_) (by kernel_rfl) (by intro w hSw; have hXD := XD.out w hSw; go_simp; first | done | with_reducible rfl) ?_))
      simp only [zz]
      (first | (refine wq_mload (by kernel_rfl) _ (by rfl) (by rfl) V1.out ?_) | (refine wq_take (v := ?_) (by kernel_rfl) (by intro w hSw; have hXD := XD.out w hSw; go_simp; first | done | with_reducible rfl) ?_))
      simp only [zz]
      refine wq_call (by kernel_rfl) ?hent (fun w hSw => inB_calls hSw (VH.out w hSw)) ?_; (case hent => (intro w hSw; go_simp; done))
      simp only [zz]
      refine wq_td ?_
      simp only [zz]
      refine wq_nil ?_
      intro wq hq
      have HQ1 := Lib.hid hq
      clear hq
      have HQ := Lib.hid (hb.out.trans (HQ1.out.below.mono hb.out.size))
      go_wp2_with fail
      exact ⟨⟨n + 1, by omega, by go_num, HA, HQ⟩, by show k.items.length - ((n : Int) + 1).toNat < k.items.length - (n : Int).toNat; omega⟩
    ·have HA := Lib.hid (HNo.out (fun h => h2 h.2.1))
     subst h1
     clear HNo
     go_wp2_with fail
     refine wp_region_below (by assumption) (by kernel_rfl) ?_
     refine wq_td ?_
     simp only [zz]
     refine wq_take (v := ?_) (by kernel_rfl) (by intro w hSw; have hXD := XD.out w hSw; go_simp; first | done | with_reducible rfl) ?_
     simp only [zz]
     refine wq_td ?_
     simp only [zz]
     refine wq_td ?_
     simp only [zz]
     refine wq_td ?_
     simp only [zz]
     refine wq_take (v := ?_) (by kernel_rfl) (by intro w hSw; have hXD := XD.out w hSw; go_simp; first | done | with_reducible rfl) ?_
     simp only [zz]
     refine wq_take (v := ?_) (by kernel_rfl) (by intro w hSw; have hXD := XD.out w hSw; go_simp; first | done | with_reducible rfl) ?_
     simp only [zz]
     refine wq_td ?_
     simp only [zz]
     refine wq_td ?_
     simp only [zz]
     refine wq_skip (by kernel_rfl) ?_
     simp only [zz]
     refine wq_skip (by kernel_rfl) ?_
     simp only [zz]
     refine wq_skip (by kernel_rfl) ?_
     simp only [zz]
     refine wq_skip (by kernel_rfl) ?_
     simp only [zz]
     refine wq_skip (by kernel_rfl) ?_
     simp only [zz]
     refine wq_skip (by kernel_rfl) ?_
     simp only [zz]
     refine wq_skip (by kernel_rfl) ?_
     simp only [zz]
     refine wq_skip (by kernel_rfl) ?_
     simp only [zz]
     refine wq_td ?_
     simp only [zz]
     refine wq_nil ?_
     intro wq hq
     have HQ1 := Lib.hid hq
     clear hq
     have HQ := Lib.hid (hb.out.trans (HQ1.out.below.mono hb.out.size))
     go_wp2_with fail
     exact ⟨⟨n + 1, by omega, by go_num, HA, HQ⟩, by show k.items.length - ((n : Int) + 1).toNat < k.items.length - (n : Int).toNat; omega⟩
   ·have HA := Lib.hid (HNo.out (fun h => h1 h.1))
    clear HNo
    go_wp2_with fail
    refine wp_region_below (by assumption) (by kernel_rfl) ?_
    refine wq_td ?_
    simp only [zz]
    refine wq_take (v := ?_) (by kernel_rfl) (by intro w hSw; have hXD := XD.out w hSw; go_simp; first | done | with_reducible rfl) ?_
    simp only [zz]
    refine wq_td ?_
    simp only [zz]
    refine wq_td ?_
    simp only [zz]
    refine wq_td ?_
    simp only [zz]
    refine wq_take (v := ?_) (by kernel_rfl) (by intro w hSw; have hXD := XD.out w hSw; go_simp; first | done | with_reducible rfl) ?_
    simp only [zz]
    refine wq_take (v := ?_) (by kernel_rfl) (by intro w hSw; have hXD := XD.out w hSw; go_simp; first | done | with_reducible rfl) ?_
    simp only [zz]
    refine wq_td ?_
    simp only [zz]
    refine wq_td ?_
    simp only [zz]
    refine wq_skip (by kernel_rfl) ?_
    simp only [zz]
    refine wq_skip (by kernel_rfl) ?_
    simp only [zz]
    refine wq_skip (by kernel_rfl) ?_
    simp only [zz]
    refine wq_skip (by kernel_rfl) ?_
    simp only [zz]
    refine wq_skip (by kernel_rfl) ?_
    simp only [zz]
    refine wq_skip (by kernel_rfl) ?_
    simp only [zz]
    refine wq_skip (by kernel_rfl) ?_
    simp only [zz]
    refine wq_skip (by kernel_rfl) ?_
    simp only [zz]
    refine wq_td ?_
    simp only [zz]
    refine wq_nil ?_
    intro wq hq
    have HQ1 := Lib.hid hq
    clear hq
    have HQ := Lib.hid (hb.out.trans (HQ1.out.below.mono hb.out.size))
    go_wp2_with fail
    exact ⟨⟨n + 1, by omega, by go_num, HA, HQ⟩, by show k.items.length - ((n : Int) + 1).toNat < k.items.length - (n : Int).toNat; omega⟩
  ·obtain rfl : n = k.items.length := by omega
   have HNI : Hid (¬ Know.ByItem k.items ⟨y1, y2⟩ ⟨x1, x2⟩) := Lib.hid (fun ⟨i, hi, h⟩ => by
    obtain ⟨j, hj⟩ := List.getElem?_of_mem hi
    exact hno.out j i (List.getElem?_eq_some_iff.1 hj).1 hj h)
   clear hno
   have hw1 := Lib.hid hb.out
   go_wp2_with fail
   generalize wr = w1 at *
   go_loopw [10, 11, 12] (fun s10 s11 i wr => ∃ n : Nat, n ≤ rs.length ∧ i = .int .i64 (n : Int) ∧ Hid (∃ t : Bool, s11 = .bool t ∧ (t = true ↔ ∃ y ∈ (rs.take n).map (·.x), Know.Fits y ⟨y1, y2⟩ ⟨x1, x2⟩)) ∧ Hid (RowsOwn 87 3 clV w1 (Know.whole ((rs.take n).map (·.x)) ⟨y1, y2⟩ ⟨x1, x2⟩) s10 wr)) (fun _ _ i _ => rs.length - (intOf i).toNat)
   case atStart => exact ⟨0, Nat.zero_le _, rfl, Lib.hid ⟨false, rfl, ⟨fun h => (by cases h), fun ⟨y, hy, _⟩ => (by cases hy)⟩⟩, Lib.hid (RowsOwn.start _ _ _ _)⟩
   case round =>
    clear c0 c1 c2 c3 c4 c5
    obtain ⟨n, hn, rfl, hfd, hst⟩ := hrel
    have hbw : Hid (Below W0.heap.size W0 wr) := Lib.hid (hw1.out.trans (hst.out.2.mono hw1.out.size))
    obtain ⟨c0, c1, c2, c3, c4, c5⟩ := XC.out _ hbw.out
    by_cases hlt2 : n < rs.length
    ·obtain ⟨bk, o, cap1, e, -, -, hbk⟩ := (HR.out W0 (Below.refl _ _)).block (by omega)
     injection e with e1 e2 e3
     subst e1 e3
     clear e2
     obtain ⟨r, hr⟩ : ∃ r, rs[n]? = some r := ⟨_, List.getElem?_eq_getElem hlt2⟩
     have hrm := List.mem_of_getElem? hr
     have hr65 := (HN.out W0 (Below.refl _ _) r hrm).len
     have LR := Lib.hid (fun (W : World) (h : InB wr W) => FrAt.elem (HR.out W (hbw.out.trans (h.below.mono hbw.out.size))) hr hr65)
     obtain ⟨A1, a1, e1, -⟩ := (HN.out W0 (Below.refl _ _) r hrm).no.parts
     obtain ⟨B1, b1, g1, -⟩ := (HN.out W0 (Below.refl _ _) r hrm).f.parts
     have XD := Lib.hid (fun (W : World) (h : InB wr W) => And.intro (XC.out W (hbw.out.trans (h.below.mono hbw.out.size))) (And.intro ((LR.out W h).f.trans (congrArg some g1)) ((LR.out W h).no.trans (congrArg some e1))))
     have V1 := Lib.hid (fun (W : World) (h : InB wr W) => (LR.out W h).v)
     have VH := Lib.hid (fun (W : World) (h : InB wr W) => ref_vhasL W ⟨x1, x2⟩ hr65)
     have IH := Lib.hid (fun (W : World) (h : InB wr W) => ref_ihas (w := W) ⟨y1, y2⟩ (e1 ▸ (HN.out W (hbw.out.trans (h.below.mono hbw.out.size)) r hrm).no) (Nat.le_trans (HBd.out r hrm).no (by decide)))
     have EQ := Lib.hid (fun (W : World) (h : InB wr W) => ref_fequal (g1 ▸ (HN.out W (hbw.out.trans (h.below.mono hbw.out.size)) r hrm).f) (HU.out W (hbw.out.trans (h.below.mono hbw.out.size))) (Nat.le_trans (HBd.out r hrm).f (by decide)) (Nat.le_trans HL.out (by decide)))
     have ZF := Lib.hid (fun (W : World) (h : InB wr W) => (g1 ▸ (HN.out W (hbw.out.trans (h.below.mono hbw.out.size)) r hrm).f : Cls W F (.slice B1 r.x.f.length b1) r.x.f))
     have hTk : Hid ((rs.take (n + 1)).map (·.x) = (rs.take n).map (·.x) ++ [r.x]) := Lib.hid (by
      obtain ⟨hh, e⟩ := List.getElem?_eq_some_iff.1 hr
      rw [List.take_succ_eq_append_getElem hh, e, List.map_append]; rfl)
     have HNo : Hid (¬ Know.Fits r.x ⟨y1, y2⟩ ⟨x1, x2⟩ → Know.whole ((rs.take (n + 1)).map (·.x)) ⟨y1, y2⟩ ⟨x1, x2⟩ = Know.whole ((rs.take n).map (·.x)) ⟨y1, y2⟩ ⟨x1, x2⟩ ∧ ((∃ y ∈ (rs.take (n + 1)).map (·.x), Know.Fits y ⟨y1, y2⟩ ⟨x1, x2⟩) ↔ ∃ y ∈ (rs.take n).map (·.x), Know.Fits y ⟨y1, y2⟩ ⟨x1, x2⟩)) := Lib.hid (fun hnf => by
      rw [hTk.out, Know.whole_more, if_neg hnf, List.append_nil]
      refine ⟨rfl, ⟨?_, ?_⟩⟩
      ·rintro ⟨y, hy, hf⟩
       rcases List.mem_append.1 hy with hy | hy
       ·exact ⟨y, hy, hf⟩
       ·rw [List.mem_singleton.1 hy] at hf; exact absurd hf hnf
      ·rintro ⟨y, hy, hf⟩
       exact ⟨y, List.mem_append_left _ hy, hf⟩)
     have hrx : Hid (r.x ∈ k.frags) := Lib.hid (by rw [← HX.out]; exact List.mem_map.2 ⟨r, hrm, rfl⟩)
     have HM1 := Lib.hid (HMn.out (n + 1))
     have hn0 : (0 : Int) ≤ (n : Int) := by omega
     have hn1 : (n : Int) < (rs.length : Int) := by omega
     have hn2 : (n : Int) ≤ 99999 := by omega
     clear hr hrm hr65 LR e1 g1
     obtain ⟨t, rfl, hft⟩ := hfd.out
     have HFt := Lib.hid hft
     clear hfd hft
     by_cases h0 : r.x.f = []
     ·have HA := Lib.hid (HNo.out (fun h => h.1 h0))
      have g0 : decide (0 < r.x.f.length) = false := by rw [h0]; rfl
      have g5 : decide ((0 : Int) < (r.x.f.length : Int)) = false := by rw [h0]; rfl
      clear h0
      go_wp2_with fail
      refine wp_region_below (by assumption) (by kernel_rfl) ?_
      refine wq_td ?_
      simp only [zz]
      refine wq_take (v := ?_) (by kernel_rfl) (by intro w hSw; have hXD := XD.out w hSw; go_simp; first | done | with_reducible rfl) ?_
      simp only [zz]
      refine wq_td ?_
      simp only [zz]
      refine wq_td ?_
      simp only [zz]
      refine wq_td ?_
      simp only [zz]
      refine wq_take (v := ?_) (by kernel_rfl) (by intro w hSw; have hXD := XD.out w hSw; go_simp; first | done | with_reducible rfl) ?_
      simp only [zz]
      refine wq_td ?_
      simp only [zz]
      refine wq_td ?_
      simp only [zz]
      refine wq_td ?_
      simp only [zz]
      refine wq_skip (by kernel_rfl) ?_
      simp only [zz]
      refine wq_skip (by kernel_rfl) ?_
      simp only [zz]
      refine wq_skip (by kernel_rfl) ?_
      simp only [zz]
      refine wq_skip (by kernel_rfl) ?_
      simp only [zz]
      refine wq_skip (by kernel_rfl) ?_
      simp only [zz]
      refine wq_skip (by kernel_rfl) ?_
      simp only [zz]
      refine wq_skip (by kernel_rfl) ?_
      simp only [zz]
      refine wq_skip (by kernel_rfl) ?_
      simp only [zz]
      refine wq_td ?_
      simp only [zz]
      refine wq_td ?_
      simp only [zz]
      refine wq_skip (by kernel_rfl) ?_
      simp only [zz]
      refine wq_skip (by kernel_rfl) ?_
      simp only [zz]
      refine wq_skip (by kernel_rfl) ?_
      simp only [zz]
      refine wq_skip (by kernel_rfl) ?_
      simp only [zz]
      refine wq_skip (by kernel_rfl) ?_
      simp only [zz]
      refine wq_skip (by kernel_rfl) ?_
      simp only [zz]
      refine wq_skip (by kernel_rfl) ?_
      simp only [zz]
      refine wq_skip (by kernel_rfl) ?_
      simp only [zz]
      refine wq_skip (by kernel_rfl) ?_
      simp only [zz]
      refine wq_td ?_
      simp only [zz]
      refine wq_nil ?_
      intro wq hq
      have HQ1 := Lib.hid hq
      clear hq
      have HO : Hid (RowsOwn 87 3 clV w1 (Know.whole ((rs.take (n + 1)).map (·.x)) ⟨y1, y2⟩ ⟨x1, x2⟩) _ wq) := Lib.hid (by rw [HA.out.1]; exact hst.out.below HQ1.out.below)
      have HF2 : Hid (∃ t' : Bool, Value.bool t = .bool t' ∧ (t' = true ↔ ∃ y ∈ (rs.take (n + 1)).map (·.x), Know.Fits y ⟨y1, y2⟩ ⟨x1, x2⟩)) := Lib.hid ⟨t, rfl, by rw [HA.out.2]; exact HFt.out⟩
      go_wp2_with fail
      exact ⟨⟨n + 1, by omega, by go_num, HF2, HO⟩, by show rs.length - ((n : Int) + 1).toNat < rs.length - (n : Int).toNat; omega⟩
     ·have g0 : decide (0 < r.x.f.length) = true := decide_eq_true (List.length_pos_iff.2 h0)
      by_cases h3 : Vec.Has r.x.v ⟨x1, x2⟩
      ·rw [decide_eq_true h3] at VH
       by_cases h4 : (⟨y1, y2⟩ : Ver.V) ∈ r.x.no
       ·rw [decide_eq_true h4] at IH
        have HA := Lib.hid (HNo.out (fun h => h.2.2 h4))
        clear h0 h3 h4
        go_wp2_with fail
        refine wp_region_below (by assumption) (by kernel_rfl) ?_
        refine wq_td ?_
        simp only [zz]
        (first | (refine wq_mload (by kernel_rfl) _ (by rfl) (by rfl) V1.out ?_) | (refine wq_take (v := ?_) (by kernel_rfl) (by intro w hSw; have hXD := XD.out w hSw; go_simp; first | done | with_reducible rfl) ?_))
        simp only [zz]
        refine wq_td ?_
        simp only [zz]
        refine wq_td ?_
        simp only [zz]
        refine wq_td ?_
        simp only [zz]
        (first | (refine wq_mload (by kernel_rfl) _ (by rfl) (by rfl) V1.out ?_) | (refine wq_take (v := ?_) (by kernel_rfl) (by intro w hSw; have hXD := XD.out w hSw; go_simp; first | done | with_reducible rfl) ?_))
        simp only [zz]
        refine wq_td ?_
        simp only [zz]
        refine wq_td ?_
        simp only [zz]
        refine wq_td ?_
        simp only [zz]
        refine wq_td ?_
        simp only [zz]
        (first | (refine wq_mload (by kernel_rfl) _ (by rfl) (by rfl) V1.out ?_) | (refine wq_take (v := ?_) (by kernel_rfl) (by intro w hSw; have hXD := XD.out w hSw; go_simp; first | done | with_reducible rfl) ?_))
        simp only [zz]
        refine wq_td ?_
        simp only [zz]
        refine wq_td ?_
        simp only [zz]
        refine wq_td ?_
        simp only [zz]
        (first | (refine wq_mload (by kernel_rfl) _ (by rfl) (by rfl) V1.out ?_) | (refine wq_take (v := ?_) (by kernel_rfl) (by intro w hSw; have hXD := XD.out w hSw; go_simp; first | done | with_reducible rfl) ?_))
        simp only [zz]
        (first | (refine wq_mload (by kernel_rfl) _ (by rfl) (by rfl) V1.out ?_) | (refine wq_take (v := ?_) (by kernel_rfl) (by intro w hSw; have hXD := XD.out w hSw; go_simp; first | done | with_reducible rfl) ?_))
        simp only [zz]
        (first | (refine wq_call (by kernel_rfl) ?hent (fun w hSw => inB_laid hSw (IH.out w hSw)) ?_; (case hent => (intro w hSw; go_simp; done))) | (refine wq_call (by kernel_rfl) ?hent (fun w hSw => inB_calls hSw (VH.out w hSw)) ?_; (case hent => (intro w hSw; go_simp; done))))
        simp only [zz]
        refine wq_td ?_
        simp only [zz]
        refine wq_td ?_
        simp only [zz]
        refine wq_td ?_
        simp only [zz]
        (first | (refine wq_mload (by kernel_rfl) _ (by rfl) (by rfl) V1.out ?_) | (refine wq_take (v := ?_) (by kernel_rfl) (by intro w hSw; have hXD := XD.out w hSw; go_simp; first | done | with_reducible rfl) ?_))
        simp only [zz]
        refine wq_td ?_
        simp only [zz]
        refine wq_td ?_
        simp only [zz]
        refine wq_td ?_
        simp only [zz]
        (first | (refine wq_mload (by kernel_rfl) _ (by rfl) (by rfl) V1.out ?_) | (refine wq_take (v := ?_) (by kernel_rfl) (by intro w hSw; have hXD := XD.out w hSw; go_simp; first | done | with_reducible rfl) ?_))
        simp only [zz]
        (first | (refine wq_mload (by kernel_rfl) _ (by rfl) (by rfl) V1.out ?_) | (refine wq_take (v := ?_) (by kernel_rfl) (by intro w hSw; have hXD := XD.out w hSw; go_simp; first | done | with_reducible rfl) ?_))
        simp only [zz]
        (first | (refine wq_call (by kernel_rfl) ?hent (fun w hSw => inB_laid hSw (IH.out w hSw)) ?_; (case hent => (intro w hSw; go_simp; done))) | (refine wq_call (by kernel_rfl) ?hent (fun w hSw => inB_calls hSw (VH.out w hSw)) ?_; (case hent => (intro w hSw; go_simp; done))))
        simp only [zz]
        refine wq_td ?_
        simp only [zz]
        refine wq_td ?_
        simp only [zz]
        refine wq_nil ?_
        intro wq hq
        have HQ1 := Lib.hid hq
        clear hq
        have HO : Hid (RowsOwn 87 3 clV w1 (Know.whole ((rs.take (n + 1)).map (·.x)) ⟨y1, y2⟩ ⟨x1, x2⟩) _ wq) := Lib.hid (by rw [HA.out.1]; exact hst.out.below HQ1.out.below)
        have HF2 : Hid (∃ t' : Bool, Value.bool t = .bool t' ∧ (t' = true ↔ ∃ y ∈ (rs.take (n + 1)).map (·.x), Know.Fits y ⟨y1, y2⟩ ⟨x1, x2⟩)) := Lib.hid ⟨t, rfl, by rw [HA.out.2]; exact HFt.out⟩
        go_wp2_with fail
        exact ⟨⟨n + 1, by omega, by go_num, HF2, HO⟩, by show rs.length - ((n : Int) + 1).toNat < rs.length - (n : Int).toNat; omega⟩
       ·rw [decide_eq_false h4] at IH
        have HFit : Hid (Know.Fits r.x ⟨y1, y2⟩ ⟨x1, x2⟩) := Lib.hid ⟨h0, h3, h4⟩
        clear h0 h3 h4
        go_wp2_with fail
        refine wp_region_below (by assumption) (by kernel_rfl) ?_
        refine wq_td ?_
        simp only [zz]
        (first | (refine wq_mload (by kernel_rfl) _ (by rfl) (by rfl) V1.out ?_) | (refine wq_take (v := ?_) (by kernel_rfl) (by intro w hSw; have hXD := XD.out w hSw; go_simp; first | done | with_reducible rfl) ?_))
        simp only [zz]
        refine wq_td ?_
        simp only [zz]
        refine wq_td ?_
        simp only [zz]
        refine wq_td ?_
        simp only [zz]
        (first | (refine wq_mload (by kernel_rfl) _ (by rfl) (by rfl) V1.out ?_) | (refine wq_take (v := ?_) (by kernel_rfl) (by intro w hSw; have hXD := XD.out w hSw; go_simp; first | done | with_reducible rfl) ?_))
        simp only [zz]
        refine wq_td ?_
        simp only [zz]
        refine wq_td ?_
        simp only [zz]
        refine wq_td ?_
        simp only [zz]
        refine wq_td ?_
        simp only [zz]
        (first | (refine wq_mload (by kernel_rfl) _ (by rfl) (by rfl) V1.out ?_) | (refine wq_take (v := ?_) (by kernel_rfl) (by intro w hSw; have hXD := XD.out w hSw; go_simp; first | done | with_reducible rfl) ?_))
        simp only [zz]
        refine wq_td ?_
        simp only [zz]
        refine wq_td ?_
        simp only [zz]
        refine wq_td ?_
        simp only [zz]
        (first | (refine wq_mload (by kernel_rfl) _ (by rfl) (by rfl) V1.out ?_) | (refine wq_take (v := ?_) (by kernel_rfl) (by intro w hSw; have hXD := XD.out w hSw; go_simp; first | done | with_reducible rfl) ?_))
        simp only [zz]
        (first | (refine wq_mload (by kernel_rfl) _ (by rfl) (by rfl) V1.out ?_) | (refine wq_take (v := ?_) (by kernel_rfl) (by intro w hSw; have hXD := XD.out w hSw; go_simp; first | done | with_reducible rfl) ?_))
        simp only [zz]
        (first | (refine wq_call (by kernel_rfl) ?hent (fun w hSw => inB_laid hSw (IH.out w hSw)) ?_; (case hent => (intro w hSw; go_simp; done))) | (refine wq_call (by kernel_rfl) ?hent (fun w hSw => inB_calls hSw (VH.out w hSw)) ?_; (case hent => (intro w hSw; go_simp; done))))
        simp only [zz]
        refine wq_td ?_
        simp only [zz]
        refine wq_td ?_
        simp only [zz]
        refine wq_td ?_
        simp only [zz]
        (first | (refine wq_mload (by kernel_rfl) _ (by rfl) (by rfl) V1.out ?_) | (refine wq_take (v := ?_) (by kernel_rfl) (by intro w hSw; have hXD := XD.out w hSw; go_simp; first | done | with_reducible rfl) ?_))
        simp only [zz]
        refine wq_td ?_
        simp only [zz]
        refine wq_td ?_
        simp only [zz]
        refine wq_td ?_
        simp only [zz]
        (first | (refine wq_mload (by kernel_rfl) _ (by rfl) (by rfl) V1.out ?_) | (refine wq_take (v := ?_) (by kernel_rfl) (by intro w hSw; have hXD := XD.out w hSw; go_simp; first | done | with_reducible rfl) ?_))
        simp only [zz]
        (first | (refine wq_mload (by kernel_rfl) _ (by rfl) (by rfl) V1.out ?_) | (refine wq_take (v := ?_) (by kernel_rfl) (by intro w hSw; have hXD := XD.out w hSw; go_simp; first | done | with_reducible rfl) ?_))
        simp only [zz]
        (first | (refine wq_call (by kernel_rfl) ?hent (fun w hSw => inB_laid hSw (IH.out w hSw)) ?_; (case hent => (intro w hSw; go_simp; done))) | (refine wq_call (by kernel_rfl) ?hent (fun w hSw => inB_calls hSw (VH.out w hSw)) ?_; (case hent => (intro w hSw; go_simp; done))))
        simp only [zz]
        refine wq_td ?_
        simp only [zz]
        refine wq_td ?_
        simp only [zz]
        refine wq_nil ?_
        intro wq hq
        have HQ1 := Lib.hid hq
        clear hq
        obtain ⟨⟨c0, -⟩, c6, -⟩ := XD.out _ HQ1.out
        have EQ1 := Lib.hid (EQ.out _ HQ1.out)
        by_cases h5 : r.x.f = f
        ·rw [decide_eq_true h5] at EQ1
         have HTt : Hid (T = true) := Lib.hid (HT.out.2 (Or.inr (Know.whole_self hrx.out HFit.out h5)))
         clear h5
         go_wp2_with fail
         refine (EQ1.out).mono ?_
         rintro e w9 ⟨rfl, h9⟩
         have HE := Lib.hid (HB0.out.trans ((hbw.out.trans ((HQ1.out.below.trans (h9.mono HQ1.out.below.size)).mono hbw.out.size)).mono HB0.out.size))
         clear h9 c0 c6
         go_wp2_with fail
         go_ret
         exact ⟨by (rw [HTt.out]) <;> rfl, HE.out⟩
        ·rw [decide_eq_false h5] at EQ1
         clear h5
         go_wp2_with fail
         refine (EQ1.out).mono ?_
         rintro e w9 ⟨rfl, h9⟩
         have HQ9 := Lib.hid (InB.trans HQ1.out h9)
         clear h9 c0 c6
         obtain ⟨⟨c0, -⟩, c6, -⟩ := XD.out _ HQ9.out
         have HO9 := Lib.hid (hst.out.below HQ9.out.below)
         have OF := HO9.out.1
         have ZF9 := ZF.out _ HQ9.out
         have hws := HO9.out.2.size
         have HNx : Hid (Know.whole ((rs.take (n + 1)).map (·.x)) ⟨y1, y2⟩ ⟨x1, x2⟩ = Know.whole ((rs.take n).map (·.x)) ⟨y1, y2⟩ ⟨x1, x2⟩ ++ r.x.f) := Lib.hid (by rw [hTk.out, Know.whole_more, if_pos HFit.out])
         have Hbd : Hid ((Know.whole ((rs.take n).map (·.x)) ⟨y1, y2⟩ ⟨x1, x2⟩).length + r.x.f.length ≤ 1000000) := Lib.hid (by
          have h1 := HM1.out
          rw [HNx.out, List.length_append] at h1
          exact h1)
         have HF2 : Hid (∃ t' : Bool, Value.bool true = .bool t' ∧ (t' = true ↔ ∃ y ∈ (rs.take (n + 1)).map (·.x), Know.Fits y ⟨y1, y2⟩ ⟨x1, x2⟩)) := Lib.hid ⟨true, rfl, ⟨fun _ => ⟨r.x, by rw [hTk.out]; exact List.mem_append_right _ (List.mem_singleton.2 rfl), HFit.out⟩, fun _ => rfl⟩⟩
         generalize hWH : Know.whole ((rs.take n).map (·.x)) ⟨y1, y2⟩ ⟨x1, x2⟩ = WH at *
         clear hWH
         go_wp2_with (at_builtin; (refine wp_joins (f := clV) (k := 3) rfl _ _ 26 rfl w1.heap.size 87 i0 (.agg #[.string ⟨#[]⟩, .int .i64 0, .int .i64 0]) 32 Tryz.underlying26 hi0 hz0 hz1 hz2 rfl (by decide) rfl rfl OF ZF9 (fun _ _ => rfl) (fun x _ => cl_one x) ?d3 ?d4 ?d5 ?_))
         try (case d3 => (have h1 := Hbd.out; unfold maxLen; omega))
         try (case d4 => (have h1 := Hbd.out; omega))
         try (case d5 => exact hws)
         intro v3 w4 own4 hg4 hn4
         have M4 := HO9.out.rest hg4 own4
         have H4 : Hid (RowsOwn 87 3 clV w1 (Know.whole ((rs.take (n + 1)).map (·.x)) ⟨y1, y2⟩ ⟨x1, x2⟩) v3 w4) := Lib.hid (by rw [HNx.out]; exact M4)
         clear own4 hg4 hn4 M4 OF ZF9 c0 c6
         go_wp2_with fail
         exact ⟨⟨n + 1, by omega, by go_num, HF2, H4⟩, by show rs.length - ((n : Int) + 1).toNat < rs.length - (n : Int).toNat; omega⟩
      ·rw [decide_eq_false h3] at VH
       have HA := Lib.hid (HNo.out (fun h => h3 h.2.1))
       clear h0 h3
       go_wp2_with fail
       refine wp_region_below (by assumption) (by kernel_rfl) ?_
       refine wq_td ?_
       simp only [zz]
       (first | (refine wq_mload (by kernel_rfl) _ (by rfl) (by rfl) V1.out ?_) | (refine wq_take (v := ?_) (by kernel_rfl) (by intro w hSw; have hXD := XD.out w hSw; go_simp; first | done | with_reducible rfl) ?_))
       simp only [zz]
       refine wq_td ?_
       simp only [zz]
       refine wq_td ?_
       simp only [zz]
       refine wq_td ?_
       simp only [zz]
       (first | (refine wq_mload (by kernel_rfl) _ (by rfl) (by rfl) V1.out ?_) | (refine wq_take (v := ?_) (by kernel_rfl) (by intro w hSw; have hXD := XD.out w hSw; go_simp; first | done | with_reducible rfl) ?_))
       simp only [zz]
       refine wq_td ?_
       simp only [zz]
       refine wq_td ?_
       simp only [zz]
       refine wq_td ?_
       simp only [zz]
       refine wq_td ?_
       simp only [zz]
       (first | (refine wq_mload (by kernel_rfl) _ (by rfl) (by rfl) V1.out ?_) | (refine wq_take (v := ?_) (by kernel_rfl) (by intro w hSw; have hXD := XD.out w hSw; go_simp; first | done | with_reducible rfl) ?_))
       simp only [zz]
       refine wq_td ?_
       simp only [zz]
       refine wq_td ?_
       simp only [zz]
       refine wq_td ?_
       simp only [zz]
       (first | (refine wq_mload (by kernel_rfl) _ (by rfl) (by rfl) V1.out ?_) | (refine wq_take (v := ?_) (by kernel_rfl) (by intro w hSw; have hXD := XD.out w hSw; go_simp; first | done | with_reducible rfl) ?_))
       simp only [zz]
       (first | (refine wq_mload (by kernel_rfl) _ (by rfl) (by rfl) V1.out ?_) | (refine wq_take (v := ?_) (by kernel_rfl) (by intro w hSw; have hXD := XD.out w hSw; go_simp; first | done | with_reducible rfl) ?_))
       simp only [zz]
       refine wq_call (by kernel_rfl) ?hent (fun w hSw => inB_calls hSw (VH.out w hSw)) ?_; (case hent => (intro w hSw; go_simp; done))
       simp only [zz]
       refine wq_td ?_
       simp only [zz]
       refine wq_td ?_
       simp only [zz]
       refine wq_skip (by kernel_rfl) ?_
       simp only [zz]
       refine wq_skip (by kernel_rfl) ?_
       simp only [zz]
       refine wq_skip (by kernel_rfl) ?_
       simp only [zz]
       refine wq_skip (by kernel_rfl) ?_
       simp only [zz]
       refine wq_skip (by kernel_rfl) ?_
       simp only [zz]
       refine wq_skip (by kernel_rfl) ?_
       simp only [zz]
       refine wq_skip (by kernel_rfl) ?_
       simp only [zz]
       refine wq_skip (by kernel_rfl) ?_
       simp only [zz]
       refine wq_skip (by kernel_rfl) ?_
       simp only [zz]
       refine wq_td ?_
       simp only [zz]
       refine wq_nil ?_
       intro wq hq
       have HQ1 := Lib.hid hq
       clear hq
       have HO : Hid (RowsOwn 87 3 clV w1 (Know.whole ((rs.take (n + 1)).map (·.x)) ⟨y1, y2⟩ ⟨x1, x2⟩) _ wq) := Lib.hid (by rw [HA.out.1]; exact hst.out.below HQ1.out.below)
       have HF2 : Hid (∃ t' : Bool, Value.bool t = .bool t' ∧ (t' = true ↔ ∃ y ∈ (rs.take (n + 1)).map (·.x), Know.Fits y ⟨y1, y2⟩ ⟨x1, x2⟩)) := Lib.hid ⟨t, rfl, by rw [HA.out.2]; exact HFt.out⟩
       go_wp2_with fail
       exact ⟨⟨n + 1, by omega, by go_num, HF2, HO⟩, by show rs.length - ((n : Int) + 1).toNat < rs.length - (n : Int).toNat; omega⟩
    ·obtain rfl : n = rs.length := by omega
     obtain ⟨t, rfl, hft⟩ := hfd.out
     rw [List.take_length, HX.out] at hft
     have hO := hst.out
     rw [List.take_length, HX.out] at hO
     have CS1 := Lib.hid (CS.out wr _ _ hbw.out (hO.rows (fun _ _ => rfl)))
     have HBe := Lib.hid (HB0.out.trans (hbw.out.mono HB0.out.size))
     clear hO hst hfd
     cases t
     ·have HF : Hid (T = false) := Lib.hid (by
       cases T with
       | false => rfl
       | true =>
        rcases HT.out.1 rfl with h | h
        ·exact absurd h HNI.out
        ·have := hft.2 h.1; cases this)
      clear hft CS1
      go_wp2_with fail
      go_ret
      exact ⟨by (rw [HF.out]) <;> rfl, HBe.out⟩
     ·have HF : Hid (decide (Cov.Subs (Know.whole k.frags ⟨y1, y2⟩ ⟨x1, x2⟩) f) = T) := Lib.hid (by
       rw [Bool.eq_iff_iff, decide_eq_true_iff, HT.out]
       constructor
       ·intro h; exact Or.inr ⟨hft.1 rfl, h⟩
       ·rintro (h | h)
        ·exact absurd h HNI.out
        ·exact h.2)
      rw [HF.out] at CS1
      clear hft
      go_wp2_with fail
      refine (CS1.out).mono ?_
      rintro e w9 ⟨rfl, h9⟩
      have HE := Lib.hid (HBe.out.trans (h9.mono HBe.out.size))
      clear h9
      go_wp2_with fail
      go_ret
      exact ⟨rfl, HE.out⟩
end Go.Proofs.YtkcgmnhjofoeiaaGreat
