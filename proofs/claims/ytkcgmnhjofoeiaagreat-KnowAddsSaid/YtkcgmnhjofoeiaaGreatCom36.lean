import Derived.Test.YtkcgmnhjofoeiaaGreatCom35
import Derived.Test.YtkcgmnhjofoeiaaGreatCom4
import Derived.Test.YtkcgmnhjofoeiaaGreatCom24
import Derived.Test.YtkcgmnhjofoeiaaGreatCom14
import Derived.Shelf.Spec.SlicesGrow
set_option maxRecDepth 100000
set_option linter.all false
set_option maxHeartbeats 12800000
namespace Go.Proofs.YtkcgmnhjofoeiaaGreat
open Go.RowKit
theorem cov_parts (Z : FilterOk) (ZS : SizesOk) {w : World} {F G : Nat → Prop} {u v : Value} {f g : List Flt.Cl} (hf : Cls w F u f) (hg : Cls w G v g) (okf : Cov.Ok f) (okg : Cov.Ok g) {k fn : Nat} (hk : (k = 2 ∧ fn = 92) ∨ (k = 1 ∧ fn = 82)) :
  Calls Tryz.prog 81 #[u, v, .func (.func fn) #[] #[]] w fun e w' => ∃ v', e = .returned v' ∧ RowsOwn 87 3 clV w (Cov.parts k f g) v' w' := by
 obtain ⟨i0, hi0, hz0, hzz1, hz2⟩ := info_parts clauseInfo
 have SZ := Lib.hid (cov_sizer Z hg okg.1 okg.2.1 okg.2.2)
 have NF := Lib.hid (fun (W : World) (hW : Below w.heap.size w W) => Z.norm (hf.below hW) okf.1 okf.2.1 okf.2.2)
 have hk12 : k = 1 ∨ k = 2 := by rcases hk with h | h; exact Or.inr h.1; exact Or.inl h.1
 have LV : Hid (∀ (c : Flt.Cl) (X : List Sz.Rg), c ∈ Flt.norm f → Cov.Ups (Flt.norm g) c.pre [] X → ∀ (P Q : Nat → Prop) (W : World) (x y : Value), Rgs W P x [Flt.rg c] → Rgs W Q y X → Calls Tryz.prog fn #[x, y] W fun e w' => ∃ v', e = .returned v' ∧ Rgs w' (NewIn W w') v' (Sz.two k [Flt.rg c] (Flt.sizes g c.pre)) ∧ Below W.heap.size W w') :=
  Lib.hid (fun c X hc hX P Q W x y hx hy => by
   have hr := Flt.norm_right okf.2.1 c hc
   have hs : ∀ n, Sz.holds X n = Sz.holds (Flt.sizes g c.pre) n := fun n => (Cov.ups_end hX n).trans (Flt.norm_alike g c.pre n)
   have e : Sz.two k [Flt.rg c] X = Sz.two k [Flt.rg c] (Flt.sizes g c.pre) := Flt.two_same (fun _ => rfl) hs
   have hXl : X.length ≤ 100000 := by have h1 := hX.2.1; have h2 := Cov.pre_small hr; omega
   have hXb : ∀ r ∈ X, Bd r := fun r hr => by have := hX.2.2.1 r hr; unfold Bd; omega
   have h1b : ∀ r ∈ [Flt.rg c], Bd r := fun r h => by rw [List.mem_singleton.1 h]; exact Flt.right_bd hr
   rw [← e]
   rcases hk with ⟨rfl, rfl⟩ | ⟨rfl, rfl⟩
   ·exact ZS.minus hx hy (by simp) hXl h1b hXb
   ·exact ZS.meet hx hy (by simp) hXl h1b hXb)
 have hnn := Flt.norm_len f
 have hpf := Flt.prefixes_len f
 have hlf := okf.1
 have HL : Hid ((Flt.norm f).length ≤ 20200000) := Lib.hid (by omega)
 have HPS : Hid (∀ c ∈ Flt.norm f, c.pre.length ≤ 100000) := Lib.hid (fun c hc => by have := Cov.pre_small (Flt.norm_right okf.2.1 c hc); omega)
 have HPT : Hid (∀ n, (Cov.partsTo k f g n).length ≤ 20100000) := Lib.hid (fun n => by have := Cov.partsTo_len hk12 f g n; omega)
 have MORE : Hid (∀ {n : Nat} {c : Flt.Cl}, (Flt.norm f)[n]? = some c → Cov.partsTo k f g (n + 1) = Cov.partsTo k f g n ++ Cov.leaf k g c) := Lib.hid (fun h => Cov.partsTo_more h)
 have ALL := Lib.hid (Cov.partsTo_all k f g)
 have hZ : Hid (Cov.partsTo k f g 0 = []) := Lib.hid rfl
 have ONL := Lib.hid (Cov.own_norm_len g)
 have ONB := Lib.hid (Cov.norm_bd (f := g))
 have hfn : fn = 92 ∨ fn = 82 := by rcases hk with h | h; exact Or.inl h.2; exact Or.inr h.2
 have LEAF : Hid (∀ c : Flt.Cl, Cov.leaf k g c = Flt.clauses c.pre (Sz.two k [Flt.rg c] (Flt.sizes g c.pre))) := Lib.hid (fun _ => rfl)
 clear hf hg okf okg hk hk12 hnn hpf hlf
 generalize Cov.partsTo k f g = PT at *
 generalize hPP : Cov.parts k f g = PP at *
 clear hPP
 generalize Cov.leaf k g = LE at *
 generalize Flt.norm f = L at *
 generalize Flt.norm g = NG at *
 rcases hfn with rfl | rfl
 all_goals
  go_enter Tryz.func81, Tryz.ntmps81
  go_wp2_with fail
  refine (SZ.out).mono ?_
  rintro e w1 ⟨B, bm, nn, mm, rfl, hcB, hBl, hm, hv, hb1⟩
  have TE1 : Hid (∀ W, Below w1.heap.size w1 W → ∀ p : List UInt8, p.length ≤ 100000 → Calls Tryz.prog 125 #[.string (mk p), .pointer (some ⟨B, 0, none⟩)] W fun e w' => ∃ v X, e = .returned v ∧ RowsOwn 85 2 rgV W X v w' ∧ Cov.Ups NG p [] X) :=
   Lib.hid (fun W hW p hp => cov_tell (hm.below hW) ((hW.cell (p := ⟨B, 0, none⟩) hBl).trans hcB) (Nat.lt_of_lt_of_le hBl hW.size) (fun q => (hv q).below hW) ONL.out ONB.out p hp)
  have Hb1 := Lib.hid hb1
  clear hcB hBl hm hv hb1 SZ
  go_wp2_with fail
  refine (NF.out _ Hb1.out).mono ?_
  rintro e w2 ⟨pv, rfl, hpv, hb2⟩
  have HP := Lib.hid hpv
  have Hb2 := Lib.hid (Hb1.out.trans (hb2.mono Hb1.out.size))
  have TE : Hid (∀ W, Below w2.heap.size w2 W → ∀ p : List UInt8, p.length ≤ 100000 → Calls Tryz.prog 125 #[.string (mk p), .pointer (some ⟨B, 0, none⟩)] W fun e w' => ∃ v X, e = .returned v ∧ RowsOwn 85 2 rgV W X v w' ∧ Cov.Ups NG p [] X) := Lib.hid (fun W hW p hp => TE1.out W (hb2.trans (hW.mono hb2.size)) p hp)
  clear hpv hb2 NF TE1
  obtain ⟨PA, pc, rfl, hpc⟩ := HP.out.parts
  have hpl' : (L.length : Int) ≤ 20200000 := by have := HL.out; omega
  go_wp2_with fail
  go_loopw [8, 10, 12, 18] (fun out _ _ i wr => ∃ n : Nat, n ≤ L.length ∧ i = .int .i64 (n : Int) ∧ RowsOwn 87 3 clV w2 (PT n) out wr) (fun _ _ _ i _ => L.length - (intOf i).toNat)
  case atStart => exact ⟨0, Nat.zero_le _, rfl, by rw [hZ.out]; exact RowsOwn.start _ _ _ w2⟩
  case round =>
   obtain ⟨n, hn, rfl, hown⟩ := hrel
   obtain ⟨w7, rfl⟩ : ∃ W : World, W = wr := ⟨_, rfl⟩
   by_cases hlt : n < L.length
   ·obtain ⟨pb, po, pc', e, -, -, hpb⟩ := HP.out.block (by omega)
    injection e with e1 e2 e3
    subst e1 e3
    clear e2
    obtain ⟨c, hp⟩ : ∃ c, L[n]? = some c := ⟨_, List.getElem?_eq_getElem hlt⟩
    have hpp := HPS.out c (List.mem_of_getElem? hp)
    have hn0 : (0 : Int) ≤ (n : Int) := by omega
    have hn1 : (n : Int) < (L.length : Int) := by omega
    obtain ⟨d0, d1, d2⟩ := Cls.at (HP.out.below hown.2) hp
    have hmore : Hid (PT (n + 1) = PT n ++ Flt.clauses c.pre (Sz.two k [Flt.rg c] (Flt.sizes g c.pre))) := Lib.hid ((MORE.out hp).trans (by rw [LEAF.out]))
    have hnl := Lib.hid (HPT.out n)
    have LVc := Lib.hid (fun X hX => LV.out c X (List.mem_of_getElem? hp) hX)
    have hql : Hid ((Sz.two k [Flt.rg c] (Flt.sizes g c.pre)).length ≤ 202) := Lib.hid (two_bd k _ _).2
    have TEp := Lib.hid (fun W hW => TE.out W hW c.pre hpp)
    have hba : Below w7.heap.size w7 (w7.alloc (.cells #[.string (mk c.pre), .int .i64 c.lo, .int .i64 c.hi] 87)) := (Below.refl _ _).alloc (Nat.le_refl _) _
    have HX := Row.made w7 87 #[.string (mk c.pre), .int .i64 c.lo, .int .i64 c.hi]
    have hzx : w7.heap.size < (w7.alloc (.cells #[.string (mk c.pre), .int .i64 c.lo, .int .i64 c.hi] 87)).heap.size := by simp
    have HownX := Lib.hid (hown.below hba)
    have hob7 : Hid (∀ g, u8.ownBlock = some g → g < w7.heap.size) := Lib.hid (fun g hg => (hown.1.lt g hg).2)
    have Hzx := Lib.hid hzx
    have CX : Hid (∀ W, Below (w7.alloc (.cells #[.string (mk c.pre), .int .i64 c.lo, .int .i64 c.hi] 87)).heap.size (w7.alloc (.cells #[.string (mk c.pre), .int .i64 c.lo, .int .i64 c.hi] 87)) W → W.cell? ⟨w7.heap.size, 0, none⟩ = some (.string (mk c.pre)) ∧ W.cell? ⟨w7.heap.size, 1, none⟩ = some (.int .i64 c.lo) ∧ W.cell? ⟨w7.heap.size, 2, none⟩ = some (.int .i64 c.hi)) := Lib.hid (fun W hW => ⟨(hW.cell (p := ⟨w7.heap.size, 0, none⟩) hzx).trans (HX.at 0), (hW.cell (p := ⟨w7.heap.size, 1, none⟩) hzx).trans (HX.at 1), (hW.cell (p := ⟨w7.heap.size, 2, none⟩) hzx).trans (HX.at 2)⟩)
    clear hown hp hba HX hzx hpp
    obtain ⟨p, lo, hi⟩ := c
    simp only [Flt.rg] at d0 d1 d2 hmore LVc hql TEp HownX Hzx CX
    go_wp2_with fail
    generalize w7.alloc (.cells #[.string (mk p), .int .i64 lo, .int .i64 hi] 87) = wx at *
    clear d0 d1 d2
    refine wp_region_held_drew (S := (fun w' : World => Below wx.heap.size wx w')) (by kernel_rfl) ((Below.refl _ _).drew) (fun hHeld => ?_)
    generalize wx.drew = wd at *
    refine wpAnyH_td (i := 0) rfl ?_
    simp only [zz]
    refine wpAnyH_td (i := 1) rfl ?_
    simp only [zz]
    refine wpAnyH_tk (i := 2) (v := ?_) rfl (Or.inl ⟨by rfl, (by intro w hSw; have d0 := (CX.out _ hSw).1; have d1 := (CX.out _ hSw).2.1; have d2 := (CX.out _ hSw).2.2; go_simp; try with_reducible rfl)⟩) (by assumption) ?_
    simp only [zz]
    refine wpAnyH_td (i := 4) rfl ?_
    simp only [zz]
    refine wpAnyH_td (i := 5) rfl ?_
    simp only [zz]
    refine wpAnyH_tk (i := 6) (v := ?_) rfl (Or.inl ⟨by rfl, (by intro w hSw; have d0 := (CX.out _ hSw).1; have d1 := (CX.out _ hSw).2.1; have d2 := (CX.out _ hSw).2.2; go_simp; try with_reducible rfl)⟩) (by assumption) ?_
    simp only [zz]
    refine wpAnyH_td (i := 10) rfl ?_
    simp only [zz]
    refine wpAnyH_ready (rs := [3, 7]) (by kernel_rfl) (by simp) ?_
    refine (AllReadyH.cons rfl (fun K hK => ?_) (AllReadyH.cons rfl (fun K hK => ?_) AllReadyH.nil))
    ·have HM5 := Lib.hid (rg_made wd 85 lo hi)
     have hb5 : Below wd.heap.size wd (wd.alloc (.cells #[.int .i64 lo, .int .i64 hi] 85)) := (Below.refl _ _).alloc (Nat.le_refl _) _
     have hhN := hHeld.trans (hb5.mono hHeld.size)
     go_simp
     generalize wd.alloc (.cells #[.int .i64 lo, .int .i64 hi] 85) = w3a at *
     clear hb5
     refine hK.out _ _ hhN (fun hHeld => ?_)
     clear hhN
     clear hK K
     refine wpAnyH_ready (rs := [7]) (by kernel_rfl) (by simp) ?_
     refine (AllReadyH.cons rfl (fun K hK => ?_) AllReadyH.nil)
     go_simp
     go_at_call 125
     refine (TEp.out _ (HownX.out.2.trans (hHeld.mono HownX.out.2.size))).mono ?_
     rintro e w4 ⟨s2, X, rfl, hs2, hX⟩
     have hhN := hHeld.trans (hs2.2.mono hHeld.size)
     have HM6 := Lib.hid (HM5.out.below hs2.2)
     have HS2 := Lib.hid hs2
     have HXX := Lib.hid hX
     clear hs2 hX
     refine hK.out _ _ hhN (fun hHeld => ?_)
     clear hhN
     clear hK K
     refine wpAnyH_ready (rs := [8]) (by kernel_rfl) (by simp) ?_
     refine (AllReadyH.cons rfl (fun K hK => ?_) AllReadyH.nil)
     have hh4 := hHeld
     go_simp
     first | go_at_call 92 | go_at_call 82
     refine (LVc.out _ HXX.out _ _ _ _ _ HM6.out (HS2.out.rows (fun _ _ => rfl))).mono ?_
     rintro e w5 ⟨s4, rfl, hs4, hb4⟩
     obtain ⟨QA, qc, rfl, hqc⟩ := hs4.parts
     have hhN := hHeld.trans (hb4.mono hHeld.size)
     refine hK.out _ _ hhN (fun hHeld => ?_)
     clear hhN
     clear hK K
     refine wpAnyH_td (i := 9) rfl ?_
     simp only [zz]
     refine wpAnyH_done (by kernel_rfl) ?_ _
     have HQ := Lib.hid hs4
     have Hown5 := Lib.hid (HownX.out.below hHeld)
     have Hz45 : Hid (w4.heap.size ≤ w5.heap.size) := Lib.hid hb4.size
     have Hz74 : Hid (w7.heap.size < w4.heap.size) := Lib.hid (Nat.lt_of_lt_of_le Hzx.out hh4.size)
     have hob : Hid (∀ g, u8.ownBlock = some g → g < w7.heap.size ∨ w5.heap.size ≤ g) := Lib.hid (fun g hg => Or.inl (hob7.out g hg))
     have hcx := (CX.out _ hHeld).1
     clear hHeld hs4 hb4 hh4 LVc TEp
     generalize Sz.two k [(lo, hi)] (Flt.sizes g p) = Q at *
     have hql' : (Q.length : Int) ≤ 202 := by have := hql.out; omega
     go_wp2_with fail
     go_loopw [8, 12, 32] (fun out _ k wq => ∃ m : Nat, m ≤ Q.length ∧ k = .int .i64 (m : Int) ∧ RowsOwn 87 3 clV w2 (PT n ++ Flt.clauses p (Q.take m)) out wq ∧ Rgs wq (NewIn w4 w5) (.slice QA Q.length qc) Q ∧ Hid (∀ g, out.ownBlock = some g → g < w7.heap.size ∨ w5.heap.size ≤ g) ∧ w5.heap.size ≤ wq.heap.size ∧ wq.cell? ⟨w7.heap.size, 0, none⟩ = some (.string (mk p))) (fun _ _ k _ => Q.length - (intOf k).toNat)
     case atStart => exact ⟨0, Nat.zero_le _, rfl, by simpa [Flt.clauses] using Hown5.out, HQ.out, hob, Nat.le_refl _, hcx⟩
     case round =>
      obtain ⟨m, hm, rfl, hown, hq, hob, hz5, hcp⟩ := hrel
      by_cases hlm : m < Q.length
      ·obtain ⟨qb, qo, qc', e, -, hqF, hqb⟩ := hq.block (by omega)
       injection e with e1 e2 e3
       subst e1 e3
       clear e2
       obtain ⟨x, hx⟩ : ∃ x, Q[m]? = some x := ⟨_, List.getElem?_eq_getElem hlm⟩
       obtain ⟨c0, c1⟩ := Rgs.at hq hx
       have hst := Lib.hid (Flt.clauses_take (p := p) hx)
       have hcl := Flt.clauses_len p (Q.take m)
       have htl : (Q.take m).length ≤ 202 := by rw [List.length_take]; omega
       have hlen : Hid ((PT n ++ Flt.clauses p (Q.take m)).length ≤ 20100202) := Lib.hid (by rw [List.length_append]; have := hnl.out; omega)
       have hm0 : (0 : Int) ≤ (m : Int) := by omega
       have hm1 : (m : Int) < (Q.length : Int) := by omega
       obtain ⟨x1, x2⟩ := x
       simp only at c0 c1
       have hst : Hid (Flt.clauses p (Q.take (m + 1)) = Flt.clauses p (Q.take m) ++ [⟨p, x1, x2⟩]) := hst
       have hba : Below wr.heap.size wr (wr.alloc (.cells #[.int .i64 x1, .int .i64 x2] 85)) := (Below.refl _ _).alloc (Nat.le_refl _) _
       have hbb : Below wr.heap.size wr ((wr.alloc (.cells #[.int .i64 x1, .int .i64 x2] 85)).alloc (.cells #[.string (mk p), .int .i64 x1, .int .i64 x2] 87)) := hba.alloc hba.size _
       have h75 : w7.heap.size < wr.heap.size := by have := Hz74.out; have := Hz45.out; omega
       have hcp2 : (wr.alloc (.cells #[.int .i64 x1, .int .i64 x2] 85)).cell? ⟨w7.heap.size, 0, none⟩ = some (.string (mk p)) := (hba.cell (p := ⟨w7.heap.size, 0, none⟩) h75).trans hcp
       have Hcp3 : Hid (((wr.alloc (.cells #[.int .i64 x1, .int .i64 x2] 85)).alloc (.cells #[.string (mk p), .int .i64 x1, .int .i64 x2] 87)).cell? ⟨w7.heap.size, 0, none⟩ = some (.string (mk p))) := Lib.hid ((hbb.cell (p := ⟨w7.heap.size, 0, none⟩) h75).trans hcp)
       have hne7 : w7.heap.size ≠ wr.heap.size := by omega
       have HownD := Lib.hid (hown.below hba)
       have Hq2 := Lib.hid (hq.below hbb)
       have hown3 := HownD.out.1.alloc (.cells #[.string (mk p), .int .i64 x1, .int .i64 x2] 87)
       have hmade := cl_made (wr.alloc (.cells #[.int .i64 x1, .int .i64 x2] 85)) 87 p x1 x2
       have hz1 : (wr.alloc (.cells #[.int .i64 x1, .int .i64 x2] 85)).heap.size = wr.heap.size + 1 := by simp
       rw [hz1] at hmade
       have hsz3 : w2.heap.size ≤ ((wr.alloc (.cells #[.int .i64 x1, .int .i64 x2] 85)).alloc (.cells #[.string (mk p), .int .i64 x1, .int .i64 x2] 87)).heap.size := by have := HownD.out.2.size; simp at this ⊢; omega
       have Hob := hob
       have Hz5 : Hid (w5.heap.size ≤ wr.heap.size) := Lib.hid hz5
       have H75 := Lib.hid h75
       clear hown hx hcl htl hq hba hbb hz1 h75
       generalize hO : PT n ++ Flt.clauses p (Q.take m) = O at *
       have HO := Lib.hid hO
       clear hO
       go_wp2_with (at_builtin; refine wp_joins (f := clV) (k := 3) rfl _ _ 26 rfl w2.heap.size 87 i0 (.agg #[.string ⟨#[]⟩, .int .i64 0, .int .i64 0]) 32 Tryz.underlying26 hi0 hz0 hzz1 hz2 rfl (by decide) rfl rfl hown3 hmade (fun _ _ => rfl) (fun x _ => cl_one x) ?c3 ?c4 hsz3 ?_)
       case c3 => have := hlen.out; unfold maxLen; first | omega | (simp <;> omega)
       case c4 => have := hlen.out; first | omega | (simp <;> omega)
       intro v9 w9 own9 hg9 hn9
       have Hnew := Lib.hid (HownD.out.more (x := (⟨p, x1, x2⟩ : Flt.Cl)) (v' := v9) (by simpa [clV] using own9) hg9)
       have kk := Kept.ofGrown (F := fun i => u8.ownBlock = some i) hg9 (fun i e => e)
       have Hq9 : Hid (Rgs w9 (NewIn w4 w5) (.slice (some ⟨qb, qo, none⟩) Q.length qc) Q) := Lib.hid (Hq2.out.kept kk (fun i hi e => by have := Hob.out _ e; have := hi.1; have := hi.2; have := Hz74.out; omega))
       have hob9 : Hid (∀ g, v9.ownBlock = some g → g < w7.heap.size ∨ w5.heap.size ≤ g) := Lib.hid (fun g hg => by
        rcases hn9 with h | h
        ·exact Hob.out g (h ▸ hg)
        ·have := h g hg; simp at this; exact Or.inr (by have := Hz5.out; omega))
       have hz9 : Hid (w5.heap.size ≤ w9.heap.size) := Lib.hid (by have := hg9.size; simp at this; have := Hz5.out; omega)
       have hcp9 : Hid (w9.cell? ⟨w7.heap.size, 0, none⟩ = some (.string (mk p))) := Lib.hid ((kk.cell (p := ⟨w7.heap.size, 0, none⟩) (by have := H75.out; simp; omega) (fun e => by have h9 := Hob.out _ e; have h8 := Hz74.out; have h7 := Hz45.out; simp only at h9; omega)).trans Hcp3.out)
       clear own9 hg9 hn9 kk hown3 hmade hsz3
       go_wp2_with fail
       exact ⟨⟨m + 1, by omega, by go_num, by rw [hst.out, ← List.append_assoc, HO.out]; exact Hnew.out, Hq9.out, hob9, hz9.out, hcp9.out⟩, by show Q.length - ((m : Int) + 1).toNat < Q.length - (m : Int).toNat; omega⟩
      ·obtain rfl : m = Q.length := by omega
       rw [List.take_length] at hown
       have Hown := Lib.hid hown
       clear hown hq hob
       go_wp2_with fail
       exact ⟨⟨n + 1, by omega, by go_num, by rw [hmore.out]; exact Hown.out⟩, by show L.length - ((n : Int) + 1).toNat < L.length - (n : Int).toNat; omega⟩
    ·go_simp
     go_at_call 125
     refine (TEp.out _ (HownX.out.2.trans (hHeld.mono HownX.out.2.size))).mono ?_
     rintro e w3 ⟨s2, X, rfl, hs2, hX⟩
     have hhN := hHeld.trans (hs2.2.mono hHeld.size)
     have HS2 := Lib.hid hs2
     have HXX := Lib.hid hX
     clear hs2 hX
     refine hK.out _ _ hhN (fun hHeld => ?_)
     clear hhN
     clear hK K
     refine wpAnyH_ready (rs := [3]) (by kernel_rfl) (by simp) ?_
     refine (AllReadyH.cons rfl (fun K hK => ?_) AllReadyH.nil)
     have HM5 := Lib.hid (rg_made w3 85 lo hi)
     have hb5 : Below w3.heap.size w3 (w3.alloc (.cells #[.int .i64 lo, .int .i64 hi] 85)) := (Below.refl _ _).alloc (Nat.le_refl _) _
     have hhN := hHeld.trans (hb5.mono hHeld.size)
     have HS3 := Lib.hid (HS2.out.below hb5)
     go_simp
     generalize w3.alloc (.cells #[.int .i64 lo, .int .i64 hi] 85) = w4 at *
     clear hb5
     refine hK.out _ _ hhN (fun hHeld => ?_)
     clear hhN
     clear hK K
     refine wpAnyH_ready (rs := [8]) (by kernel_rfl) (by simp) ?_
     refine (AllReadyH.cons rfl (fun K hK => ?_) AllReadyH.nil)
     have hh4 := hHeld
     go_simp
     first | go_at_call 92 | go_at_call 82
     refine (LVc.out _ HXX.out _ _ _ _ _ HM5.out (HS3.out.rows (fun _ _ => rfl))).mono ?_
     rintro e w5 ⟨s4, rfl, hs4, hb4⟩
     obtain ⟨QA, qc, rfl, hqc⟩ := hs4.parts
     have hhN := hHeld.trans (hb4.mono hHeld.size)
     refine hK.out _ _ hhN (fun hHeld => ?_)
     clear hhN
     clear hK K
     refine wpAnyH_td (i := 9) rfl ?_
     simp only [zz]
     refine wpAnyH_done (by kernel_rfl) ?_ _
     have HQ := Lib.hid hs4
     have Hown5 := Lib.hid (HownX.out.below hHeld)
     have Hz45 : Hid (w4.heap.size ≤ w5.heap.size) := Lib.hid hb4.size
     have Hz74 : Hid (w7.heap.size < w4.heap.size) := Lib.hid (Nat.lt_of_lt_of_le Hzx.out hh4.size)
     have hob : Hid (∀ g, u8.ownBlock = some g → g < w7.heap.size ∨ w5.heap.size ≤ g) := Lib.hid (fun g hg => Or.inl (hob7.out g hg))
     have hcx := (CX.out _ hHeld).1
     clear hHeld hs4 hb4 hh4 LVc TEp
     generalize Sz.two k [(lo, hi)] (Flt.sizes g p) = Q at *
     have hql' : (Q.length : Int) ≤ 202 := by have := hql.out; omega
     go_wp2_with fail
     go_loopw [8, 12, 32] (fun out _ k wq => ∃ m : Nat, m ≤ Q.length ∧ k = .int .i64 (m : Int) ∧ RowsOwn 87 3 clV w2 (PT n ++ Flt.clauses p (Q.take m)) out wq ∧ Rgs wq (NewIn w4 w5) (.slice QA Q.length qc) Q ∧ Hid (∀ g, out.ownBlock = some g → g < w7.heap.size ∨ w5.heap.size ≤ g) ∧ w5.heap.size ≤ wq.heap.size ∧ wq.cell? ⟨w7.heap.size, 0, none⟩ = some (.string (mk p))) (fun _ _ k _ => Q.length - (intOf k).toNat)
     case atStart => exact ⟨0, Nat.zero_le _, rfl, by simpa [Flt.clauses] using Hown5.out, HQ.out, hob, Nat.le_refl _, hcx⟩
     case round =>
      obtain ⟨m, hm, rfl, hown, hq, hob, hz5, hcp⟩ := hrel
      by_cases hlm : m < Q.length
      ·obtain ⟨qb, qo, qc', e, -, hqF, hqb⟩ := hq.block (by omega)
       injection e with e1 e2 e3
       subst e1 e3
       clear e2
       obtain ⟨x, hx⟩ : ∃ x, Q[m]? = some x := ⟨_, List.getElem?_eq_getElem hlm⟩
       obtain ⟨c0, c1⟩ := Rgs.at hq hx
       have hst := Lib.hid (Flt.clauses_take (p := p) hx)
       have hcl := Flt.clauses_len p (Q.take m)
       have htl : (Q.take m).length ≤ 202 := by rw [List.length_take]; omega
       have hlen : Hid ((PT n ++ Flt.clauses p (Q.take m)).length ≤ 20100202) := Lib.hid (by rw [List.length_append]; have := hnl.out; omega)
       have hm0 : (0 : Int) ≤ (m : Int) := by omega
       have hm1 : (m : Int) < (Q.length : Int) := by omega
       obtain ⟨x1, x2⟩ := x
       simp only at c0 c1
       have hst : Hid (Flt.clauses p (Q.take (m + 1)) = Flt.clauses p (Q.take m) ++ [⟨p, x1, x2⟩]) := hst
       have hba : Below wr.heap.size wr (wr.alloc (.cells #[.int .i64 x1, .int .i64 x2] 85)) := (Below.refl _ _).alloc (Nat.le_refl _) _
       have hbb : Below wr.heap.size wr ((wr.alloc (.cells #[.int .i64 x1, .int .i64 x2] 85)).alloc (.cells #[.string (mk p), .int .i64 x1, .int .i64 x2] 87)) := hba.alloc hba.size _
       have h75 : w7.heap.size < wr.heap.size := by have := Hz74.out; have := Hz45.out; omega
       have hcp2 : (wr.alloc (.cells #[.int .i64 x1, .int .i64 x2] 85)).cell? ⟨w7.heap.size, 0, none⟩ = some (.string (mk p)) := (hba.cell (p := ⟨w7.heap.size, 0, none⟩) h75).trans hcp
       have Hcp3 : Hid (((wr.alloc (.cells #[.int .i64 x1, .int .i64 x2] 85)).alloc (.cells #[.string (mk p), .int .i64 x1, .int .i64 x2] 87)).cell? ⟨w7.heap.size, 0, none⟩ = some (.string (mk p))) := Lib.hid ((hbb.cell (p := ⟨w7.heap.size, 0, none⟩) h75).trans hcp)
       have hne7 : w7.heap.size ≠ wr.heap.size := by omega
       have HownD := Lib.hid (hown.below hba)
       have Hq2 := Lib.hid (hq.below hbb)
       have hown3 := HownD.out.1.alloc (.cells #[.string (mk p), .int .i64 x1, .int .i64 x2] 87)
       have hmade := cl_made (wr.alloc (.cells #[.int .i64 x1, .int .i64 x2] 85)) 87 p x1 x2
       have hz1 : (wr.alloc (.cells #[.int .i64 x1, .int .i64 x2] 85)).heap.size = wr.heap.size + 1 := by simp
       rw [hz1] at hmade
       have hsz3 : w2.heap.size ≤ ((wr.alloc (.cells #[.int .i64 x1, .int .i64 x2] 85)).alloc (.cells #[.string (mk p), .int .i64 x1, .int .i64 x2] 87)).heap.size := by have := HownD.out.2.size; simp at this ⊢; omega
       have Hob := hob
       have Hz5 : Hid (w5.heap.size ≤ wr.heap.size) := Lib.hid hz5
       have H75 := Lib.hid h75
       clear hown hx hcl htl hq hba hbb hz1 h75
       generalize hO : PT n ++ Flt.clauses p (Q.take m) = O at *
       have HO := Lib.hid hO
       clear hO
       go_wp2_with (at_builtin; refine wp_joins (f := clV) (k := 3) rfl _ _ 26 rfl w2.heap.size 87 i0 (.agg #[.string ⟨#[]⟩, .int .i64 0, .int .i64 0]) 32 Tryz.underlying26 hi0 hz0 hzz1 hz2 rfl (by decide) rfl rfl hown3 hmade (fun _ _ => rfl) (fun x _ => cl_one x) ?c3 ?c4 hsz3 ?_)
       case c3 => have := hlen.out; unfold maxLen; first | omega | (simp <;> omega)
       case c4 => have := hlen.out; first | omega | (simp <;> omega)
       intro v9 w9 own9 hg9 hn9
       have Hnew := Lib.hid (HownD.out.more (x := (⟨p, x1, x2⟩ : Flt.Cl)) (v' := v9) (by simpa [clV] using own9) hg9)
       have kk := Kept.ofGrown (F := fun i => u8.ownBlock = some i) hg9 (fun i e => e)
       have Hq9 : Hid (Rgs w9 (NewIn w4 w5) (.slice (some ⟨qb, qo, none⟩) Q.length qc) Q) := Lib.hid (Hq2.out.kept kk (fun i hi e => by have := Hob.out _ e; have := hi.1; have := hi.2; have := Hz74.out; omega))
       have hob9 : Hid (∀ g, v9.ownBlock = some g → g < w7.heap.size ∨ w5.heap.size ≤ g) := Lib.hid (fun g hg => by
        rcases hn9 with h | h
        ·exact Hob.out g (h ▸ hg)
        ·have := h g hg; simp at this; exact Or.inr (by have := Hz5.out; omega))
       have hz9 : Hid (w5.heap.size ≤ w9.heap.size) := Lib.hid (by have := hg9.size; simp at this; have := Hz5.out; omega)
       have hcp9 : Hid (w9.cell? ⟨w7.heap.size, 0, none⟩ = some (.string (mk p))) := Lib.hid ((kk.cell (p := ⟨w7.heap.size, 0, none⟩) (by have := H75.out; simp; omega) (fun e => by have h9 := Hob.out _ e; have h8 := Hz74.out; have h7 := Hz45.out; simp only at h9; omega)).trans Hcp3.out)
       clear own9 hg9 hn9 kk hown3 hmade hsz3
       go_wp2_with fail
       exact ⟨⟨m + 1, by omega, by go_num, by rw [hst.out, ← List.append_assoc, HO.out]; exact Hnew.out, Hq9.out, hob9, hz9.out, hcp9.out⟩, by show Q.length - ((m : Int) + 1).toNat < Q.length - (m : Int).toNat; omega⟩
      ·obtain rfl : m = Q.length := by omega
       rw [List.take_length] at hown
       have Hown := Lib.hid hown
       clear hown hq hob
       go_wp2_with fail
       exact ⟨⟨n + 1, by omega, by go_num, by rw [hmore.out]; exact Hown.out⟩, by show L.length - ((n : Int) + 1).toNat < L.length - (n : Int).toNat; omega⟩
   ·obtain rfl : n = L.length := by omega
    rw [ALL.out] at hown
    have Hfin := Lib.hid (hown.since Hb2.out)
    clear hown
    go_wp2_with fail
    go_ret
    exact ⟨_, rfl, Hfin.out⟩
open Go.RowKit Go.Shelf Go.Lib
theorem cov_grow (n : Nat) (hn : n ≤ 2000000) (w : World) :
  Calls Tryz.prog 102 #[.slice none 0 0, .int .i64 (n : Int)] w fun e w' => ∃ v, e = .returned v ∧ RowsOwn 87 3 clV w [] v w' := by
 obtain ⟨i0, hi0, hz0, hz1, hz2⟩ := info_parts clauseInfo
 by_cases h0 : n = 0
 ·subst h0
  refine (Any8.slices_Grow_room Tryz.growCl none 0 0 0 w (Nat.le_refl _) (by omega) (by omega) (by omega)).mono ?_
  rintro e w' ⟨rfl, rfl⟩
  exact ⟨_, rfl, RowsOwn.start _ _ _ _⟩
 ·refine (Any8.slices_Grow_grow Tryz.growCl i0 (.agg #[.string ⟨#[]⟩, .int .i64 0, .int .i64 0]) hi0 hz0 (by omega) none 0 0 n [] w (Nat.le_refl _) (by omega) (by rw [hz2]; omega) (by omega) (by simp) (fun _ => rfl) (fun a h => by cases h)).mono ?_
  rintro e w' ⟨rfl, rfl⟩
  refine ⟨_, rfl, ?_, ((Below.refl _ w).drew).alloc (Nat.le_refl _) _⟩
  have hG := grownCap_ge w (0 + n) 0 (Tryz.growCl_ren.t 25)
  have hM := grownCap_le_maxLen w (0 + n) 0 (Tryz.growCl_ren.t 25) (by unfold maxLen; omega)
  refine World.ownsRow_made w.drew _ _ (Nat.le_refl _) hM ?_
  have hzc : (Value.agg #[.string ⟨#[]⟩, .int .i64 0, .int .i64 0]).cells.size = 3 := rfl
  simp only [Array.size_append, size_zeroCells, hzc, List.size_toArray, List.length_nil]
  omega
theorem cov_concat {w : World} {F G : Nat → Prop} {u v : Value} {a b : List Flt.Cl} {bk : Nat} (ha : Cls w F u a) (hb : Cls w G v b) (la : a.length ≤ 500000) (lb : b.length ≤ 500000) (c0 : w.cell? ⟨bk, 0, none⟩ = some u) (c1 : w.cell? ⟨bk, 1, none⟩ = some v) (hk : bk < w.heap.size) :
  Calls Tryz.prog 80 #[.slice (some ⟨bk, 0, none⟩) 2 2] w fun e w' => ∃ v', e = .returned v' ∧ RowsOwn 87 3 clV w (a ++ b) v' w' := by
 obtain ⟨i0, hi0, hz0, hz1, hz2⟩ := info_parts clauseInfo
 obtain ⟨A, c, rfl, hc⟩ := ha.parts
 obtain ⟨B, d, rfl, hd⟩ := hb.parts
 have HA := Lib.hid ha
 have HB := Lib.hid hb
 have la0 : (a.length : Int) ≤ 500000 := by omega
 have lb0 : (b.length : Int) ≤ 500000 := by omega
 have la1 : (0 : Int) ≤ (a.length : Int) := by omega
 have lb1 : (0 : Int) ≤ (b.length : Int) := by omega
 have HG : Hid (∀ W, Calls Tryz.prog 102 #[.slice none 0 0, .int .i64 ((a.length : Int) + (b.length : Int))] W fun e w' => ∃ v, e = .returned v ∧ RowsOwn 87 3 clV W [] v w') := Lib.hid (fun W => by
  have := cov_grow (a.length + b.length) (by omega) W
  rwa [Int.natCast_add] at this)
 clear ha hb
 go_enter Tryz.func80, Tryz.ntmps80
 go_wp2_with fail
 refine wp_loop_rounds 3 ?_
 rw [rounds_succ]
 go_wp2_with fail
 rw [rounds_succ]
 go_wp2_with fail
 rw [rounds_succ]
 go_wp2_with fail
 refine (HG.out w).mono ?_
 rintro e w1 ⟨v1, rfl, h1⟩
 have hg1 := HA.out.below h1.2
 have hz1' : w.heap.size ≤ w1.heap.size := h1.2.size
 have e0 : w1.cell? ⟨bk, 0, none⟩ = some (.slice A a.length c) := (h1.2.cell (p := ⟨bk, 0, none⟩) hk).trans c0
 have e1 : w1.cell? ⟨bk, 1, none⟩ = some (.slice B b.length d) := (h1.2.cell (p := ⟨bk, 1, none⟩) hk).trans c1
 have H1 := Lib.hid h1
 have own1 := h1.1
 clear h1 c0 c1
 go_wp2_with fail
 refine wp_loop_rounds 3 ?_
 rw [rounds_succ]
 go_wp2_with (at_builtin; refine wp_joins (f := clV) (k := 3) rfl _ _ 26 rfl w.heap.size 87 i0 (.agg #[.string ⟨#[]⟩, .int .i64 0, .int .i64 0]) 32 Tryz.underlying26 hi0 hz0 hz1 hz2 rfl (by decide) rfl rfl own1 hg1 (fun _ _ => rfl) (fun x _ => cl_one x) ?c3 ?c4 hz1' ?_)
 case c3 => unfold maxLen; first | omega | (simp <;> omega)
 case c4 => first | omega | (simp <;> omega)
 intro v2 w2 j1 j2 j3
 have h2 : RowsOwn 87 3 clV w a v2 w2 := ⟨by simpa using j1, H1.out.2.grown j2 H1.out.2.size (fun k hk => (H1.out.1.lt k hk).1)⟩
 have hg2 := HB.out.below h2.2
 have hz2' : w.heap.size ≤ w2.heap.size := h2.2.size
 have f1 : w2.cell? ⟨bk, 1, none⟩ = some (.slice B b.length d) := (j2.cell e1 (fun e => by have := (H1.out.1.lt bk e.symm).1; omega))
 have H2 := Lib.hid h2
 have own2 := h2.1
 clear h2 j1 j2 j3 H1 own1 hg1 e0 e1
 go_wp2_with fail
 rw [rounds_succ]
 go_wp2_with (at_builtin; refine wp_joins (f := clV) (k := 3) rfl _ _ 26 rfl w.heap.size 87 i0 (.agg #[.string ⟨#[]⟩, .int .i64 0, .int .i64 0]) 32 Tryz.underlying26 hi0 hz0 hz1 hz2 rfl (by decide) rfl rfl own2 hg2 (fun _ _ => rfl) (fun x _ => cl_one x) ?c3 ?c4 hz2' ?_)
 case c3 => unfold maxLen; first | omega | (simp <;> omega)
 case c4 => first | omega | (simp <;> omega)
 intro v3 w3 j1 j2 j3
 have h3 : RowsOwn 87 3 clV w (a ++ b) v3 w3 := ⟨by rw [List.length_append, List.flatMap_append]; exact j1, H2.out.2.grown j2 H2.out.2.size (fun k hk => (H2.out.1.lt k hk).1)⟩
 have H3 := Lib.hid h3
 clear h3 j1 j2 j3 H2 own2 hg2 f1
 go_wp2_with fail
 rw [rounds_succ]
 go_wp2_with fail
 go_ret
 exact ⟨v3, rfl, H3.out⟩
section
variable {w : World} {F G : Nat → Prop} {u v : Value} {f g : List Flt.Cl}
theorem cov_subs (Z : FilterOk) (ZS : SizesOk) (hf : Cls w F u f) (hg : Cls w G v g) (okf : Cov.Ok f) (okg : Cov.Ok g) :
  Calls Tryz.prog 67 #[u, v] w fun e w' => e = .returned (.bool (decide (Cov.Subs f g))) ∧ Below w.heap.size w w' := by
 have PA := Lib.hid (cov_parts Z ZS hg hf okg okf (k := 2) (fn := 92) (Or.inl ⟨rfl, rfl⟩))
 have hd : decide (Cov.Subs f g) = decide ((Cov.parts 2 g f).length = 0) := by
  rw [decide_eq_decide, ← Cov.left_subs, ← Cov.parts_left]
  exact List.length_eq_zero_iff.symm
 rw [hd]
 clear hd hf hg okf okg
 generalize Cov.parts 2 g f = X at *
 go_enter Tryz.func67, Tryz.ntmps67
 go_wp2_with fail
 refine (PA.out).mono ?_
 rintro e w1 ⟨x, rfl, hx⟩
 obtain ⟨A, c, rfl, hc⟩ := (hx.rows (fun _ _ => rfl)).parts
 have HB := Lib.hid hx.2
 clear hx
 by_cases h0 : X.length = 0
 ·have hd := Lib.hid (decide_eq_true h0)
  have g0 : ((X.length : Int) == 0) = true := by rw [beq_iff_eq]; omega
  clear h0
  go_wp2_with fail
  go_ret
  exact ⟨by rw [hd.out]; rfl, HB.out⟩
 ·have hd := Lib.hid (decide_eq_false h0)
  have g0 : ((X.length : Int) == 0) = false := by rw [beq_eq_false_iff_ne]; omega
  clear h0
  go_wp2_with fail
  go_ret
  exact ⟨by rw [hd.out]; rfl, HB.out⟩
theorem cov_meet (Z : FilterOk) (ZS : SizesOk) (hf : Cls w F u f) (hg : Cls w G v g) (okf : Cov.Ok f) (okg : Cov.Ok g) (hp : (Flt.prefixes f).length + (Flt.prefixes g).length ≤ 490) :
  Calls Tryz.prog 47 #[u, v] w fun e w' => ∃ v', e = .returned v' ∧ Cls w' (NewIn w w') v' (Cov.two 1 f g) ∧ Below w.heap.size w w' := by
 have P1 := Lib.hid (cov_parts Z ZS hf hg okf okg (k := 1) (fn := 82) (Or.inr ⟨rfl, rfl⟩))
 have P2 := Lib.hid (fun (W : World) (hW : Below w.heap.size w W) => cov_parts Z ZS (hg.below hW) (hf.below hW) okg okf (k := 1) (fn := 82) (Or.inr ⟨rfl, rfl⟩))
 have hl1 := Cov.parts_len (k := 1) (Or.inl rfl) f g
 have hl2 := Cov.parts_len (k := 1) (Or.inl rfl) g f
 have CC : Hid (∀ (P Q : Nat → Prop) (W : World) (x y : Value) (bk : Nat), Cls W P x (Cov.parts 1 f g) → Cls W Q y (Cov.parts 1 g f) → W.cell? ⟨bk, 0, none⟩ = some x → W.cell? ⟨bk, 1, none⟩ = some y → bk < W.heap.size → Calls Tryz.prog 80 #[.slice (some ⟨bk, 0, none⟩) 2 2] W fun e w' => ∃ v', e = .returned v' ∧ RowsOwn 87 3 clV W (Cov.parts 1 f g ++ Cov.parts 1 g f) v' w') := Lib.hid (fun P Q W x y bk hx hy c0 c1 hk => cov_concat hx hy (by omega) (by omega) c0 c1 hk)
 have NO : Hid (∀ (P : Nat → Prop) (W : World) (x : Value), Cls W P x (Cov.parts 1 f g ++ Cov.parts 1 g f) → Calls Tryz.prog 79 #[x] W fun e w' => ∃ v', e = .returned v' ∧ Cls w' (NewIn W w') v' (Cov.two 1 f g) ∧ Below W.heap.size W w') := Lib.hid (fun P W x hx => by
  have hr : ∀ c ∈ Cov.parts 1 f g ++ Cov.parts 1 g f, Flt.Right c := fun c hc => by
   rcases List.mem_append.1 hc with h | h
   ·exact Cov.parts_right okf.2.1 c h
   ·exact Cov.parts_right okg.2.1 c h
  rw [← Cov.meet_is]
  exact Z.norm hx (by rw [List.length_append]; omega) hr (fun c hc => Cov.right_bd (hr c hc)))
 clear hf hg okf okg hp hl1 hl2
 generalize Cov.parts 1 f g = X at *
 generalize Cov.parts 1 g f = Y at *
 go_enter Tryz.func47, Tryz.ntmps47
 go_wp2_with fail
 refine (P1.out).mono ?_
 rintro e w1 ⟨x, rfl, hx⟩
 have HX := Lib.hid hx
 clear hx P1
 go_wp2_with fail
 refine (P2.out _ HX.out.2).mono ?_
 rintro e w2 ⟨y, rfl, hy⟩
 have HX2 := Lib.hid ((HX.out.rows (fun _ _ => rfl)).below hy.2)
 have HY2 := Lib.hid (hy.rows (fun _ _ => rfl))
 have HB2 := Lib.hid (HX.out.2.trans (hy.2.mono HX.out.2.size))
 clear hy HX P2
 obtain ⟨A, c, rfl, hc⟩ := HX2.out.parts
 obtain ⟨B, d, rfl, hd⟩ := HY2.out.parts
 have hb0 : Below w2.heap.size w2 (w2.alloc (.cells #[.slice A X.length c, .slice B Y.length d] 26)) := (Below.refl _ _).alloc (Nat.le_refl _) _
 have hrow := Row.made w2 26 #[.slice A X.length c, .slice B Y.length d]
 have HC := Lib.hid (CC.out _ _ _ _ _ _ (HX2.out.below hb0) (HY2.out.below hb0) (hrow.at 0) (hrow.at 1) (by simp))
 have Hb0 := Lib.hid (HB2.out.trans (hb0.mono HB2.out.size))
 clear hb0 hrow CC
 go_wp2_with fail
 refine (HC.out).mono ?_
 rintro e w3 ⟨z, rfl, hz⟩
 have HZ := Lib.hid hz
 have HB3 := Lib.hid (Hb0.out.trans (hz.2.mono Hb0.out.size))
 clear hz
 go_wp2_with fail
 refine (NO.out _ _ _ (HZ.out.rows (fun _ _ => rfl))).mono ?_
 rintro e w4 ⟨y, rfl, hy, hb⟩
 have HY := Lib.hid (hy.mono (G := NewIn w w4) (fun i hi => ⟨Nat.le_trans HB3.out.size hi.1, hi.2⟩))
 have HB := Lib.hid (HB3.out.trans (hb.mono HB3.out.size))
 clear hy hb
 go_wp2_with fail
 go_ret
 exact ⟨_, rfl, HY.out, HB.out⟩
end
theorem cover_of (Z : FilterOk) (ZS : SizesOk) : CoverOk where
 subs := cov_subs Z ZS
 meet := cov_meet Z ZS
end Go.Proofs.YtkcgmnhjofoeiaaGreat
