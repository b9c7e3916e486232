import Derived.Test.YtkcgmnhjofoeiaaGreatCom34
import Derived.Test.YtkcgmnhjofoeiaaGreatCom18
import Derived.Test.YtkcgmnhjofoeiaaGreatCom9
import Derived.Test.YtkcgmnhjofoeiaaGreatCom24
import Derived.Test.YtkcgmnhjofoeiaaGreatCom17
import Derived.Test.YtkcgmnhjofoeiaaGreatCom14
import Derived.Test.YtkcgmnhjofoeiaaGreatCom15
import Derived.WalkMore
import Derived.Shelf.SlicesQ.Equal
import Derived.Shelf.SlicesQ.IndexFunc
import Derived.BigQuiet
import Derived.Shelf.SlSortCmp.NoneTotal
import Derived.Great.Walk
set_option maxRecDepth 100000
set_option linter.all false
set_option maxHeartbeats 12800000
namespace Go.Proofs.YtkcgmnhjofoeiaaGreat
open Go.RowKit
theorem flt_sizer (Z : SizesOk) {w : World} {F : Nat → Prop} {v : Value} {f : List Flt.Cl} (h : Cls w F v f) (hl : f.length ≤ 100000) (bf : ∀ c ∈ f, Flt.Bd c) :
  Calls Tryz.prog 99 #[v] w fun e w' => ∃ (B bm nn : Nat) (m : Tm.Fn), e = .returned (.func (.func 119) #[] #[.pointer (some ⟨B, 0, none⟩)]) ∧ w'.cell? ⟨B, 0, none⟩ = some (.map (some bm)) ∧ B < w'.heap.size ∧ TmAt w' bm m nn ∧
   (∀ q v, m q = some v → Rgs w' (fun i => i ≠ bm) v (Flt.lev f q)) ∧ (∀ q, m q = none → (q = [] → Flt.lev f [] = []) ∧ (q ≠ [] → Flt.lev f q = Flt.lev f (Pth.parent q))) ∧ Below w.heap.size w w' := by
 have hbM : Below w.heap.size w (w.alloc (.map #[] 0)) := (Below.refl _ _).alloc (Nat.le_refl _) _
 have hb0 : Below w.heap.size w ((w.alloc (.map #[] 0)).alloc (.cells #[.map (some w.heap.size)] 141)) := hbM.alloc hbM.size _
 have hAS := flt_asc (h.below hb0) hl
 have hz0 : ((w.alloc (.map #[] 0)).alloc (.cells #[.map (some w.heap.size)] 141)).heap.size = w.heap.size + 2 := by simp
 have hM0 : TmAt ((w.alloc (.map #[] 0)).alloc (.cells #[.map (some w.heap.size)] 141)) w.heap.size (fun _ => none) 0 := (TmAt.made w).below ((Below.refl _ _).alloc (Nat.le_refl _) _)
 have hC0 : ((w.alloc (.map #[] 0)).alloc (.cells #[.map (some w.heap.size)] 141)).cell? ⟨w.heap.size + 1, 0, none⟩ = some (.map (some w.heap.size)) := by
  have := (Row.made (w.alloc (.map #[] 0)) 141 #[.map (some w.heap.size)]).at 0
  have e : (w.alloc (.map #[] 0)).heap.size = w.heap.size + 1 := by simp
  rw [e] at this
  exact this
 have AS := Lib.hid hAS
 have HM0 := Lib.hid hM0
 have HC0 := Lib.hid hC0
 have HB0 := Lib.hid hb0
 have HZ0 := Lib.hid hz0
 clear hAS hM0 hC0 hz0 hbM hb0 h
 have hmk := @run_makeMap Tryz.prog
 go_enter Tryz.func99, Tryz.ntmps99
 go_wp2_with fail
 go_step3
 go_wp2_with fail
 go_step3
 go_wp2_with fail
 refine (AS.out).mono ?_
 rintro e w1 ⟨sv, S, rfl, hS, hperm, hup⟩
 have hz1 := hS.2.size
 rw [HZ0.out] at hz1
 have HZ1 := Lib.hid hz1
 have HSr := Lib.hid (hS.rows (fun _ _ => rfl))
 have HM1 := Lib.hid (HM0.out.below hS.2)
 have HC1 : Hid (w1.cell? ⟨w.heap.size + 1, 0, none⟩ = some (.map (some w.heap.size))) := Lib.hid ((hS.2.cell (p := ⟨w.heap.size + 1, 0, none⟩) (by rw [HZ0.out]; show w.heap.size + 1 < w.heap.size + 2; omega)).trans HC0.out)
 have HB1 : Hid (Below w.heap.size w w1) := Lib.hid (HB0.out.trans (hS.2.mono HB0.out.size))
 have Hperm := Lib.hid hperm
 have Hup := Lib.hid hup
 have hSl : S.length ≤ 100000 := by rw [hperm.length_eq]; exact hl
 have bS : ∀ c ∈ S, Flt.Bd c := fun c hc => bf c (hperm.mem_iff.1 hc)
 have BS := Lib.hid bS
 have hsd : Hid (∀ i, NewIn ((w.alloc (.map #[] 0)).alloc (.cells #[.map (some w.heap.size)] 141)) w1 i → ¬ i = w.heap.size) := Lib.hid (fun i hi e => by have := hi.1; rw [HZ0.out] at this; omega)
 clear hS hperm hup bf bS hz1 HM0 HC0 HB0 AS
 obtain ⟨SA, sc, rfl, hsc⟩ := HSr.out.parts
 have hSl' : (S.length : Int) ≤ 100000 := by omega
 have HSl := Lib.hid hSl
 clear hSl
 go_wp2_with fail
 go_loopw [6, 7, 9, 15] (fun _ _ _ i wr => ∃ (n : Nat) (m : Tm.Fn), n ≤ S.length ∧ i = .int .i64 (n : Int) ∧ Hid (TmAt wr w.heap.size m n) ∧ Hid (∀ q v, m q = some v → Rgs wr (fun i => i ≠ w.heap.size) v (Flt.lev (S.take n) q)) ∧ Hid (Flt.Fits (S.take n) (fun q => m q ≠ none)) ∧ Kept (fun i => i = w.heap.size) w1 wr) (fun _ _ _ i _ => S.length - (intOf i).toNat)
 case atStart => exact ⟨0, fun _ => none, Nat.zero_le _, rfl, HM1, Lib.hid (fun q v h => by cases h), Lib.hid (Flt.fits_start.iff (fun q => ⟨fun h => h rfl, fun h => h.elim⟩)), Kept.refl _ _⟩
 case round =>
  obtain ⟨n, m, hn, rfl, hm, hv, hfit, hkept⟩ := hrel
  obtain ⟨w5, rfl⟩ : ∃ W : World, W = wr := ⟨_, rfl⟩
  have hz5 : w.heap.size + 2 ≤ w5.heap.size := Nat.le_trans HZ1.out hkept.size
  have hcB : w5.cell? ⟨w.heap.size + 1, 0, none⟩ = some (.map (some w.heap.size)) := (hkept.cell (p := ⟨w.heap.size + 1, 0, none⟩) (by have := HZ1.out; show w.heap.size + 1 < w1.heap.size; omega) (by show ¬ (w.heap.size + 1 = w.heap.size); omega)).trans HC1.out
  by_cases hlt : n < S.length
  ·obtain ⟨b, o, sc', e, -, -, hb⟩ := HSr.out.block (by omega)
   injection e with e1 e2 e3
   subst e1 e3
   clear e2
   obtain ⟨c, hc⟩ : ∃ c, S[n]? = some c := ⟨_, List.getElem?_eq_getElem hlt⟩
   obtain ⟨c0, c1, c2⟩ := Cls.at (HSr.out.kept hkept hsd.out) hc
   have hbc := BS.out c (List.mem_of_getElem? hc)
   have htk : Hid (S.take (n + 1) = S.take n ++ [c]) := Lib.hid (by
    obtain ⟨h1, h2⟩ := List.getElem?_eq_some_iff.1 hc
    rw [List.take_succ_eq_append_getElem h1, h2])
   have hcu : Hid (∀ d ∈ S.take n, ¬ c.pre < d.pre) := Lib.hid (fun d hd => by
    obtain ⟨i, hi, he⟩ := List.getElem_of_mem hd
    rw [List.length_take] at hi
    have hd2 : S[i]? = some d := by
     rw [← he, List.getElem_take]
     exact List.getElem?_eq_getElem (by omega)
    exact Hup.out i n d c (by omega) hd2 hc)
   have hn0 : (0 : Int) ≤ (n : Int) := by omega
   have hn1 : (n : Int) < (S.length : Int) := by omega
   have hba : Below w5.heap.size w5 (w5.alloc (.cells #[.string (mk c.pre), .int .i64 c.lo, .int .i64 c.hi] 87)) := (Below.refl _ _).alloc (Nat.le_refl _) _
   have TE := Lib.hid (tell_any (L := Flt.lev (S.take n)) (hm.out.below hba) ((hba.cell (p := ⟨w.heap.size + 1, 0, none⟩) (by show w.heap.size + 1 < w5.heap.size; omega)).trans hcB) (by have := hba.size; omega) (fun q v hq => (hv.out q v hq).below hba) (fun q hq => hfit.out.2 q (fun k => k hq)) c.pre hbc.1)
   have HX := Lib.hid (Row.made w5 87 #[.string (mk c.pre), .int .i64 c.lo, .int .i64 c.hi])
   have Hba := Lib.hid hba
   have Hkept := Lib.hid hkept
   have hzx : Hid (w5.heap.size < (w5.alloc (.cells #[.string (mk c.pre), .int .i64 c.lo, .int .i64 c.hi] 87)).heap.size) := Lib.hid (by simp)
   have Hz5 := Lib.hid hz5
   have HcB := Lib.hid hcB
   have HKL := Lib.hid (Flt.lev_len (S.take n) c.pre)
   have HKB := Lib.hid (Flt.lev_bd (S.take n) c.pre)
   have Hbc := Lib.hid hbc
   clear hkept hba hbc hc hcB hz5
   obtain ⟨p, lo, hi⟩ := c
   simp only at c0 c1 c2 hcu htk TE HX Hba hzx HKL HKB
   go_wp2_with fail
   refine (TE.out).mono ?_
   rintro e w2 ⟨kv, rfl, hkv, hb2⟩
   have HKr := Lib.hid hkv
   have K2 : Hid (Kept (fun i => i = w.heap.size) w1 w2) := Lib.hid (Hkept.out.trans (Kept.ofBelow (Hba.out.trans (hb2.mono Hba.out.size)) (fun i => i = w.heap.size)) (fun _ _ h => h))
   have TM2 : Hid (TmAt w2 w.heap.size m n) := Lib.hid ((hm.out.below Hba.out).below hb2)
   have V2 : Hid (∀ q v, m q = some v → Rgs w2 (fun i => i ≠ w.heap.size) v (Flt.lev (S.take n) q)) := Lib.hid (fun q v hq => ((hv.out q v hq).below Hba.out).below hb2)
   have hz52 : w5.heap.size < w2.heap.size := Nat.lt_of_lt_of_le hzx.out hb2.size
   have Hz52 := Lib.hid hz52
   have CS : Hid (∀ W, Below w2.heap.size w2 W → W.cell? ⟨w.heap.size + 1, 0, none⟩ = some (.map (some w.heap.size)) ∧ W.cell? ⟨w5.heap.size, 0, none⟩ = some (.string (mk p)) ∧ W.cell? ⟨w5.heap.size, 1, none⟩ = some (.int .i64 lo) ∧ W.cell? ⟨w5.heap.size, 2, none⟩ = some (.int .i64 hi)) := Lib.hid (fun W hW => by
    have hb3 := hb2.trans (hW.mono hb2.size)
    have hs5 := Hba.out.size
    refine ⟨?_, (hb3.cell (p := ⟨w5.heap.size, 0, none⟩) hzx.out).trans (HX.out.at 0), (hb3.cell (p := ⟨w5.heap.size, 1, none⟩) hzx.out).trans (HX.out.at 1), (hb3.cell (p := ⟨w5.heap.size, 2, none⟩) hzx.out).trans (HX.out.at 2)⟩
    refine (hb3.cell (p := ⟨w.heap.size + 1, 0, none⟩) (by have := Hz5.out; show w.heap.size + 1 < _; omega)).trans ?_
    exact (Hba.out.cell (p := ⟨w.heap.size + 1, 0, none⟩) (by have := Hz5.out; show w.heap.size + 1 < w5.heap.size; omega)).trans HcB.out)
   have JO : Hid (∀ (P Q : Nat → Prop) (W : World) (x y : Value), Rgs W P x (Flt.lev (S.take n) p) → Rgs W Q y [(lo, hi)] → Calls Tryz.prog 121 #[x, y] W fun e w' => ∃ v', e = .returned v' ∧ Rgs w' (NewIn W w') v' (Sz.two 0 (Flt.lev (S.take n) p) [(lo, hi)]) ∧ Below W.heap.size W w') := Lib.hid (fun P Q W x y hx hy => Z.join hx hy (by have := HKL.out; omega) (by simp) (fun r hr => by have := HKB.out r hr; unfold Bd; omega) (fun r hr => by rw [List.mem_singleton.1 hr]; exact Hbc.out.2))
   have hput := Lib.hid (Flt.lev_put (S.take n) ⟨p, lo, hi⟩)
   have hskip := Lib.hid (fun hr => Flt.lev_skip (P := S.take n) (c := ⟨p, lo, hi⟩) hr)
   have hfskip := Lib.hid (fun hr => Flt.fits_skip (c := ⟨p, lo, hi⟩) hfit.out hr)
   have hknown : Hid (∀ q, m q ≠ none → q ≠ p → Flt.lev (S.take n ++ [⟨p, lo, hi⟩]) q = Flt.lev (S.take n) q) := Lib.hid (fun q hq hne => Flt.lev_known (c := ⟨p, lo, hi⟩) hfit.out hcu.out (q := q) hq hne)
   have hfput := Lib.hid (Flt.fits_put (c := ⟨p, lo, hi⟩) hfit.out)
   have hkl : (Flt.lev (S.take n) p).length ≤ 202 := HKL.out
   have HnS : Hid (n ≤ 100000) := Lib.hid (by have := HSl.out; omega)
   have Hpp : Hid (p.length ≤ 100000) := Lib.hid Hbc.out.1
   clear hkv hb2 hm hv hfit c0 c1 c2 TE Hba HX hzx Hkept HcB hz52
   obtain ⟨KA, kc, rfl, hkc⟩ := HKr.out.parts
   generalize hKK : Flt.lev (S.take n) p = K at *
   have HKK := Lib.hid hKK
   clear hKK
   have hkl' : (K.length : Int) ≤ 202 := by omega
   go_wp2_with fail
   go_loopw [9, 25] (fun _ j wq => ∃ k : Nat, k ≤ K.length ∧ j = .int .i64 (k : Int) ∧ Below w2.heap.size w2 wq) (fun _ j _ => K.length - (intOf j).toNat)
   case atStart => exact ⟨0, Nat.zero_le _, rfl, Below.refl _ _⟩
   case round =>
    obtain ⟨k, hk, rfl, hbq⟩ := hrel
    obtain ⟨q0, q1, q2, q3⟩ := CS.out wr hbq
    have HQ := Lib.hid hbq
    by_cases hlk : k < K.length
    ·obtain ⟨rb, ro, kc', e, -, -, hrb⟩ := HKr.out.block (by omega)
     injection e with e1 e2 e3
     subst e1 e3
     clear e2
     obtain ⟨r, hr⟩ : ∃ r, K[k]? = some r := ⟨_, List.getElem?_eq_getElem hlk⟩
     obtain ⟨d0, d1⟩ := Rgs.at (HKr.out.below hbq) hr
     have hrm := List.mem_of_getElem? hr
     have hk0 : (0 : Int) ≤ (k : Int) := by omega
     have hk1 : (k : Int) < (K.length : Int) := by omega
     have hba : Below wr.heap.size wr (wr.alloc (.cells #[.int .i64 r.1, .int .i64 r.2] 85)) := (Below.refl _ _).alloc (Nat.le_refl _) _
     have HQ2 : Hid (Below w2.heap.size w2 (wr.alloc (.cells #[.int .i64 r.1, .int .i64 r.2] 85))) := Lib.hid (hbq.trans (hba.mono hbq.size))
     clear hr hbq hba
     obtain ⟨r1, r2⟩ := r
     simp only at d0 d1 HQ2
     obtain ⟨z0, z1, z2, z3⟩ := CS.out _ HQ2.out
     have hne : w5.heap.size ≠ wr.heap.size := by have := Hz52.out; have := HQ.out.size; omega
     by_cases hc1 : r1 ≤ lo
     ·have g1 : decide (r1 ≤ lo) = true := decide_eq_true hc1
      by_cases hc2 : hi ≤ r2
      ·have g2 : decide (hi ≤ r2) = true := decide_eq_true hc2
       have hex : ∃ r ∈ K, r.1 ≤ lo ∧ hi ≤ r.2 := ⟨(r1, r2), hrm, hc1, hc2⟩
       have hF := Lib.hid (hfskip.out hex)
       have hV : Hid (∀ q v, m q = some v → Rgs (wr.alloc (.cells #[.int .i64 r1, .int .i64 r2] 85)) (fun i => i ≠ w.heap.size) v (Flt.lev (S.take (n + 1)) q)) := Lib.hid (fun q v hq => by
        rw [htk.out]
        by_cases e : q = p
        ·subst e
         have h1 := hskip.out hex
         have h2 : Flt.lev (S.take n ++ [⟨q, lo, hi⟩]) q = K := h1
         rw [h2, ← HKK.out]
         exact (V2.out q v hq).below HQ2.out
        ·rw [hknown.out q (by rw [hq]; simp) e]
         exact (V2.out q v hq).below HQ2.out)
       have hT := Lib.hid ((TM2.out.below HQ2.out))
       have hK3 := Lib.hid (K2.out.trans (Kept.ofBelow HQ2.out (fun i => i = w.heap.size)) (fun _ _ h => h))
       clear hex hrm
       go_wp2_with fail
       exact ⟨⟨n + 1, m, by omega, by go_num, by obtain ⟨l, a1, a2, a3⟩ := hT.out; exact Lib.hid ⟨l, a1, by omega, a3⟩, hV, by rw [htk.out]; exact hF, hK3.out⟩, by show S.length - ((n : Int) + 1).toNat < S.length - (n : Int).toNat; omega⟩
      ·have g2 : decide (hi ≤ r2) = false := decide_eq_false hc2
       clear hrm
       go_wp2_with fail
       exact ⟨⟨k + 1, by omega, by go_num, HQ2.out⟩, by show K.length - ((k : Int) + 1).toNat < K.length - (k : Int).toNat; omega⟩
     ·have g1 : decide (r1 ≤ lo) = false := decide_eq_false hc1
      clear hrm
      go_wp2_with fail
      exact ⟨⟨k + 1, by omega, by go_num, HQ2.out⟩, by show K.length - ((k : Int) + 1).toNat < K.length - (k : Int).toNat; omega⟩
    ·have HQ2 : Hid (Below w2.heap.size w2 wr.drew) := Lib.hid hbq.drew
     clear hbq
     go_wp2_with fail
     refine wp_region_held_drew (S := (fun w' : World => w'.cell? ⟨w.heap.size + 1, 0, none⟩ = some (.map (some w.heap.size)) ∧ w'.cell? ⟨w5.heap.size, 0, none⟩ = some (.string (mk p)) ∧ w'.cell? ⟨w5.heap.size, 1, none⟩ = some (.int .i64 lo) ∧ w'.cell? ⟨w5.heap.size, 2, none⟩ = some (.int .i64 hi))) (by kernel_rfl) (CS.out _ HQ2.out) (fun hHeld => ?_)
     refine wpAnyH_tk (i := 0) (v := ?_) rfl (Or.inl ⟨by rfl, (by intro w hSw; have d0 := hSw.2.1; have d1 := hSw.2.2.1; have d2 := hSw.2.2.2; have d3 := hSw.1; go_simp; try with_reducible rfl)⟩) (by assumption) ?_
     simp only [zz]
     refine wpAnyH_td (i := 1) rfl ?_
     simp only [zz]
     refine wpAnyH_tk (i := 2) (v := ?_) rfl (Or.inl ⟨by rfl, (by intro w hSw; have d0 := hSw.2.1; have d1 := hSw.2.2.1; have d2 := hSw.2.2.2; have d3 := hSw.1; go_simp; try with_reducible rfl)⟩) (by assumption) ?_
     simp only [zz]
     refine wpAnyH_td (i := 3) rfl ?_
     simp only [zz]
     refine wpAnyH_td (i := 4) rfl ?_
     simp only [zz]
     refine wpAnyH_tk (i := 5) (v := ?_) rfl (Or.inl ⟨by rfl, (by intro w hSw; have d0 := hSw.2.1; have d1 := hSw.2.2.1; have d2 := hSw.2.2.2; have d3 := hSw.1; go_simp; try with_reducible rfl)⟩) (by assumption) ?_
     simp only [zz]
     refine wpAnyH_ready (rs := [6]) (by kernel_rfl) (by simp) ?_
     refine AllReadyH.cons rfl (fun K hK => ?_) AllReadyH.nil
     go_simp
     have hb6 : Below wr.drew.heap.size wr.drew (wr.drew.alloc (.cells #[.int .i64 lo, .int .i64 hi] 85)) := (Below.refl _ _).alloc (Nat.le_refl _) _
     have HB6 : Hid (Below w2.heap.size w2 (wr.drew.alloc (.cells #[.int .i64 lo, .int .i64 hi] 85))) := Lib.hid (HQ2.out.trans (hb6.mono HQ2.out.size))
     have HM6 := Lib.hid (rg_made wr.drew 85 lo hi)
     have hS6 := CS.out _ HB6.out
     clear hb6
     refine hK.out _ _ hS6 (fun hHeld => ?_)
     clear hS6
     clear hK K
     refine wpAnyH_ready (rs := [7]) (by kernel_rfl) (by simp) ?_
     refine AllReadyH.cons rfl (fun K hK => ?_) AllReadyH.nil
     go_simp
     go_at_call 121
     refine (JO.out _ _ _ _ _ (HKr.out.below HB6.out) HM6.out).mono ?_
     rintro e w7 ⟨jv, rfl, hjv, hb7⟩
     have HB7 : Hid (Below w2.heap.size w2 w7) := Lib.hid (HB6.out.trans (hb7.mono HB6.out.size))
     have HJ := Lib.hid hjv
     have HZ7 : Hid (w2.heap.size ≤ (wr.drew.alloc (.cells #[.int .i64 lo, .int .i64 hi] 85)).heap.size) := Lib.hid HB6.out.size
     have hS7 := CS.out _ HB7.out
     clear hjv hb7
     refine hK.out _ _ hS7 (fun hHeld => ?_)
     clear hS7
     clear hK K
     refine wpAnyH_ready (rs := [8]) (by kernel_rfl) (by simp) ?_
     refine AllReadyH.cons rfl (fun K hK => ?_) AllReadyH.nil
     obtain ⟨w8, hup8, hm8, hg8⟩ := (TM2.out.below HB7.out).put (by have := HnS.out; omega) (k := p) (by have := Hpp.out; omega) jv
     have kk := Kept.ofGrown (F := fun i => i = w.heap.size) hg8 (fun i e => by injection e with e; exact e.symm)
     have hz7 := HB7.out.size
     have hz5 := Hz5.out
     have hz52 := Hz52.out
     have hS8 := (⟨(kk.cell (p := ⟨w.heap.size + 1, 0, none⟩) (by have := Hz5.out; show w.heap.size + 1 < w7.heap.size; omega) (by show ¬ (w.heap.size + 1 = w.heap.size); omega)).trans hHeld.1, (kk.cell (p := ⟨w5.heap.size, 0, none⟩) (by show w5.heap.size < w7.heap.size; omega) (by show ¬ (w5.heap.size = w.heap.size); omega)).trans hHeld.2.1, (kk.cell (p := ⟨w5.heap.size, 1, none⟩) (by show w5.heap.size < w7.heap.size; omega) (by show ¬ (w5.heap.size = w.heap.size); omega)).trans hHeld.2.2.1, (kk.cell (p := ⟨w5.heap.size, 2, none⟩) (by show w5.heap.size < w7.heap.size; omega) (by show ¬ (w5.heap.size = w.heap.size); omega)).trans hHeld.2.2.2⟩ : _ ∧ _ ∧ _ ∧ _)
     have HM8 := Lib.hid hm8
     have KK := Lib.hid kk
     clear hm8 hg8 kk hz7 hz5 hz52
     go_simp
     refine hK.out _ _ hS8 (fun hHeld => ?_)
     clear hS8
     clear hK K
     refine wpAnyH_done (by kernel_rfl) ?_ _
     have hV : Hid (∀ q v, Tm.set m p jv q = some v → Rgs w8 (fun i => i ≠ w.heap.size) v (Flt.lev (S.take (n + 1)) q)) := Lib.hid (fun q v hq => by
      rw [htk.out]
      unfold Tm.set at hq
      by_cases e : q = p
      ·subst e
       rw [if_pos rfl] at hq
       injection hq with hq
       subst hq
       have h1 := hput.out
       have h2 : Flt.lev (S.take n ++ [⟨q, lo, hi⟩]) q = Sz.two 0 K [(lo, hi)] := h1
       rw [h2]
       exact (HJ.out.mono (G := fun i => i ≠ w.heap.size) (fun i hi e => by have := hi.1; have := HZ7.out; have := Hz5.out; have := Hz52.out; omega)).kept KK.out (fun i h k => h k)
      ·rw [if_neg e] at hq
       rw [hknown.out q (by rw [hq]; simp) e]
       exact ((V2.out q v hq).below HB7.out).kept KK.out (fun i h k => h k))
     have hF : Hid (Flt.Fits (S.take (n + 1)) (fun q => Tm.set m p jv q ≠ none)) := Lib.hid (by
      rw [htk.out]
      refine hfput.out.iff (fun q => ?_)
      unfold Tm.set
      by_cases e : q = p
      ·rw [if_pos e]; exact ⟨fun _ => Or.inl e, fun _ h => by cases h⟩
      ·rw [if_neg e]; exact ⟨fun h => Or.inr h, fun h => h.resolve_left e⟩)
     have hK3 := Lib.hid ((K2.out.trans (Kept.ofBelow HB7.out (fun i => i = w.heap.size)) (fun _ _ h => h)).trans KK.out (fun _ _ h => h))
     clear hHeld
     go_wp2_with fail
     exact ⟨⟨n + 1, _, by omega, by go_num, HM8, hV, hF, hK3.out⟩, by show S.length - ((n : Int) + 1).toNat < S.length - (n : Int).toNat; omega⟩
  ·obtain rfl : n = S.length := by omega
   have hend : Hid ((∀ q v, m q = some v → Rgs w5 (fun i => i ≠ w.heap.size) v (Flt.lev f q)) ∧ (∀ q, m q = none → (q = [] → Flt.lev f [] = []) ∧ (q ≠ [] → Flt.lev f q = Flt.lev f (Pth.parent q)))) := Lib.hid (by
    have h1 := hv.out
    have h2 := hfit.out
    rw [List.take_length] at h1 h2
    refine ⟨fun q v hq => by rw [← Flt.lev_perm Hperm.out]; exact h1 q v hq, fun q hq => ?_⟩
    have := h2.2 q (fun k => k hq)
    rw [Flt.lev_perm Hperm.out, Flt.lev_perm Hperm.out, Flt.lev_perm Hperm.out] at this
    exact this)
   have HcB := Lib.hid hcB
   have Hz5 := Lib.hid hz5
   have Hfin : Hid (Below w.heap.size w w5) := Lib.hid (HB1.out.trans (hkept.below (B := w.heap.size) HB1.out.size (fun i e => by rw [e]; exact Nat.le_refl _)))
   clear hkept hv hfit hcB hz5
   go_wp2_with fail
   try rw [Exit.noGoto_ret]
   go_ret
   exact ⟨w.heap.size + 1, w.heap.size, S.length, m, rfl, HcB.out, by have := Hz5.out; omega, hm.out, hend.out.1, hend.out.2, Hfin.out⟩
open Go.RowKit
theorem flt_norm (Z : SizesOk) {w : World} {F : Nat → Prop} {v : Value} {f : List Flt.Cl} (h : Cls w F v f) (hl : f.length ≤ 100000) (bf : ∀ c ∈ f, Flt.Bd c) :
  Calls Tryz.prog 79 #[v] w fun e w' => ∃ v', e = .returned v' ∧ Cls w' (NewIn w w') v' (Flt.norm f) ∧ Below w.heap.size w w' := by
 obtain ⟨i0, hi0, hz0, hzz1, hz2⟩ := info_parts clauseInfo
 have SZ := Lib.hid (flt_sizer Z h hl bf)
 have PR := Lib.hid (fun (W : World) (hW : Below w.heap.size w W) => flt_prefixes (h.below hW) hl)
 have HPS := Lib.hid (Flt.prefixes_small (f := f) (fun c hc => (bf c hc).1))
 have hpl := Flt.prefixes_len f
 have hpl' : ((Flt.prefixes f).length : Int) ≤ 100000 := by omega
 have HPL : Hid ((Flt.prefixes f).length ≤ 100000) := Lib.hid (by omega)
 have PA := Lib.hid (fun (q : List UInt8) (hq : q.length ≤ 100000) (W : World) => path_ok.parent q W hq)
 have MI0 := Lib.hid (fun (p : List UInt8) (Y : List Sz.Rg) (hY : Y.length ≤ 202) (hYb : ∀ r ∈ Y, Bd r) (P R : Nat → Prop) (W : World) (x y : Value) (hx : Rgs W P x (Flt.lev f p)) (hy : Rgs W R y Y) => Z.minus hx hy (by have := Flt.lev_len f p; omega) (by omega) (fun r hr => by have := Flt.lev_bd f p r hr; unfold Bd; omega) hYb)
 clear h bf hpl
 go_enter Tryz.func79, Tryz.ntmps79
 go_wp2_with fail
 refine (SZ.out).mono ?_
 rintro e w1 ⟨B, bm, nn, m, rfl, hcB, hBl, hm, hv, hn, hb1⟩
 have TE1 : Hid (∀ W, Below w1.heap.size w1 W → ∀ p : List UInt8, p.length ≤ 100000 → Calls Tryz.prog 119 #[.string (mk p), .pointer (some ⟨B, 0, none⟩)] W fun e w' => ∃ v, e = .returned v ∧ Rgs w' (fun i => i ≠ bm) v (Flt.lev f p) ∧ Below W.heap.size W w') :=
  Lib.hid (fun W hW p hp => tell_any (L := Flt.lev f) (hm.below hW) ((hW.cell (p := ⟨B, 0, none⟩) hBl).trans hcB) (Nat.lt_of_lt_of_le hBl hW.size) (fun q v hq => (hv q v hq).below hW) hn p hp)
 have Hb1 := Lib.hid hb1
 clear hcB hBl hm hv hn hb1 SZ
 go_wp2_with fail
 refine (PR.out _ Hb1.out).mono ?_
 rintro e w2 ⟨pv, rfl, hpv, hb2⟩
 have HP := Lib.hid hpv
 have Hb2 := Lib.hid (Hb1.out.trans (hb2.mono Hb1.out.size))
 have TE : Hid (∀ W, Below w2.heap.size w2 W → ∀ p : List UInt8, p.length ≤ 100000 → Calls Tryz.prog 119 #[.string (mk p), .pointer (some ⟨B, 0, none⟩)] W fun e w' => ∃ v, e = .returned v ∧ Rgs w' (fun i => i ≠ bm) v (Flt.lev f p) ∧ Below W.heap.size W w') :=
  Lib.hid (fun W hW p hp => TE1.out W (hb2.trans (hW.mono hb2.size)) p hp)
 clear hpv hb2 PR TE1
 obtain ⟨PA0, pc, rfl, hpc⟩ := HP.out.parts
 go_wp2_with fail
 go_loopw [4, 6, 7, 9, 15] (fun out _ _ _ i wr => ∃ n : Nat, n ≤ (Flt.prefixes f).length ∧ i = .int .i64 (n : Int) ∧ RowsOwn 87 3 clV w2 (Flt.normTo f n) out wr) (fun _ _ _ _ i _ => (Flt.prefixes f).length - (intOf i).toNat)
 case atStart => exact ⟨0, Nat.zero_le _, rfl, RowsOwn.start _ _ _ w2⟩
 case round =>
  obtain ⟨n, hn, rfl, hown⟩ := hrel
  by_cases hlt : n < (Flt.prefixes f).length
  ·obtain ⟨pb, po, pc', e, -, -, hpb⟩ := HP.out.block (by omega)
   injection e with e1 e2 e3
   subst e1 e3
   clear e2
   obtain ⟨p, hp⟩ : ∃ p, (Flt.prefixes f)[n]? = some p := ⟨_, List.getElem?_eq_getElem hlt⟩
   have HPP := Lib.hid (HPS.out p (List.mem_of_getElem? hp))
   have hn0 : (0 : Int) ≤ (n : Int) := by omega
   have hn1 : (n : Int) < ((Flt.prefixes f).length : Int) := by omega
   have Hlt : Hid (n < (Flt.prefixes f).length) := Lib.hid hlt
   have d0 := Txs.at (HP.out.below hown.2) hp
   have hmore := Lib.hid (Flt.normTo_more hp)
   have hnl := Lib.hid (Flt.normTo_len f n (by have := HPL.out; omega))
   have Hown := Lib.hid hown
   clear hown hp hlt hn
   have ea := str_nil p
   have ia := str_empty p
   by_cases h0 : p = []
   ·rw [decide_eq_true h0] at ea ia
    have hpc2 := Flt.piece_top f
    have MI : Hid (∀ (P R : Nat → Prop) (W : World) (x y : Value), Rgs W P x (Flt.lev f p) → Rgs W R y [] → Calls Tryz.prog 92 #[x, y] W fun e w' => ∃ v', e = .returned v' ∧ Rgs w' (NewIn W w') v' (Flt.piece f p) ∧ Below W.heap.size W w') := Lib.hid (fun P R W x y hx hy => by
     have := MI0.out p [] (by simp) (fun r hr => by cases hr) P R W x y hx hy
     rw [h0] at this ⊢
     rwa [← hpc2] at this)
    have HB9 : Hid (Below w2.heap.size w2 wr) := Lib.hid Hown.out.2
    have HO9 := Hown
    have HY : Hid (Rgs wr (fun _ => False) (.slice none 0 0) []) := Lib.hid (Rws.none _ _ _)
    clear h0 hpc2 MI0
    go_wp2_with fail
    refine (TE.out _ HB9.out p HPP.out).mono ?_
    rintro e w3 ⟨xv, rfl, hx, hb3⟩
    have HX := Lib.hid hx
    have HY3 := Lib.hid (HY.out.below hb3)
    have HO3 := Lib.hid (HO9.out.below hb3)
    clear hx hb3
    go_wp2_with fail
    refine (MI.out _ _ _ _ _ HX.out HY3.out).mono ?_
    rintro e w5 ⟨qv, rfl, hq, hb5⟩
    have HQ := Lib.hid hq
    have Hown5 := Lib.hid (HO3.out.below hb5)
    have hob : Hid (∀ g, u4.ownBlock = some g → g < w3.heap.size ∨ w5.heap.size ≤ g) := Lib.hid (fun g hg => Or.inl (HO3.out.1.lt g hg).2)
    clear hq hb5
    have hql := Flt.piece_len f p
    obtain ⟨QA, qc, rfl, hqc⟩ := HQ.out.parts
    generalize Flt.piece f p = Q at *
    have hql' : (Q.length : Int) ≤ 202 := by omega
    go_wp2_with fail
    go_loopw [4, 9, 31] (fun out _ k wq => ∃ m : Nat, m ≤ Q.length ∧ k = .int .i64 (m : Int) ∧ RowsOwn 87 3 clV w2 (Flt.normTo f n ++ Flt.clauses p (Q.take m)) out wq ∧ Rgs wq (NewIn w3 w5) (.slice QA Q.length qc) Q ∧ Hid (∀ g, out.ownBlock = some g → g < w3.heap.size ∨ w5.heap.size ≤ g) ∧ w5.heap.size ≤ wq.heap.size) (fun _ _ k _ => Q.length - (intOf k).toNat)
    case atStart => exact ⟨0, Nat.zero_le _, rfl, by simpa [Flt.clauses] using Hown5.out, HQ.out, hob, Nat.le_refl _⟩
    case round =>
     obtain ⟨m, hm, rfl, hown, hq, hob, hz5⟩ := hrel
     by_cases hlm : m < Q.length
     ·obtain ⟨qb, qo, qc', e, -, hqF, hqb⟩ := hq.block (by omega)
      injection e with e1 e2 e3
      subst e1 e3
      clear e2
      obtain ⟨x, hx⟩ : ∃ x, Q[m]? = some x := ⟨_, List.getElem?_eq_getElem hlm⟩
      obtain ⟨c0, c1⟩ := Rgs.at hq hx
      have hst := Lib.hid (Flt.clauses_take (p := p) hx)
      have hcl := Flt.clauses_len p (Q.take m)
      have htl : (Q.take m).length ≤ 202 := by rw [List.length_take]; omega
      have hlen : Hid ((Flt.normTo f n ++ Flt.clauses p (Q.take m)).length ≤ 202000202) := Lib.hid (by rw [List.length_append]; have := hnl.out; omega)
      have hm0 : (0 : Int) ≤ (m : Int) := by omega
      have hm1 : (m : Int) < (Q.length : Int) := by omega
      obtain ⟨x1, x2⟩ := x
      simp only at c0 c1
      have hst : Hid (Flt.clauses p (Q.take (m + 1)) = Flt.clauses p (Q.take m) ++ [⟨p, x1, x2⟩]) := hst
      have hba : Below wr.heap.size wr (wr.alloc (.cells #[.int .i64 x1, .int .i64 x2] 85)) := (Below.refl _ _).alloc (Nat.le_refl _) _
      have hbb : Below wr.heap.size wr ((wr.alloc (.cells #[.int .i64 x1, .int .i64 x2] 85)).alloc (.cells #[.string (mk p), .int .i64 x1, .int .i64 x2] 87)) := hba.alloc hba.size _
      have HownD := Lib.hid (hown.below hba)
      have Hq2 := Lib.hid (hq.below hbb)
      have hown3 := HownD.out.1.alloc (.cells #[.string (mk p), .int .i64 x1, .int .i64 x2] 87)
      have hmade := cl_made (wr.alloc (.cells #[.int .i64 x1, .int .i64 x2] 85)) 87 p x1 x2
      have hz1 : (wr.alloc (.cells #[.int .i64 x1, .int .i64 x2] 85)).heap.size = wr.heap.size + 1 := by simp
      rw [hz1] at hmade
      have hsz3 : w2.heap.size ≤ ((wr.alloc (.cells #[.int .i64 x1, .int .i64 x2] 85)).alloc (.cells #[.string (mk p), .int .i64 x1, .int .i64 x2] 87)).heap.size := by have := HownD.out.2.size; simp at this ⊢; omega
      have Hob := hob
      have Hz5 : Hid (w5.heap.size ≤ wr.heap.size) := Lib.hid hz5
      clear hown hx hcl htl hq hba hbb hz1
      generalize hO : Flt.normTo f n ++ Flt.clauses p (Q.take m) = O at *
      have HO := Lib.hid hO
      clear hO
      go_wp2_with (at_builtin; refine wp_joins (f := clV) (k := 3) rfl _ _ 26 rfl w2.heap.size 87 i0 (.agg #[.string ⟨#[]⟩, .int .i64 0, .int .i64 0]) 32 Tryz.underlying26 hi0 hz0 hzz1 hz2 rfl (by decide) rfl rfl hown3 hmade (fun _ _ => rfl) (fun x _ => cl_one x) ?c3 ?c4 hsz3 ?_)
      case c3 => have := hlen.out; unfold maxLen; first | omega | (simp <;> omega)
      case c4 => have := hlen.out; first | omega | (simp <;> omega)
      intro v9 w9 own9 hg9 hn9
      have Hnew := Lib.hid (HownD.out.more (x := (⟨p, x1, x2⟩ : Flt.Cl)) (v' := v9) (by simpa [clV] using own9) hg9)
      have kk := Kept.ofGrown (F := fun i => u4.ownBlock = some i) hg9 (fun i e => e)
      have Hq9 : Hid (Rgs w9 (NewIn w3 w5) (.slice (some ⟨qb, qo, none⟩) Q.length qc) Q) := Lib.hid (Hq2.out.kept kk (fun i hi e => by have := Hob.out _ e; have := hi.1; have := hi.2; omega))
      have hob9 : Hid (∀ g, v9.ownBlock = some g → g < w3.heap.size ∨ w5.heap.size ≤ g) := Lib.hid (fun g hg => by
       rcases hn9 with h | h
       ·exact Hob.out g (h ▸ hg)
       ·have := h g hg; simp at this; exact Or.inr (by have := Hz5.out; omega))
      have hz9 : Hid (w5.heap.size ≤ w9.heap.size) := Lib.hid (by have := hg9.size; simp at this; have := Hz5.out; omega)
      clear own9 hg9 hn9 kk hown3 hmade hsz3
      go_wp2_with fail
      exact ⟨⟨m + 1, by omega, by go_num, by rw [hst.out, ← List.append_assoc, HO.out]; exact Hnew.out, Hq9.out, hob9, hz9.out⟩, by show Q.length - ((m : Int) + 1).toNat < Q.length - (m : Int).toNat; omega⟩
     ·obtain rfl : m = Q.length := by omega
      rw [List.take_length] at hown
      have Hown := Lib.hid hown
      clear hown hq hob
      go_wp2_with fail
      exact ⟨⟨n + 1, by have := Hlt.out; omega, by go_num, by rw [hmore.out]; exact Hown.out⟩, by have := Hlt.out; show (Flt.prefixes f).length - ((n : Int) + 1).toNat < (Flt.prefixes f).length - (n : Int).toNat; omega⟩
   ·rw [decide_eq_false h0] at ea ia
    have hpc2 := Flt.piece_under f h0
    have MI : Hid (∀ (P R : Nat → Prop) (W : World) (x y : Value), Rgs W P x (Flt.lev f p) → Rgs W R y (Flt.lev f (Pth.parent p)) → Calls Tryz.prog 92 #[x, y] W fun e w' => ∃ v', e = .returned v' ∧ Rgs w' (NewIn W w') v' (Flt.piece f p) ∧ Below W.heap.size W w') := Lib.hid (fun P R W x y hx hy => by
     have := MI0.out p _ (Flt.lev_len f (Pth.parent p)) (fun r hr => by have := Flt.lev_bd f (Pth.parent p) r hr; unfold Bd; omega) P R W x y hx hy
     rwa [← hpc2] at this)
    have PQ := Lib.hid (PA.out p HPP.out)
    have hpl2 : Hid ((Pth.parent p).length ≤ 100000) := Lib.hid (by have := Pth.parent_short h0; have := HPP.out; omega)
    clear h0 hpc2 MI0
    go_wp2_with fail
    refine (PQ.out _).mono ?_
    rintro e w6 ⟨rfl, hb6⟩
    have HO6 := Lib.hid (Hown.out.below hb6)
    clear hb6
    go_wp2_with fail
    refine (TE.out _ HO6.out.2 _ hpl2.out).mono ?_
    rintro e w7 ⟨yv, rfl, hy, hb7⟩
    have HY := Lib.hid hy
    have HO9 := Lib.hid (HO6.out.below hb7)
    have HB9 : Hid (Below w2.heap.size w2 w7) := Lib.hid HO9.out.2
    clear hy hb7
    go_wp2_with fail
    refine (TE.out _ HB9.out p HPP.out).mono ?_
    rintro e w3 ⟨xv, rfl, hx, hb3⟩
    have HX := Lib.hid hx
    have HY3 := Lib.hid (HY.out.below hb3)
    have HO3 := Lib.hid (HO9.out.below hb3)
    clear hx hb3
    go_wp2_with fail
    refine (MI.out _ _ _ _ _ HX.out HY3.out).mono ?_
    rintro e w5 ⟨qv, rfl, hq, hb5⟩
    have HQ := Lib.hid hq
    have Hown5 := Lib.hid (HO3.out.below hb5)
    have hob : Hid (∀ g, u4.ownBlock = some g → g < w3.heap.size ∨ w5.heap.size ≤ g) := Lib.hid (fun g hg => Or.inl (HO3.out.1.lt g hg).2)
    clear hq hb5
    have hql := Flt.piece_len f p
    obtain ⟨QA, qc, rfl, hqc⟩ := HQ.out.parts
    generalize Flt.piece f p = Q at *
    have hql' : (Q.length : Int) ≤ 202 := by omega
    go_wp2_with fail
    go_loopw [4, 9, 31] (fun out _ k wq => ∃ m : Nat, m ≤ Q.length ∧ k = .int .i64 (m : Int) ∧ RowsOwn 87 3 clV w2 (Flt.normTo f n ++ Flt.clauses p (Q.take m)) out wq ∧ Rgs wq (NewIn w3 w5) (.slice QA Q.length qc) Q ∧ Hid (∀ g, out.ownBlock = some g → g < w3.heap.size ∨ w5.heap.size ≤ g) ∧ w5.heap.size ≤ wq.heap.size) (fun _ _ k _ => Q.length - (intOf k).toNat)
    case atStart => exact ⟨0, Nat.zero_le _, rfl, by simpa [Flt.clauses] using Hown5.out, HQ.out, hob, Nat.le_refl _⟩
    case round =>
     obtain ⟨m, hm, rfl, hown, hq, hob, hz5⟩ := hrel
     by_cases hlm : m < Q.length
     ·obtain ⟨qb, qo, qc', e, -, hqF, hqb⟩ := hq.block (by omega)
      injection e with e1 e2 e3
      subst e1 e3
      clear e2
      obtain ⟨x, hx⟩ : ∃ x, Q[m]? = some x := ⟨_, List.getElem?_eq_getElem hlm⟩
      obtain ⟨c0, c1⟩ := Rgs.at hq hx
      have hst := Lib.hid (Flt.clauses_take (p := p) hx)
      have hcl := Flt.clauses_len p (Q.take m)
      have htl : (Q.take m).length ≤ 202 := by rw [List.length_take]; omega
      have hlen : Hid ((Flt.normTo f n ++ Flt.clauses p (Q.take m)).length ≤ 202000202) := Lib.hid (by rw [List.length_append]; have := hnl.out; omega)
      have hm0 : (0 : Int) ≤ (m : Int) := by omega
      have hm1 : (m : Int) < (Q.length : Int) := by omega
      obtain ⟨x1, x2⟩ := x
      simp only at c0 c1
      have hst : Hid (Flt.clauses p (Q.take (m + 1)) = Flt.clauses p (Q.take m) ++ [⟨p, x1, x2⟩]) := hst
      have hba : Below wr.heap.size wr (wr.alloc (.cells #[.int .i64 x1, .int .i64 x2] 85)) := (Below.refl _ _).alloc (Nat.le_refl _) _
      have hbb : Below wr.heap.size wr ((wr.alloc (.cells #[.int .i64 x1, .int .i64 x2] 85)).alloc (.cells #[.string (mk p), .int .i64 x1, .int .i64 x2] 87)) := hba.alloc hba.size _
      have HownD := Lib.hid (hown.below hba)
      have Hq2 := Lib.hid (hq.below hbb)
      have hown3 := HownD.out.1.alloc (.cells #[.string (mk p), .int .i64 x1, .int .i64 x2] 87)
      have hmade := cl_made (wr.alloc (.cells #[.int .i64 x1, .int .i64 x2] 85)) 87 p x1 x2
      have hz1 : (wr.alloc (.cells #[.int .i64 x1, .int .i64 x2] 85)).heap.size = wr.heap.size + 1 := by simp
      rw [hz1] at hmade
      have hsz3 : w2.heap.size ≤ ((wr.alloc (.cells #[.int .i64 x1, .int .i64 x2] 85)).alloc (.cells #[.string (mk p), .int .i64 x1, .int .i64 x2] 87)).heap.size := by have := HownD.out.2.size; simp at this ⊢; omega
      have Hob := hob
      have Hz5 : Hid (w5.heap.size ≤ wr.heap.size) := Lib.hid hz5
      clear hown hx hcl htl hq hba hbb hz1
      generalize hO : Flt.normTo f n ++ Flt.clauses p (Q.take m) = O at *
      have HO := Lib.hid hO
      clear hO
      go_wp2_with (at_builtin; refine wp_joins (f := clV) (k := 3) rfl _ _ 26 rfl w2.heap.size 87 i0 (.agg #[.string ⟨#[]⟩, .int .i64 0, .int .i64 0]) 32 Tryz.underlying26 hi0 hz0 hzz1 hz2 rfl (by decide) rfl rfl hown3 hmade (fun _ _ => rfl) (fun x _ => cl_one x) ?c3 ?c4 hsz3 ?_)
      case c3 => have := hlen.out; unfold maxLen; first | omega | (simp <;> omega)
      case c4 => have := hlen.out; first | omega | (simp <;> omega)
      intro v9 w9 own9 hg9 hn9
      have Hnew := Lib.hid (HownD.out.more (x := (⟨p, x1, x2⟩ : Flt.Cl)) (v' := v9) (by simpa [clV] using own9) hg9)
      have kk := Kept.ofGrown (F := fun i => u4.ownBlock = some i) hg9 (fun i e => e)
      have Hq9 : Hid (Rgs w9 (NewIn w3 w5) (.slice (some ⟨qb, qo, none⟩) Q.length qc) Q) := Lib.hid (Hq2.out.kept kk (fun i hi e => by have := Hob.out _ e; have := hi.1; have := hi.2; omega))
      have hob9 : Hid (∀ g, v9.ownBlock = some g → g < w3.heap.size ∨ w5.heap.size ≤ g) := Lib.hid (fun g hg => by
       rcases hn9 with h | h
       ·exact Hob.out g (h ▸ hg)
       ·have := h g hg; simp at this; exact Or.inr (by have := Hz5.out; omega))
      have hz9 : Hid (w5.heap.size ≤ w9.heap.size) := Lib.hid (by have := hg9.size; simp at this; have := Hz5.out; omega)
      clear own9 hg9 hn9 kk hown3 hmade hsz3
      go_wp2_with fail
      exact ⟨⟨m + 1, by omega, by go_num, by rw [hst.out, ← List.append_assoc, HO.out]; exact Hnew.out, Hq9.out, hob9, hz9.out⟩, by show Q.length - ((m : Int) + 1).toNat < Q.length - (m : Int).toNat; omega⟩
     ·obtain rfl : m = Q.length := by omega
      rw [List.take_length] at hown
      have Hown := Lib.hid hown
      clear hown hq hob
      go_wp2_with fail
      exact ⟨⟨n + 1, by have := Hlt.out; omega, by go_num, by rw [hmore.out]; exact Hown.out⟩, by have := Hlt.out; show (Flt.prefixes f).length - ((n : Int) + 1).toNat < (Flt.prefixes f).length - (n : Int).toNat; omega⟩
  ·obtain rfl : n = (Flt.prefixes f).length := by omega
   rw [Flt.normTo_all] at hown
   have Hrows := Lib.hid ((hown.rows (fun _ _ => rfl)).mono (G := NewIn w wr) (fun i hi => ⟨Nat.le_trans Hb2.out.size hi.1, hi.2⟩))
   have Hfin := Lib.hid (Hb2.out.trans (hown.2.mono Hb2.out.size))
   clear hown
   go_wp2_with fail
   go_ret
   exact ⟨_, rfl, Hrows.out, Hfin.out⟩
open Go.RowKit Go.Shelf Go.Lib
open Go.RowKit Go.Shelf Go.Lib Go.Sort
def cmpLo (x y : Sz.Rg) : Int := Lib.compareInt x.1 y.1
theorem lt_lo (x y : Sz.Rg) : ltOf cmpLo x y = decide (x.1 < y.1) := by
 unfold ltOf cmpLo Lib.compareInt
 by_cases h1 : x.1 < y.1
 ·simp [h1]
 ·by_cases h2 : y.1 < x.1 <;> simp [h1, h2]
theorem swo_lo : SWO (ltOf cmpLo) where
 irrefl x := by rw [lt_lo]; simp
 trans x y z h1 h2 := by rw [lt_lo] at *; simp at *; omega
 ntrans x y z h1 h2 := by rw [lt_lo] at *; simp at *; omega
theorem ris_cmp (x y : Sz.Rg) (W : World) : Calls Tryz.prog 179 #[.agg #[.int .i64 x.1, .int .i64 x.2], .agg #[.int .i64 y.1, .int .i64 y.2]] W fun e w' => e = .returned (.int .i64 (cmpLo x y)) ∧ ∃ q os', w' = grow (W.drewN q) os' := by
 have hcon := fun W' => AnyG.cmp_Compare_int Tryz.cmpInt x.1 y.1 W'
 change ∀ W', Calls Tryz.prog 77 _ _ _ at hcon
 unfold cmpLo
 generalize Lib.compareInt x.1 y.1 = r at hcon ⊢
 go_enter Tryz.func179, Tryz.ntmps179
 go_wp2_with (go_at_call 77; refine (hcon _).mono ?_; rintro e w' ⟨rfl, rfl⟩)
 go_ret
 exact ⟨rfl, 0, _, by rw [alloc_eq_grow, alloc_eq_grow, grow_grow]; rfl⟩
theorem ris_sort {w wr : World} {v : Value} {l : List Sz.Rg} (h : RowsOwn 85 2 rgV w l v wr) (hl : l.length ≤ 1000000) :
  Calls Tryz.prog 178 #[v, .func (.func 179) #[] #[]] wr fun e w' => e = .returned (.tuple #[]) ∧ ∃ S : List Sz.Rg, RowsOwn 85 2 rgV w S v w' ∧ S.Perm l ∧ ∀ (i j : Nat) (x y : Sz.Rg), i < j → S[i]? = some x → S[j]? = some y → x.1 ≤ y.1 := by
 rcases Nat.eq_zero_or_pos l.length with h0 | h0
 ·have hl0 : l = [] := List.eq_nil_of_length_eq_zero h0
  subst hl0
  obtain ⟨A, cap, e, -⟩ := (h.rows (fun _ _ => rfl)).parts
  rw [List.length_nil] at e
  subst e
  refine (AnyF.slices_SortFunc_none (P := Tryz.prog) (ρ := Tryz.sortRg_ren) { Tryz.sortRg with } A cap _ wr).mono ?_
  rintro e w' ⟨rfl, rfl⟩
  exact ⟨rfl, [], h, List.Perm.refl _, fun i j x y _ hx _ => by simp at hx⟩
 ·obtain ⟨g, cap, rfl, hg0, hgl⟩ := h.1.form (by omega)
  have eg : ∀ args w, (callFunc 179 args).run Tryz.prog w = .ok (.enter 179 args) w := enters_of Tryz.func179 (by kernel_rfl) rfl
  have hcon := AnyQ.slices_SortFunc Tryz.sortRg 2 Tryz.isAgg85 Tryz.sizeOf85 rgV rg_len rg_one cmpLo swo_lo 179 #[] g 0 cap l.toArray wr eg (fun _ _ _ _ x y => ris_cmp x y _) (own_holds rg_len (by decide) h.1) hgl (by simp; omega)
  refine hcon.mono ?_
  rintro e w' ⟨rfl, d, n, os, hp, hs, rfl⟩
  obtain ⟨hperm, hsz⟩ := perm_list hp
  refine ⟨rfl, d.toList, h.sorted rg_len (by decide) hsz, hperm, fun i j x y hij hx hy => ?_⟩
  rw [Array.getElem?_toList] at hx hy
  obtain ⟨hi, ex⟩ := Array.getElem?_eq_some_iff.1 hx
  obtain ⟨hj, ey⟩ := Array.getElem?_eq_some_iff.1 hy
  have hlt := hs i j (Nat.zero_le _) hij (by simpa [hsz] using hj)
  rw [lt_lo, getElem!_pos d i hi, getElem!_pos d j hj, ex, ey] at hlt
  have := of_decide_eq_false hlt
  omega
end Go.Proofs.YtkcgmnhjofoeiaaGreat
