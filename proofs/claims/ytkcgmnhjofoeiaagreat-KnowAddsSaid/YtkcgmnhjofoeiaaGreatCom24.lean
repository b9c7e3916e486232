import Derived.Test.YtkcgmnhjofoeiaaGreatCom18
import Derived.Test.YtkcgmnhjofoeiaaGreatCom9
import Derived.Test.YtkcgmnhjofoeiaaGreatCom4
import Derived.Test.YtkcgmnhjofoeiaaGreatCom6
import Derived.Test.YtkcgmnhjofoeiaaGreatCom10
set_option maxRecDepth 100000
set_option linter.all false
set_option maxHeartbeats 12800000
namespace Go.Proofs.YtkcgmnhjofoeiaaGreat
open Go.RowKit
theorem Flt.clauses_take {p : Flt.Tx} {l : List Sz.Rg} {m : Nat} {r : Sz.Rg} (h : l[m]? = some r) : Flt.clauses p (l.take (m + 1)) = Flt.clauses p (l.take m) ++ [⟨p, r.1, r.2⟩] := by
 obtain ⟨hl, he⟩ := List.getElem?_eq_some_iff.1 h
 rw [List.take_succ_eq_append_getElem hl, he]
 unfold Flt.clauses
 rw [List.map_append]
 rfl
def Flt.normTo (f : List Flt.Cl) (n : Nat) : List Flt.Cl := ((Flt.prefixes f).take n).flatMap fun p => Flt.clauses p (Flt.piece f p)
theorem Flt.normTo_more {f : List Flt.Cl} {n : Nat} {p : Flt.Tx} (h : (Flt.prefixes f)[n]? = some p) : Flt.normTo f (n + 1) = Flt.normTo f n ++ Flt.clauses p (Flt.piece f p) := by
 obtain ⟨hl, he⟩ := List.getElem?_eq_some_iff.1 h
 unfold Flt.normTo
 rw [List.take_succ_eq_append_getElem hl, he, List.flatMap_append]
 simp
theorem Flt.normTo_all (f : List Flt.Cl) : Flt.normTo f (Flt.prefixes f).length = Flt.norm f := by
 unfold Flt.normTo Flt.norm
 rw [List.take_length]
theorem Flt.normTo_len (f : List Flt.Cl) (n : Nat) (hn : n ≤ 1000000) : (Flt.normTo f n).length ≤ 202000000 := by
 have h1 := Flt.flat_len (fun p => Flt.clauses p (Flt.piece f p)) 202 ((Flt.prefixes f).take n) (fun p _ => by unfold Flt.clauses; rw [List.length_map]; exact Flt.piece_len f p)
 have h2 : ((Flt.prefixes f).take n).length ≤ n := by rw [List.length_take]; omega
 unfold Flt.normTo
 omega
theorem Flt.clauses_len (p : Flt.Tx) (l : List Sz.Rg) : (Flt.clauses p l).length = l.length := by unfold Flt.clauses; rw [List.length_map]
theorem Flt.prefixes_small {f : List Flt.Cl} (hs : ∀ c ∈ f, c.pre.length ≤ 100000) : ∀ p ∈ Flt.prefixes f, p.length ≤ 100000 := by
 intro p hp
 obtain ⟨c, hc, rfl⟩ := (Flt.prefixes_mem f p).1 hp
 exact hs c hc
theorem ref_fnorm {w : World} {F : Nat → Prop} {v : Value} {f : List Flt.Cl} (h : Cls w F v f) (hl : f.length ≤ 1000000) (hs : ∀ c ∈ f, c.pre.length ≤ 100000) :
  Calls Tryz.prog 56 #[v] w fun e w' => ∃ v', e = .returned v' ∧ RowsOwn 87 3 clV w (Flt.norm f) v' w' := by
 obtain ⟨i0, hi0, hz0, hz1, hz2⟩ := info_parts clauseInfo
 have PRE := Lib.hid (ref_prefixes h (by omega))
 have SZ := Lib.hid (fun (p : List UInt8) (hp : p.length ≤ 100000) (W : World) (hW : Below w.heap.size w W) => ref_fsizes (p := p) (h.below hW) (by omega) hp hs)
 have AB := Lib.hid (fun (p : List UInt8) (hp : p.length ≤ 100000) (W : World) (hW : Below w.heap.size w W) => ref_above (p := p) (h.below hW) (by omega) hp hs)
 have SA : Hid (∀ (p : List UInt8), p.length ≤ 100000 → ∀ (A B : World) (x : Value), RowsOwn 87 3 clV A (Flt.above f p) x B → Calls Tryz.prog 84 #[x, .string (mk p)] B fun e w' => ∃ v', e = .returned v' ∧ RowsOwn 85 2 rgV B (Flt.sizes (Flt.above f p) p) v' w') :=
  Lib.hid (fun p hp A B x hx => ref_fsizes (p := p) (hx.rows (fun _ _ => rfl)) (by have := List.length_filter_le (fun c : Flt.Cl => decide (c.pre ≠ p ∧ Pth.Covers c.pre p)) f; unfold Flt.above; omega) hp (fun c hc => hs c (List.mem_filter.1 hc).1))
 have TW : Hid (∀ (p : List UInt8) (A B C D : World) (x y : Value), RowsOwn 85 2 rgV A (Flt.sizes f p) x B → Below B.heap.size B C → RowsOwn 85 2 rgV C (Flt.sizes (Flt.above f p) p) y D → Calls Tryz.prog 83 #[x, y, .int .i64 2] D fun e w' => ∃ v', e = .returned v' ∧ RowsOwn 85 2 rgV D (Flt.piece f p) v' w') :=
  Lib.hid (fun p A B C D x y hx hBC hy => by
   have l1 := Flt.sizes_len f p
   have l2 := Flt.sizes_len (Flt.above f p) p
   have l3 := List.length_filter_le (fun c : Flt.Cl => decide (c.pre ≠ p ∧ Pth.Covers c.pre p)) f
   have l4 : (Flt.above f p).length ≤ f.length := l3
   exact ref_two (((hx.rows (fun _ _ => rfl)).below hBC).below hy.2) (hy.rows (fun _ _ => rfl)) (by omega) (by omega) 2 (by omega))
 have HPS := Lib.hid (Flt.prefixes_small hs)
 have hpl := Flt.prefixes_len f
 have hpl' : ((Flt.prefixes f).length : Int) ≤ 1000000 := by omega
 have HPL : Hid ((Flt.prefixes f).length ≤ 1000000) := Lib.hid (by omega)
 clear h hs hpl
 go_enter Tryz.func56, Tryz.ntmps56
 go_wp2_with fail
 refine (PRE.out).mono ?_
 rintro e w1 ⟨pv, rfl, hpv⟩
 have HP := Lib.hid (hpv.rows (fun _ _ => rfl))
 have Hb1 := Lib.hid hpv.2
 clear hpv PRE
 obtain ⟨PA, pc, rfl, hpc⟩ := HP.out.parts
 go_wp2_with fail
 go_loopw [3, 5, 6, 7] (fun out i _ _ wr => ∃ n : Nat, n ≤ (Flt.prefixes f).length ∧ i = .int .i64 (n : Int) ∧ RowsOwn 87 3 clV w1 (Flt.normTo f n) out wr) (fun _ i _ _ _ => (Flt.prefixes f).length - (intOf i).toNat)
 case atStart => exact ⟨0, Nat.zero_le _, rfl, RowsOwn.start _ _ _ w1⟩
 case round =>
  obtain ⟨n, hn, rfl, hown⟩ := hrel
  by_cases hlt : n < (Flt.prefixes f).length
  ·obtain ⟨pb, po, pc', e, -, -, hpb⟩ := HP.out.block (by omega)
   injection e with e1 e2 e3
   subst e1 e3
   clear e2
   obtain ⟨p, hp⟩ : ∃ p, (Flt.prefixes f)[n]? = some p := ⟨_, List.getElem?_eq_getElem hlt⟩
   have hpp := HPS.out p (List.mem_of_getElem? hp)
   have hn0 : (0 : Int) ≤ (n : Int) := by omega
   have hn1 : (n : Int) < ((Flt.prefixes f).length : Int) := by omega
   have CP : Hid (∀ W, Below w1.heap.size w1 W → W.cell? ⟨pb, po + n, none⟩ = some (.string (mk p))) := Lib.hid (fun W hW => Txs.at (HP.out.below hW) hp)
   have hmore := Lib.hid (Flt.normTo_more hp)
   have hnl := Lib.hid (Flt.normTo_len f n (by have := HPL.out; omega))
   have HB1 : Hid (Below w.heap.size w wr) := Lib.hid (Hb1.out.trans (hown.2.mono Hb1.out.size))
   have Hown := Lib.hid hown
   have Hbel := Lib.hid hown.2
   clear hown hp
   go_wp2_with fail
   refine wp_region_held_drew (S := (fun w' : World => Below wr.heap.size wr w')) (by kernel_rfl) ((Below.refl _ _).drew) (fun hHeld => ?_)
   refine wpAnyH_td (i := 0) rfl ?_
   simp only [zz]
   refine wpAnyH_td (i := 1) rfl ?_
   simp only [zz]
   refine wpAnyH_td (i := 2) rfl ?_
   simp only [zz]
   refine wpAnyH_td (i := 3) rfl ?_
   simp only [zz]
   refine wpAnyH_tk (i := 4) (v := ?_) rfl (Or.inl ⟨by rfl, (by intro w hSw; have d0 := CP.out _ (Hbel.out.trans (hSw.mono Hbel.out.size)); go_simp; try with_reducible rfl)⟩) (by assumption) ?_
   simp only [zz]
   refine wpAnyH_td (i := 6) rfl ?_
   simp only [zz]
   refine wpAnyH_td (i := 7) rfl ?_
   simp only [zz]
   refine wpAnyH_td (i := 8) rfl ?_
   simp only [zz]
   refine wpAnyH_td (i := 9) rfl ?_
   simp only [zz]
   refine wpAnyH_tk (i := 10) (v := ?_) rfl (Or.inl ⟨by rfl, (by intro w hSw; have d0 := CP.out _ (Hbel.out.trans (hSw.mono Hbel.out.size)); go_simp; try with_reducible rfl)⟩) (by assumption) ?_
   simp only [zz]
   refine wpAnyH_td (i := 12) rfl ?_
   simp only [zz]
   refine wpAnyH_td (i := 13) rfl ?_
   simp only [zz]
   refine wpAnyH_td (i := 14) rfl ?_
   simp only [zz]
   refine wpAnyH_tk (i := 15) (v := ?_) rfl (Or.inl ⟨by rfl, (by intro w hSw; have d0 := CP.out _ (Hbel.out.trans (hSw.mono Hbel.out.size)); go_simp; try with_reducible rfl)⟩) (by assumption) ?_
   simp only [zz]
   refine wpAnyH_ready (rs := [5]) (by kernel_rfl) (by simp) ?_
   refine AllReadyH.cons rfl (fun K hK => ?_) AllReadyH.nil
   go_simp
   go_at_call 84
   refine (SZ.out p hpp _ (HB1.out.trans (hHeld.mono HB1.out.size))).mono ?_
   rintro e w2 ⟨s1, rfl, hs1⟩
   have hhN := hHeld.trans (hs1.2.mono hHeld.size)
   have HS1 := Lib.hid hs1
   clear hs1
   refine hK.out _ _ hhN (fun hHeld => ?_)
   clear hhN
   clear hK K
   refine wpAnyH_ready (rs := [11]) (by kernel_rfl) (by simp) ?_
   refine AllReadyH.cons rfl (fun K hK => ?_) AllReadyH.nil
   go_simp
   go_at_call 87
   refine (AB.out p hpp _ (HB1.out.trans (hHeld.mono HB1.out.size))).mono ?_
   rintro e w3 ⟨av, rfl, ha1⟩
   have hhN := hHeld.trans (ha1.2.mono hHeld.size)
   have HA1 := Lib.hid ha1
   clear ha1
   refine hK.out _ _ hhN (fun hHeld => ?_)
   clear hhN
   clear hK K
   refine wpAnyH_ready (rs := [16]) (by kernel_rfl) (by simp) ?_
   refine AllReadyH.cons rfl (fun K hK => ?_) AllReadyH.nil
   go_simp
   go_at_call 84
   refine (SA.out p hpp _ _ _ HA1.out).mono ?_
   rintro e w4 ⟨s2, rfl, hs2⟩
   have hhN := hHeld.trans (hs2.2.mono hHeld.size)
   have HS2 := Lib.hid hs2
   clear hs2
   refine hK.out _ _ hhN (fun hHeld => ?_)
   clear hhN
   clear hK K
   refine wpAnyH_ready (rs := [17]) (by kernel_rfl) (by simp) ?_
   refine AllReadyH.cons rfl (fun K hK => ?_) AllReadyH.nil
   have hh4 := hHeld
   go_simp
   go_at_call 83
   refine (TW.out p _ _ _ _ _ _ HS1.out HA1.out.2 HS2.out).mono ?_
   rintro e w5 ⟨s4, rfl, hs4⟩
   have hhN := hHeld.trans (hs4.2.mono hHeld.size)
   have HS4 := Lib.hid hs4
   clear hs4
   refine hK.out _ _ hhN (fun hHeld => ?_)
   clear hhN
   clear hK K
   refine wpAnyH_td (i := 18) rfl ?_
   simp only [zz]
   refine wpAnyH_done (by kernel_rfl) ?_ _
   have HQ := Lib.hid (HS4.out.rows (fun _ _ => rfl))
   have Hown5 := Lib.hid (Hown.out.below hHeld)
   have hob : Hid (∀ g, u3.ownBlock = some g → g < w4.heap.size ∨ w5.heap.size ≤ g) := Lib.hid (fun g hg => Or.inl (by have := (Hown.out.1.lt g hg).2; have := hh4.size; omega))
   have Hz45 : Hid (w4.heap.size ≤ w5.heap.size) := Lib.hid HS4.out.2.size
   clear hHeld Hown Hbel HB1 HS4 hh4
   have hql := Flt.piece_len f p
   obtain ⟨QA, qc, rfl, hqc⟩ := HQ.out.parts
   generalize hQ : Flt.piece f p = Q at *
   have HQQ := Lib.hid hQ
   clear hQ
   have hql' : (Q.length : Int) ≤ 202 := by omega
   go_wp2_with fail
   go_loopw [3, 7] (fun out k wq => ∃ m : Nat, m ≤ Q.length ∧ k = .int .i64 (m : Int) ∧ RowsOwn 87 3 clV w1 (Flt.normTo f n ++ Flt.clauses p (Q.take m)) out wq ∧ Rgs wq (NewIn w4 w5) (.slice QA Q.length qc) Q ∧ Hid (∀ g, out.ownBlock = some g → g < w4.heap.size ∨ w5.heap.size ≤ g) ∧ w5.heap.size ≤ wq.heap.size) (fun _ k _ => Q.length - (intOf k).toNat)
   case atStart => exact ⟨0, Nat.zero_le _, rfl, by simpa [Flt.clauses] using Hown5.out, HQ.out, hob, Nat.le_refl _⟩
   case round =>
    obtain ⟨m, hm, rfl, hown, hq, hob, hz5⟩ := hrel
    by_cases hlm : m < Q.length
    ·obtain ⟨qb, qo, qc', e, -, hqF, hqb⟩ := hq.block (by omega)
     injection e with e1 e2 e3
     subst e1 e3
     clear e2
     obtain ⟨x, hx⟩ : ∃ x, Q[m]? = some x := ⟨_, List.getElem?_eq_getElem hlm⟩
     obtain ⟨c0, c1⟩ := Rgs.at hq hx
     have d0 := CP.out wr hown.2
     have hst := Lib.hid (Flt.clauses_take (p := p) hx)
     have hcl := Flt.clauses_len p (Q.take m)
     have htl : (Q.take m).length ≤ 202 := by rw [List.length_take]; omega
     have hlen : Hid ((Flt.normTo f n ++ Flt.clauses p (Q.take m)).length ≤ 202000202) := Lib.hid (by rw [List.length_append]; have := hnl.out; omega)
     have hm0 : (0 : Int) ≤ (m : Int) := by omega
     have hm1 : (m : Int) < (Q.length : Int) := by omega
     have hpq : pb < wr.heap.size := by have := hown.2.size; omega
     obtain ⟨x1, x2⟩ := x
     simp only at c0 c1
     have hst : Hid (Flt.clauses p (Q.take (m + 1)) = Flt.clauses p (Q.take m) ++ [⟨p, x1, x2⟩]) := hst
     have HownD := Lib.hid (hown.below ((Below.refl _ _).drew))
     have hrow : ∀ g, u3.ownBlock = some g → w1.heap.size ≤ g ∧ g < wr.heap.size := fun g hg => hown.1.lt g hg
     have Hrow := Lib.hid hrow
     have Hq := Lib.hid hq
     clear hown hx hcl htl hq hrow
     generalize hO : Flt.normTo f n ++ Flt.clauses p (Q.take m) = O at *
     have HO := Lib.hid hO
     clear hO
     go_wp2_with fail
     refine wp_region_held_drew (S := (fun w' : World => w'.cell? ⟨pb, po + n, none⟩ = some (.string (mk p)) ∧ w'.cell? ⟨qb, qo + m * 2, none⟩ = some (.int .i64 x1) ∧ w'.cell? ⟨qb, qo + m * 2 + 1, none⟩ = some (.int .i64 x2))) (by kernel_rfl) ⟨d0, c0, c1⟩ (fun hHeld => ?_)
     refine wpAnyH_td (i := 0) rfl ?_
     simp only [zz]
     refine wpAnyH_td (i := 1) rfl ?_
     simp only [zz]
     refine wpAnyH_td (i := 2) rfl ?_
     simp only [zz]
     refine wpAnyH_td (i := 3) rfl ?_
     simp only [zz]
     refine wpAnyH_tk (i := 4) (v := ?_) rfl (Or.inl ⟨by rfl, (by intro w hSw; have d0 := hSw.1; have c0 := hSw.2.1; have c1 := hSw.2.2; go_simp; try with_reducible rfl)⟩) (by assumption) ?_
     simp only [zz]
     refine wpAnyH_td (i := 5) rfl ?_
     simp only [zz]
     refine wpAnyH_td (i := 6) rfl ?_
     simp only [zz]
     refine wpAnyH_td (i := 7) rfl ?_
     simp only [zz]
     refine wpAnyH_tk (i := 8) (v := ?_) rfl (Or.inl ⟨by rfl, (by intro w hSw; have d0 := hSw.1; have c0 := hSw.2.1; have c1 := hSw.2.2; go_simp; try with_reducible rfl)⟩) (by assumption) ?_
     simp only [zz]
     refine wpAnyH_td (i := 9) rfl ?_
     simp only [zz]
     refine wpAnyH_ready (rs := [10]) (by kernel_rfl) (by simp) ?_
     refine AllReadyH.cons rfl (fun K hK => ?_) AllReadyH.nil
     go_simp
     have hb10 : Below wr.drew.heap.size wr.drew (wr.drew.alloc (.cells #[.string (mk p), .int .i64 x1, .int .i64 x2] 87)) := (Below.refl _ _).alloc (Nat.le_refl _) _
     refine hK.out _ _ ⟨(hb10.cell (p := ⟨pb, po + n, none⟩) hpq).trans hHeld.1, (hb10.cell (p := ⟨qb, qo + m * 2, none⟩) hqb).trans hHeld.2.1, (hb10.cell (p := ⟨qb, qo + m * 2 + 1, none⟩) hqb).trans hHeld.2.2⟩ (fun hHeld => ?_)
     clear hK K
     refine wpAnyH_ready (rs := [11]) (by kernel_rfl) (by simp) ?_
     refine AllReadyH.cons rfl (fun K hK => ?_) AllReadyH.nil
     have hown3 := HownD.out.1.alloc (.cells #[.string (mk p), .int .i64 x1, .int .i64 x2] 87)
     refine step_near rfl (.tmp 40) (.tmp 50) 26 (by rfl) w1.heap.size 87 i0 (.agg #[.string ⟨#[]⟩, .int .i64 0, .int .i64 0]) 32 Tryz.underlying26 hi0 hz0 hz1 hz2 rfl (by decide) (by rfl) (by rfl) hown3 (cl_made _ 87 p x1 x2) (fun _ _ => rfl) (fun x _ => cl_one x) ?a1 ?a2 ?a3 ?_
     case a1 => (have := hlen.out; unfold maxLen; first | omega | (simp <;> omega))
     case a2 => (have := hlen.out; first | omega | (simp <;> omega))
     case a3 => (have := HownD.out.2.size; first | omega | (simp at * <;> omega))
     intro v9 w9 own9 hg9 hn9
     have Hnew := Lib.hid (HownD.out.more (x := (⟨p, x1, x2⟩ : Flt.Cl)) (v' := v9) (by simpa [clV] using own9) hg9)
     have kk := Kept.ofGrown (F := fun i => u3.ownBlock = some i) hg9 (fun i e => e)
     have hqd : ¬ u3.ownBlock = some qb := fun e => by have := hob.out _ e; have := hqF.1; have := hqF.2; omega
     have hpd : ¬ u3.ownBlock = some pb := fun e => by have := (Hrow.out _ e).1; omega
     have Hq9 : Hid (Rgs w9 (NewIn w4 w5) (.slice (some ⟨qb, qo, none⟩) Q.length qc) Q) := Lib.hid (((Hq.out.below ((Below.refl _ _).drew)).below ((Below.refl _ _).alloc (Nat.le_refl _) (.cells #[.string (mk p), .int .i64 x1, .int .i64 x2] 87))).kept kk (fun i hi e => by have := hob.out _ e; have := hi.1; have := hi.2; omega))
     have hob9 : Hid (∀ g, v9.ownBlock = some g → g < w4.heap.size ∨ w5.heap.size ≤ g) := Lib.hid (fun g hg => by
      rcases hn9 with h | h
      ·exact hob.out g (h ▸ hg)
      ·have := h g hg; simp at this; exact Or.inr (by omega))
     have hz9 : Hid (w5.heap.size ≤ w9.heap.size) := Lib.hid (by have := hg9.size; simp at this; omega)
     have hS9 := (⟨(kk.cell (p := ⟨pb, po + n, none⟩) (by simp; omega) hpd).trans hHeld.1, (kk.cell (p := ⟨qb, qo + m * 2, none⟩) (by simp; omega) hqd).trans hHeld.2.1, (kk.cell (p := ⟨qb, qo + m * 2 + 1, none⟩) (by simp; omega) hqd).trans hHeld.2.2⟩ : _ ∧ _ ∧ _)
     clear own9 hg9 hn9 kk hown3
     refine hK.out _ _ hS9 (fun hHeld => ?_)
     clear hS9
     clear hK K
     refine wpAnyH_td (i := 12) rfl ?_
     simp only [zz]
     refine wpAnyH_done (by kernel_rfl) ?_ _
     go_wp2_with fail
     exact ⟨⟨m + 1, by omega, by go_num, by rw [hst.out, ← List.append_assoc, HO.out]; exact Hnew.out, Hq9.out, hob9, hz9.out⟩, by show Q.length - ((m : Int) + 1).toNat < Q.length - (m : Int).toNat; omega⟩
    ·obtain rfl : m = Q.length := by omega
     rw [List.take_length] at hown
     have Hown := Lib.hid hown
     clear hown hq hob
     go_wp2_with fail
     exact ⟨⟨n + 1, by omega, by go_num, by rw [hmore.out]; exact Hown.out⟩, by show (Flt.prefixes f).length - ((n : Int) + 1).toNat < (Flt.prefixes f).length - (n : Int).toNat; omega⟩
  ·obtain rfl : n = (Flt.prefixes f).length := by omega
   rw [Flt.normTo_all] at hown
   have Hown := Lib.hid (hown.since Hb1.out)
   clear hown
   go_wp2_with fail
   go_ret
   exact ⟨_, rfl, Hown.out⟩
open Go.RowKit
theorem ref_missing {w : World} {F G : Nat → Prop} {u v : Value} {f g : List Flt.Cl} {p : List UInt8} (hf : Cls w F u f) (hg : Cls w G v g) (lf : f.length ≤ 1000000) (lg : g.length ≤ 1000000) (sf : ∀ c ∈ f, c.pre.length ≤ 100000) (sg : ∀ c ∈ g, c.pre.length ≤ 100000) (hp : p.length ≤ 100000) :
  Calls Tryz.prog 49 #[u, v, .string (mk p)] w fun e w' => ∃ v', e = .returned v' ∧ RowsOwn 85 2 rgV w (Sz.two 2 (Flt.sizes g p) (Flt.sizes f p)) v' w' := by
 have SG := Lib.hid (ref_fsizes (p := p) hg lg hp sg)
 have SF := Lib.hid (fun (W : World) (hW : Below w.heap.size w W) => ref_fsizes (p := p) (hf.below hW) lf hp sf)
 have TW : Hid (∀ (A B C : World) (x y : Value), RowsOwn 85 2 rgV A (Flt.sizes g p) x B → RowsOwn 85 2 rgV B (Flt.sizes f p) y C → Calls Tryz.prog 83 #[x, y, .int .i64 2] C fun e w' => ∃ v', e = .returned v' ∧ RowsOwn 85 2 rgV C (Sz.two 2 (Flt.sizes g p) (Flt.sizes f p)) v' w') :=
  Lib.hid (fun A B C x y hx hy => by
   have l1 := Flt.sizes_len f p
   have l2 := Flt.sizes_len g p
   exact ref_two ((hx.rows (fun _ _ => rfl)).below hy.2) (hy.rows (fun _ _ => rfl)) (by omega) (by omega) 2 (by omega))
 clear hf hg lf lg sf sg hp
 go_enter Tryz.func49, Tryz.ntmps49
 go_wp2_with fail
 refine (SG.out).mono ?_
 rintro e w1 ⟨s1, rfl, h1⟩
 have H1 := Lib.hid h1
 clear h1
 go_wp2_with fail
 refine (SF.out _ H1.out.2).mono ?_
 rintro e w2 ⟨s2, rfl, h2⟩
 have H2 := Lib.hid h2
 clear h2
 go_wp2_with fail
 refine (TW.out _ _ _ _ _ H1.out H2.out).mono ?_
 rintro e w3 ⟨s3, rfl, h3⟩
 have H3 := Lib.hid (h3.since (H1.out.2.trans (H2.out.2.mono H1.out.2.size)))
 clear h3
 go_wp2_with fail
 go_ret
 exact ⟨_, rfl, H3.out⟩
theorem ref_subsumes {w : World} {F G : Nat → Prop} {u v : Value} {f g : List Flt.Cl} (hf : Cls w F u f) (hg : Cls w G v g) (lf : f.length ≤ 1000000) (lg : g.length ≤ 1000000) (sf : ∀ c ∈ f, c.pre.length ≤ 100000) (sg : ∀ c ∈ g, c.pre.length ≤ 100000) :
  Calls Tryz.prog 18 #[u, v] w fun e w' => e = .returned (.bool (decide (Cov.Subs f g))) ∧ Below w.heap.size w w' := by
 have PG := Lib.hid (ref_prefixes hg lg)
 have HPS : Hid (∀ p ∈ Flt.prefixes g, p.length ≤ 100000) := Lib.hid (Flt.prefixes_small sg)
 have MI := Lib.hid (fun (p : List UInt8) (hp : p ∈ Flt.prefixes g) (W : World) (hW : Below w.heap.size w W) => ref_missing (p := p) (hf.below hW) (hg.below hW) lf lg sf sg (HPS.out p hp))
 have HPL : Hid ((Flt.prefixes g).length ≤ 1000000) := Lib.hid (Nat.le_trans (Flt.prefixes_len g) lg)
 have HD := Lib.hid (Cov.subs_at f g)
 clear hf hg lf lg sf sg
 generalize hS : decide (Cov.Subs f g) = S
 have HS : Hid (S = true ↔ ∀ p ∈ Flt.prefixes g, Sz.two 2 (Flt.sizes g p) (Flt.sizes f p) = []) := Lib.hid (by rw [← hS, decide_eq_true_iff]; exact HD.out)
 clear hS HD
 go_enter Tryz.func18, Tryz.ntmps18
 go_wp2_with fail
 refine (PG.out).mono ?_
 rintro e w1 ⟨pv, rfl, h1⟩
 have HP := Lib.hid (h1.rows (fun _ _ => rfl))
 have HB1 := Lib.hid h1.2
 clear h1 PG
 have hpl : ((Flt.prefixes g).length : Int) ≤ 1000000 := by have := HPL.out; omega
 obtain ⟨A, cap, rfl, hcap⟩ := HP.out.parts
 go_wp2_with fail
 go_loopw [6] (fun i wr => ∃ n : Nat, n ≤ (Flt.prefixes g).length ∧ i = .int .i64 (n : Int) ∧ Hid (∀ j p, j < n → (Flt.prefixes g)[j]? = some p → Sz.two 2 (Flt.sizes g p) (Flt.sizes f p) = []) ∧ Hid (Below w1.heap.size w1 wr)) (fun i _ => (Flt.prefixes g).length - (intOf i).toNat)
 case atStart => exact ⟨0, Nat.zero_le _, rfl, Lib.hid (fun j p h => absurd h (Nat.not_lt_zero j)), Lib.hid (Below.refl _ _)⟩
 case round =>
  obtain ⟨n, hn, rfl, hall, hb⟩ := hrel
  by_cases hlt : n < (Flt.prefixes g).length
  ·obtain ⟨b, o, cap1, e, -, -, hpb⟩ := HP.out.block (by omega)
   injection e with e1 e2 e3
   subst e1 e3
   clear e2
   obtain ⟨p, hp⟩ : ∃ p, (Flt.prefixes g)[n]? = some p := ⟨_, List.getElem?_eq_getElem hlt⟩
   have c0 : wr.cell? ⟨b, o + n, none⟩ = some (.string (mk p)) := Txs.at (HP.out.below hb.out) hp
   have HM := Lib.hid (MI.out p (List.mem_of_getElem? hp) wr (HB1.out.trans (hb.out.mono HB1.out.size)))
   have Hp := Lib.hid hp
   have hn0 : (0 : Int) ≤ (n : Int) := by omega
   have hn1 : (n : Int) < ((Flt.prefixes g).length : Int) := by omega
   have hn2 : (n : Int) ≤ 999999 := by omega
   clear hp
   go_wp2_with fail
   refine (HM.out).mono ?_
   rintro e w2 ⟨s2, rfl, h2⟩
   have HB2 := Lib.hid (hb.out.trans (h2.2.mono hb.out.size))
   obtain ⟨A2, c2, e2, -⟩ := (h2.rows (fun _ _ => rfl)).parts
   subst e2
   clear h2 c0
   by_cases hz : Sz.two 2 (Flt.sizes g p) (Flt.sizes f p) = []
   ·have HA : Hid (∀ j p, j < n + 1 → (Flt.prefixes g)[j]? = some p → Sz.two 2 (Flt.sizes g p) (Flt.sizes f p) = []) := Lib.hid (fun j q hj hq => by
     by_cases e : j = n
     ·subst e
      rw [Hp.out] at hq
      injection hq with hq
      rw [← hq]; exact hz
     ·exact hall.out j q (by omega) hq)
    rw [hz, List.length_nil]
    clear hz hall
    go_wp2_with fail
    exact ⟨⟨n + 1, by omega, by go_num, HA, HB2⟩, by show (Flt.prefixes g).length - ((n : Int) + 1).toNat < (Flt.prefixes g).length - (n : Int).toNat; omega⟩
   ·have hpos : (0 : Int) < ((Sz.two 2 (Flt.sizes g p) (Flt.sizes f p)).length : Int) := by
     cases hh : Sz.two 2 (Flt.sizes g p) (Flt.sizes f p) with
     | nil => exact absurd hh hz
     | cons a t => rw [List.length_cons]; omega
    have HF : Hid (S = false) := Lib.hid (by
     cases S with
     | false => rfl
     | true => exact absurd (HS.out.1 rfl p (List.mem_of_getElem? Hp.out)) hz)
    have HE := Lib.hid (HB1.out.trans (HB2.out.mono HB1.out.size))
    clear hz hall
    go_wp2_with fail
    go_ret
    exact ⟨by (rw [HF.out]) <;> rfl, HE.out⟩
  ·obtain rfl : n = (Flt.prefixes g).length := by omega
   have HT : Hid (S = true) := Lib.hid (HS.out.2 (fun p hp => by
    obtain ⟨j, hj⟩ := List.getElem?_of_mem hp
    exact hall.out j p (List.getElem?_eq_some_iff.1 hj).1 hj))
   have HE := Lib.hid (HB1.out.trans (hb.out.mono HB1.out.size))
   clear hall
   go_wp2_with fail
   go_ret
   exact ⟨by (rw [HT.out]) <;> rfl, HE.out⟩
open Go.RowKit Go.Sort
theorem ref_vat (w : World) {v : List Int} (i : Int) (hv : v.length = 65) : Calls Tryz.prog 60 #[vecA v, .int .i64 i] w fun e w' => e = .returned (.int .i64 (Vec.num v i)) ∧ Laid w w' := by
 have HL := Lib.hid (Laid.new w (.cells (vecR v) 28))
 by_cases h1 : i < 1
 ·have E : Hid (Vec.num v i = 0) := Lib.hid (by unfold Vec.num; rw [if_neg (by omega)])
  go_enter Tryz.func60, Tryz.ntmps60
  go_wp2_with fail
  go_ret
  exact ⟨by rw [E.out]; rfl, HL.out⟩
 ·by_cases h2 : 64 < i
  ·have E : Hid (Vec.num v i = 0) := Lib.hid (by unfold Vec.num; rw [if_neg (by omega)])
   go_enter Tryz.func60, Tryz.ntmps60
   go_wp2_with fail
   go_ret
   exact ⟨by rw [E.out]; rfl, HL.out⟩
  ·obtain ⟨k, hk, hk2⟩ : ∃ k : Nat, i = (k : Int) ∧ 1 ≤ k ∧ k ≤ 64 := ⟨i.toNat, by omega, by omega⟩
   subst hk
   obtain ⟨n, hn⟩ : ∃ n, v[k]? = some n := ⟨_, List.getElem?_eq_getElem (by omega)⟩
   have E : Hid (Vec.num v (k : Int) = max n 0) := Lib.hid (by
    unfold Vec.num Vec.at_
    rw [if_pos (by omega), Int.toNat_natCast, if_pos (by omega), hn]; rfl)
   have c0 := (VRow.made w hv).at hn
   have had := vec_addr (k := k) (by omega) w.heap.size
   by_cases h3 : n < 0
   ·have E : Hid (Vec.num v (k : Int) = 0) := Lib.hid (by rw [E.out]; omega)
    clear hn hv
    go_enter Tryz.func60, Tryz.ntmps60
    go_wp2_with fail
    go_ret
    exact ⟨by rw [E.out]; rfl, HL.out⟩
   ·have E : Hid (Vec.num v (k : Int) = n) := Lib.hid (by rw [E.out]; omega)
    clear hn hv
    go_enter Tryz.func60, Tryz.ntmps60
    go_wp2_with fail
    go_ret
    exact ⟨by rw [E.out]; rfl, HL.out⟩
theorem ref_vhas (w : World) {v : List Int} (x : Ver.V) (hv : v.length = 65) : Calls Tryz.prog 35 #[vecA v, verA x] w fun e w' => e = .returned (.bool (decide (Vec.Has v x))) ∧ Below w.heap.size w w' := by
 have mixed : Tryz.prog.follows .mixedOrders = true := by kernel_rfl
 have RI := Lib.hid (fun W => ref_vright W x)
 have AT := Lib.hid (fun W => ref_vat W x.by_ hv)
 have start : ∃ W, W = (w.alloc (.cells (vecR v) 28)).alloc (.cells #[.int .i64 x.by_, .int .i64 x.n] 33) ∧ VRow W w.heap.size v ∧ Row W (w.heap.size + 1) 33 #[.int .i64 x.by_, .int .i64 x.n] ∧ Laid w W := by
  refine ⟨_, rfl, (VRow.made w hv).alloc _, ?_, (Laid.new w _).alloc _⟩
  have := Row.made (w.alloc (.cells (vecR v) 28)) 33 #[.int .i64 x.by_, .int .i64 x.n]
  rwa [World.size_alloc] at this
 obtain ⟨W, hW, r0, r1, hL⟩ := start
 have V0 : Hid (∀ w', InB W w' → VRow w' w.heap.size v) := Lib.hid (fun w' h => r0.inB h)
 have XC : Hid (∀ w', InB W w' → w'.cell? ⟨w.heap.size + 1, 0, none⟩ = some (.int .i64 x.by_) ∧ w'.cell? ⟨w.heap.size + 1, 1, none⟩ = some (.int .i64 x.n)) := Lib.hid (fun w' h => by
  have := r1.below h.below r1.inHeap
  exact ⟨this.at 0, this.at 1⟩)
 have HL := Lib.hid hL
 by_cases hr : Ver.Right x
 ·have E : Hid (decide (Vec.Has v x) = decide (x.n ≤ Vec.num v x.by_)) := Lib.hid (by rw [decide_eq_decide]; unfold Vec.Has; exact ⟨fun h => h.2, fun h => ⟨hr, h⟩⟩)
  rw [decide_eq_true hr] at RI
  obtain ⟨x1, x2⟩ := x
  simp only at RI AT E hW XC
  generalize Vec.num v x1 = n at *
  clear r0 r1 hL hr hv
  go_enter Tryz.func35, Tryz.ntmps35
  go_wp2_with fail
  rw [← hW]
  clear hW
  refine wp_region_below (by assumption) (by kernel_rfl) ?_
  repeat ((first
   | (refine wq_skip (by rfl) ?_)
   | (refine wq_vload (by kernel_rfl) _ (by rfl) (by rfl) V0.out ?_)
   | (refine wq_take (v := ?_) (by kernel_rfl) (by intro w hSw; have hXC := XC.out w hSw; go_simp; first | done | with_reducible rfl) ?_)
   | (refine wq_call (by kernel_rfl) ?hent (fun w hSw => inB_laid hSw (RI.out w)) ?_; (case hent => (intro w hSw; go_simp; done)))
   | (refine wq_call (by kernel_rfl) ?hent (fun w hSw => inB_laid hSw (AT.out w)) ?_; (case hent => (intro w hSw; go_simp; done)))); (try simp only [zz]))
  refine wq_nil ?_
  intro wq hq
  have HQ := Lib.hid (HL.out.below.trans (hq.below.mono HL.out.size))
  clear hq
  go_wp2_with fail
  go_ret
  exact ⟨by rw [E.out]; rfl, HQ.out⟩
 ·have E : Hid (decide (Vec.Has v x) = false) := Lib.hid (decide_eq_false (fun h => hr h.1))
  rw [decide_eq_false hr] at RI
  obtain ⟨x1, x2⟩ := x
  simp only at RI AT E hW XC
  clear r0 r1 hL hr hv
  go_enter Tryz.func35, Tryz.ntmps35
  go_wp2_with fail
  rw [← hW]
  clear hW
  refine wp_region_below (by assumption) (by kernel_rfl) ?_
  repeat ((first
   | (refine wq_skip (by rfl) ?_)
   | (refine wq_vload (by kernel_rfl) _ (by rfl) (by rfl) V0.out ?_)
   | (refine wq_take (v := ?_) (by kernel_rfl) (by intro w hSw; have hXC := XC.out w hSw; go_simp; first | done | with_reducible rfl) ?_)
   | (refine wq_call (by kernel_rfl) ?hent (fun w hSw => inB_laid hSw (RI.out w)) ?_; (case hent => (intro w hSw; go_simp; done)))); (try simp only [zz]))
  refine wq_nil ?_
  intro wq hq
  have HQ := Lib.hid (HL.out.below.trans (hq.below.mono HL.out.size))
  clear hq
  go_wp2_with fail
  go_ret
  exact ⟨by rw [E.out]; rfl, HQ.out⟩
theorem ref_vcovers (w : World) {a b : List Int} (ha : a.length = 65) (hb : b.length = 65) : Calls Tryz.prog 58 #[vecA a, vecA b] w fun e w' => e = .returned (.bool (decide (Vec.Covers a b))) ∧ Below w.heap.size w w' := by
 have mixed : Tryz.prog.follows .mixedOrders = true := by kernel_rfl
 have start : ∃ W, W = (w.alloc (.cells (vecR a) 28)).alloc (.cells (vecR b) 28) ∧ VRow W w.heap.size a ∧ VRow W (w.heap.size + 1) b ∧ Laid w W := by
  refine ⟨_, rfl, (VRow.made w ha).alloc _, ?_, (Laid.new w _).alloc _⟩
  have := VRow.made (w.alloc (.cells (vecR a) 28)) hb
  rwa [World.size_alloc] at this
 obtain ⟨W, hW, r0, r1, hL⟩ := start
 have R0 := Lib.hid r0
 have R1 := Lib.hid r1
 have HL := Lib.hid hL
 have HA := Lib.hid ha
 have HB := Lib.hid hb
 clear r0 r1 hL ha hb
 go_enter Tryz.func58, Tryz.ntmps58
 go_wp2_with fail
 rw [← hW]
 clear hW
 go_loopw [5] (fun i wr => ∃ k : Nat, 1 ≤ k ∧ k ≤ 65 ∧ i = .int .i64 (k : Int) ∧ Hid (∀ j, j < k → Vec.at_ b j ≤ Vec.at_ a j) ∧ InB W wr) (fun i _ => 65 - (intOf i).toNat)
 case atStart => exact ⟨1, Nat.le_refl _, by omega, rfl, Lib.hid (fun j hj => by rw [Vec.at_zero a j (by omega), Vec.at_zero b j (by omega)]; exact Int.le_refl _), InB.refl W⟩
 case round =>
  obtain ⟨k, hk1, hk, rfl, hall, hbel⟩ := hrel
  by_cases hlt : k < 65
  ·have V0 : Hid (∀ w', InB wr w' → VRow w' w.heap.size a) := Lib.hid (fun w' h => (R0.out.inB hbel).inB h)
   have V1 : Hid (∀ w', InB wr w' → VRow w' (w.heap.size + 1) b) := Lib.hid (fun w' h => (R1.out.inB hbel).inB h)
   have AA := Lib.hid (fun W' => ref_vat W' (k : Int) HA.out)
   have AB := Lib.hid (fun W' => ref_vat W' (k : Int) HB.out)
   rw [Vec.num_nat a hlt] at AA
   rw [Vec.num_nat b hlt] at AB
   have k1 : (k : Int) ≤ 64 := by omega
   have Hbel := Lib.hid hbel
   clear hbel
   by_cases hgt : Vec.at_ a k < Vec.at_ b k
   ·have E : Hid (decide (Vec.Covers a b) = false) := Lib.hid (decide_eq_false (fun h => by have := h k hlt; omega))
    have hd : decide (Vec.at_ a k < Vec.at_ b k) = true := decide_eq_true hgt
    generalize Vec.at_ a k = n at *
    generalize Vec.at_ b k = m at *
    clear hall
    go_wp2_with fail
    refine wp_region_below (by assumption) (by kernel_rfl) ?_
    repeat ((first
     | (refine wq_skip (by rfl) ?_)
     | (refine wq_vload (by kernel_rfl) _ (by rfl) (by rfl) V0.out ?_)
     | (refine wq_vload (by kernel_rfl) _ (by rfl) (by rfl) V1.out ?_)
     | (refine wq_td ?_)
     | (refine wq_call (by kernel_rfl) ?hent (fun w hSw => inB_laid hSw (AA.out w)) ?_; (case hent => (intro w hSw; go_simp; done)))
     | (refine wq_call (by kernel_rfl) ?hent (fun w hSw => inB_laid hSw (AB.out w)) ?_; (case hent => (intro w hSw; go_simp; done)))); (try simp only [zz]))
    refine wq_nil ?_
    intro wq hq
    have HQ := Lib.hid (HL.out.below.trans ((Hbel.out.trans hq.below).below.mono HL.out.size))
    clear hq
    go_wp2_with fail
    go_ret
    exact ⟨by rw [E.out]; rfl, HQ.out⟩
   ·have hle : Vec.at_ b k ≤ Vec.at_ a k := by omega
    have Hnext : Hid (∀ j, j < k + 1 → Vec.at_ b j ≤ Vec.at_ a j) := Lib.hid (fun j hj => by
     by_cases e : j = k
     ·subst e; exact hle
     ·exact hall.out j (by omega))
    have hd : decide (Vec.at_ a k < Vec.at_ b k) = false := decide_eq_false hgt
    generalize Vec.at_ a k = n at *
    generalize Vec.at_ b k = m at *
    clear hall hgt
    go_wp2_with fail
    refine wp_region_below (by assumption) (by kernel_rfl) ?_
    repeat ((first
     | (refine wq_skip (by rfl) ?_)
     | (refine wq_vload (by kernel_rfl) _ (by rfl) (by rfl) V0.out ?_)
     | (refine wq_vload (by kernel_rfl) _ (by rfl) (by rfl) V1.out ?_)
     | (refine wq_td ?_)
     | (refine wq_call (by kernel_rfl) ?hent (fun w hSw => inB_laid hSw (AA.out w)) ?_; (case hent => (intro w hSw; go_simp; done)))
     | (refine wq_call (by kernel_rfl) ?hent (fun w hSw => inB_laid hSw (AB.out w)) ?_; (case hent => (intro w hSw; go_simp; done)))); (try simp only [zz]))
    refine wq_nil ?_
    intro wq hq
    have HQ := Lib.hid (Hbel.out.trans hq.below)
    clear hq
    go_wp2_with fail
    exact ⟨⟨k + 1, by omega, by omega, rfl, Hnext, HQ.out⟩, by show 65 - ((k : Int) + 1).toNat < 65 - (k : Int).toNat; omega⟩
  ·obtain rfl : k = 65 := by omega
   have E : Hid (decide (Vec.Covers a b) = true) := Lib.hid (decide_eq_true (fun j hj => hall.out j hj))
   have HQ := Lib.hid (HL.out.below.trans (hbel.below.mono HL.out.size))
   clear hall hbel
   go_wp2_with fail
   go_ret
   exact ⟨by rw [E.out]; rfl, HQ.out⟩
theorem ref_vplain (w : World) {v : List Int} (hv : v.length = 65) : Calls Tryz.prog 28 #[vecA v] w fun e w' => e = .returned (.bool (decide (Vec.Plain v))) ∧ Below w.heap.size w w' := by
 have mixed : Tryz.prog.follows .mixedOrders = true := by kernel_rfl
 have start : ∃ W, W = w.alloc (.cells (vecR v) 28) ∧ VRow W w.heap.size v ∧ Laid w W := ⟨_, rfl, VRow.made w hv, Laid.new w _⟩
 obtain ⟨W, hW, r0, hL⟩ := start
 have R0 := Lib.hid r0
 have HL := Lib.hid hL
 have HV := Lib.hid hv
 clear r0 hL hv
 go_enter Tryz.func28, Tryz.ntmps28
 go_wp2_with fail
 rw [← hW]
 clear hW
 go_loopw [3] (fun i wr => ∃ k : Nat, k ≤ 65 ∧ i = .int .i64 (k : Int) ∧ Hid (∀ j, j < k → v[j]? = some (Vec.at_ v j)) ∧ InB W wr) (fun i _ => 65 - (intOf i).toNat)
 case atStart => exact ⟨0, by omega, rfl, Lib.hid (fun j hj => by omega), InB.refl W⟩
 case round =>
  obtain ⟨k, hk, rfl, hall, hbel⟩ := hrel
  by_cases hlt : k < 65
  ·have V0 : Hid (∀ w', InB wr w' → VRow w' w.heap.size v) := Lib.hid (fun w' h => (R0.out.inB hbel).inB h)
   obtain ⟨n, hn⟩ : ∃ n, v[k]? = some n := ⟨_, List.getElem?_eq_getElem (by rw [HV.out]; exact hlt)⟩
   have XC : Hid (∀ w', InB wr w' → w'.cell? ⟨w.heap.size, k, none⟩ = some (.int .i64 n)) := Lib.hid (fun w' h => (V0.out w' h).at hn)
   have had := vec_addr (k := k) hlt w.heap.size
   have AT := Lib.hid (fun W' => ref_vat W' (k : Int) HV.out)
   rw [Vec.num_nat v hlt] at AT
   have k1 : (k : Int) ≤ 64 := by omega
   have Hbel := Lib.hid hbel
   have Hn := Lib.hid hn
   clear hbel hn
   by_cases he : n = Vec.at_ v k
   ·have Hnext : Hid (∀ j, j < k + 1 → v[j]? = some (Vec.at_ v j)) := Lib.hid (fun j hj => by
     by_cases e : j = k
     ·subst e; rw [Hn.out, ← he]
     ·exact hall.out j (by omega))
    rw [← he] at AT
    clear he hall
    go_wp2_with fail
    refine wp_region_below (by assumption) (by kernel_rfl) ?_
    repeat ((first
     | (refine wq_skip (by rfl) ?_)
     | (refine wq_vload (by kernel_rfl) _ (by rfl) (by rfl) V0.out ?_)
     | (refine wq_take (v := ?_) (by kernel_rfl) (by intro w hSw; have hXC := XC.out w hSw; go_simp; first | done | with_reducible rfl) ?_)
     | (refine wq_call (by kernel_rfl) ?hent (fun w hSw => inB_laid hSw (AT.out w)) ?_; (case hent => (intro w hSw; go_simp; done)))); (try simp only [zz]))
    refine wq_nil ?_
    intro wq hq
    have HQ := Lib.hid (Hbel.out.trans hq.below)
    clear hq
    go_wp2_with fail
    exact ⟨⟨k + 1, by omega, rfl, Hnext, HQ.out⟩, by show 65 - ((k : Int) + 1).toNat < 65 - (k : Int).toNat; omega⟩
   ·have E : Hid (decide (Vec.Plain v) = false) := Lib.hid (decide_eq_false (fun h => he (by have := h.2 k hlt; rw [Hn.out] at this; injection this)))
    generalize Vec.at_ v k = m at *
    clear hall
    go_wp2_with fail
    refine wp_region_below (by assumption) (by kernel_rfl) ?_
    repeat ((first
     | (refine wq_skip (by rfl) ?_)
     | (refine wq_vload (by kernel_rfl) _ (by rfl) (by rfl) V0.out ?_)
     | (refine wq_take (v := ?_) (by kernel_rfl) (by intro w hSw; have hXC := XC.out w hSw; go_simp; first | done | with_reducible rfl) ?_)
     | (refine wq_call (by kernel_rfl) ?hent (fun w hSw => inB_laid hSw (AT.out w)) ?_; (case hent => (intro w hSw; go_simp; done)))); (try simp only [zz]))
    refine wq_nil ?_
    intro wq hq
    have HQ := Lib.hid (HL.out.below.trans ((Hbel.out.trans hq.below).below.mono HL.out.size))
    clear hq
    go_wp2_with fail
    go_ret
    exact ⟨by rw [E.out]; rfl, HQ.out⟩
  ·obtain rfl : k = 65 := by omega
   have E : Hid (decide (Vec.Plain v) = true) := Lib.hid (decide_eq_true ⟨HV.out, fun j hj => hall.out j hj⟩)
   have HQ := Lib.hid (HL.out.below.trans (hbel.below.mono HL.out.size))
   clear hall hbel
   go_wp2_with fail
   go_ret
   exact ⟨by rw [E.out]; rfl, HQ.out⟩
end Go.Proofs.YtkcgmnhjofoeiaaGreat
