/- The document's own answers of layer 10: Minus. -/
import Derived.Test.YtajhmgbicliihaaGreatDoorCom13
set_option linter.unusedSimpArgs false
set_option linter.unusedVariables false
namespace Go.Proofs.YtajhmgbicliihaaGreatDoor
open Go.RowKit

set_option maxRecDepth 100000 in
set_option maxHeartbeats 6400000 in
theorem ref_cminus {w : World} {F G : Nat → Prop} {u v : Value} {f g : List Flt.Cl} (hf : Cls w F u f) (hg : Cls w G v g) (lf : f.length ≤ 1000) (lg : g.length ≤ 1000) (rf : ∀ c ∈ f, Flt.Right c) (rg : ∀ c ∈ g, Flt.Right c) :
    Calls Tryz.prog 13 #[u, v] w fun e w' => ∃ v', e = .returned v' ∧ RowsOwn 39 3 clV w (Cov.minus f g) v' w' := by
  obtain ⟨i0, hi0, hz0, hz1, hz2⟩ := info_parts clauseInfo
  have sf : ∀ c ∈ f, c.pre.length ≤ 100000 := fun c hc => by have := Cov.pre_small (rf c hc); omega
  have sg : ∀ c ∈ g, c.pre.length ≤ 100000 := fun c hc => by have := Cov.pre_small (rg c hc); omega
  have NF := Lib.hid (ref_fnorm hf (by omega) sf)
  have SG := Lib.hid (fun (p : List UInt8) (hp : p.length ≤ 100000) (W : World) (hW : Below w.heap.size w W) => ref_fsizes (p := p) (hg.below hW) (by omega) hp sg)
  have TW : Hid (∀ (c : Flt.Cl) (P Q : Nat → Prop) (W : World) (x y : Value), Rgs W P x [Flt.rg c] → Rgs W Q y (Flt.sizes g c.pre) → Calls Tryz.prog 27 #[x, y, .int .i64 2] W fun e w' => ∃ v', e = .returned v' ∧ RowsOwn 37 2 rgV W (Sz.two 2 [Flt.rg c] (Flt.sizes g c.pre)) v' w') :=
    Lib.hid (fun c P Q W x y hx hy => by
      have l2 := Flt.sizes_len g c.pre
      exact ref_two hx hy (by simp) (by omega) 2 (by omega))
  have hrt := Cov.parts_right (k := 2) (g := g) rf
  have hpl2 := Cov.parts_len (k := 2) (Or.inr rfl) f g
  have hpf := Flt.prefixes_len f
  have hRL : (Cov.parts 2 f g).length ≤ 1000000 := by omega
  have NO : Hid (∀ (P : Nat → Prop) (W : World) (x : Value), Cls W P x (Cov.parts 2 f g) → Calls Tryz.prog 29 #[x] W fun e w' => ∃ v', e = .returned v' ∧ RowsOwn 39 3 clV W (Cov.minus f g) v' w') :=
    Lib.hid (fun P W x hx => ref_fnorm hx hRL (fun c hc => by have := Cov.pre_small (hrt c hc); omega))
  have HPS : Hid (∀ c ∈ Flt.norm f, c.pre.length ≤ 100000) := Lib.hid (fun c hc => by have := Cov.pre_small (Flt.norm_right rf c hc); omega)
  have hnn := Flt.norm_len f
  have HL : Hid ((Flt.norm f).length ≤ 202000) := Lib.hid (by omega)
  have HPT : Hid (∀ n, (Cov.partsTo 2 f g n).length ≤ 201000) := Lib.hid (fun n => by have := Cov.partsTo_len (k := 2) (Or.inr rfl) f g n; omega)
  have MORE : Hid (∀ {n : Nat} {c : Flt.Cl}, (Flt.norm f)[n]? = some c → Cov.partsTo 2 f g (n + 1) = Cov.partsTo 2 f g n ++ Cov.leaf 2 g c) := Lib.hid (fun h => Cov.partsTo_more h)
  have ALL := Lib.hid (Cov.partsTo_all 2 f g)
  clear hf hg sf sg hpf lf lg rf rg hrt hpl2 hnn hRL
  go_enter Tryz.func13, Tryz.ntmps13
  go_wp2_with fail
  refine (NF.out).mono ?_
  rintro e w1 ⟨pv, rfl, hpv⟩
  have HP := Lib.hid (hpv.rows (fun _ _ => rfl))
  have Hb1 := Lib.hid hpv.2
  clear hpv NF
  have hZ : Hid (Cov.partsTo 2 f g 0 = []) := Lib.hid rfl
  generalize Cov.partsTo 2 f g = PT at *
  generalize Flt.norm f = L at *
  have hpl' : (L.length : Int) ≤ 202000 := by have := HL.out; omega
  obtain ⟨PA, pc, rfl, hpc⟩ := HP.out.parts
  go_wp2_with fail
  go_loopw [5, 7, 8, 9] (fun out i _ _ wr => ∃ n : Nat, n ≤ L.length ∧ i = .int .i64 (n : Int) ∧ RowsOwn 39 3 clV w1 (PT n) out wr) (fun _ i _ _ _ => L.length - (intOf i).toNat)
  case atStart => exact ⟨0, Nat.zero_le _, rfl, by rw [hZ.out]; exact RowsOwn.start _ _ _ w1⟩
  case round =>
    obtain ⟨n, hn, rfl, hown⟩ := hrel
    by_cases hlt : n < L.length
    · obtain ⟨pb, po, pc', e, -, -, hpb⟩ := HP.out.block (by omega)
      injection e with e1 e2 e3
      subst e1 e3
      clear e2
      obtain ⟨c, hp⟩ : ∃ c, L[n]? = some c := ⟨_, List.getElem?_eq_getElem hlt⟩
      have hpp := HPS.out c (List.mem_of_getElem? hp)
      have hn0 : (0 : Int) ≤ (n : Int) := by omega
      have hn1 : (n : Int) < (L.length : Int) := by omega
      have CP : Hid (∀ W, Below w1.heap.size w1 W → W.cell? ⟨pb, po + n * 3, none⟩ = some (.string (mk c.pre)) ∧ W.cell? ⟨pb, po + n * 3 + 1, none⟩ = some (.int .i64 c.lo) ∧ W.cell? ⟨pb, po + n * 3 + 2, none⟩ = some (.int .i64 c.hi)) := Lib.hid (fun W hW => Cls.at (HP.out.below hW) hp)
      have hmore : Hid (PT (n + 1) = PT n ++ Flt.clauses c.pre (Sz.two 2 [Flt.rg c] (Flt.sizes g c.pre))) := Lib.hid (MORE.out hp)
      have hnl := Lib.hid (HPT.out n)
      have HB1 : Hid (Below w.heap.size w wr) := Lib.hid (Hb1.out.trans (hown.2.mono Hb1.out.size))
      have Hown := Lib.hid hown
      have Hbel := Lib.hid hown.2
      have TWc := Lib.hid (TW.out c)
      clear hown hp
      obtain ⟨p, lo, hi⟩ := c
      simp only [Flt.rg] at CP hmore TWc hpp
      go_wp2_with fail
      refine wp_region_held_drew (S := (fun w' : World => Below wr.heap.size wr w')) (by kernel_rfl) ((Below.refl _ _).drew) (fun hHeld => ?_)
      generalize wr.drew = wd at *
      refine wpAnyH_take (i := 0) (v := ?_) rfl (by kernel_rfl) (by kernel_rfl) (by kernel_rfl) (fun _ _ _ h => h) (Or.inl ⟨by rfl, (by intro w hSw; go_simp; try with_reducible rfl)⟩) (by assumption) ?_
      simp only [Act.put, List.getElem_toArray, List.getElem_cons_zero, List.getElem_cons_succ, List.setIfInBounds_toArray, List.set_cons_zero, List.set_cons_succ]
      refine wpAnyH_take (i := 1) (v := ?_) rfl (by kernel_rfl) (by kernel_rfl) (by kernel_rfl) (fun _ _ _ h => h) (Or.inl ⟨by rfl, (by intro w hSw; go_simp; try with_reducible rfl)⟩) (by assumption) ?_
      simp only [Act.put, List.getElem_toArray, List.getElem_cons_zero, List.getElem_cons_succ, List.setIfInBounds_toArray, List.set_cons_zero, List.set_cons_succ]
      refine wpAnyH_take (i := 2) (v := ?_) rfl (by kernel_rfl) (by kernel_rfl) (by kernel_rfl) (fun _ _ _ h => h) (Or.inl ⟨by rfl, (by intro w hSw; go_simp; try with_reducible rfl)⟩) (by assumption) ?_
      simp only [Act.put, List.getElem_toArray, List.getElem_cons_zero, List.getElem_cons_succ, List.setIfInBounds_toArray, List.set_cons_zero, List.set_cons_succ]
      refine wpAnyH_take (i := 3) (v := ?_) rfl (by kernel_rfl) (by kernel_rfl) (by kernel_rfl) (fun _ _ _ h => h) (Or.inl ⟨by rfl, (by intro w hSw; go_simp; try with_reducible rfl)⟩) (by assumption) ?_
      simp only [Act.put, List.getElem_toArray, List.getElem_cons_zero, List.getElem_cons_succ, List.setIfInBounds_toArray, List.set_cons_zero, List.set_cons_succ]
      refine wpAnyH_take (i := 4) (v := ?_) rfl (by kernel_rfl) (by kernel_rfl) (by kernel_rfl) (fun _ _ _ h => h) (Or.inl ⟨by rfl, (by intro w hSw; have d0 := (CP.out _ (Hbel.out.trans (hSw.mono Hbel.out.size))).1; have d1 := (CP.out _ (Hbel.out.trans (hSw.mono Hbel.out.size))).2.1; have d2 := (CP.out _ (Hbel.out.trans (hSw.mono Hbel.out.size))).2.2; go_simp; try with_reducible rfl)⟩) (by assumption) ?_
      simp only [Act.put, List.getElem_toArray, List.getElem_cons_zero, List.getElem_cons_succ, List.setIfInBounds_toArray, List.set_cons_zero, List.set_cons_succ]
      refine wpAnyH_take (i := 6) (v := ?_) rfl (by kernel_rfl) (by kernel_rfl) (by kernel_rfl) (fun _ _ _ h => h) (Or.inl ⟨by rfl, (by intro w hSw; go_simp; try with_reducible rfl)⟩) (by assumption) ?_
      simp only [Act.put, List.getElem_toArray, List.getElem_cons_zero, List.getElem_cons_succ, List.setIfInBounds_toArray, List.set_cons_zero, List.set_cons_succ]
      refine wpAnyH_take (i := 7) (v := ?_) rfl (by kernel_rfl) (by kernel_rfl) (by kernel_rfl) (fun _ _ _ h => h) (Or.inl ⟨by rfl, (by intro w hSw; go_simp; try with_reducible rfl)⟩) (by assumption) ?_
      simp only [Act.put, List.getElem_toArray, List.getElem_cons_zero, List.getElem_cons_succ, List.setIfInBounds_toArray, List.set_cons_zero, List.set_cons_succ]
      refine wpAnyH_take (i := 8) (v := ?_) rfl (by kernel_rfl) (by kernel_rfl) (by kernel_rfl) (fun _ _ _ h => h) (Or.inl ⟨by rfl, (by intro w hSw; go_simp; try with_reducible rfl)⟩) (by assumption) ?_
      simp only [Act.put, List.getElem_toArray, List.getElem_cons_zero, List.getElem_cons_succ, List.setIfInBounds_toArray, List.set_cons_zero, List.set_cons_succ]
      refine wpAnyH_take (i := 9) (v := ?_) rfl (by kernel_rfl) (by kernel_rfl) (by kernel_rfl) (fun _ _ _ h => h) (Or.inl ⟨by rfl, (by intro w hSw; go_simp; try with_reducible rfl)⟩) (by assumption) ?_
      simp only [Act.put, List.getElem_toArray, List.getElem_cons_zero, List.getElem_cons_succ, List.setIfInBounds_toArray, List.set_cons_zero, List.set_cons_succ]
      refine wpAnyH_take (i := 10) (v := ?_) rfl (by kernel_rfl) (by kernel_rfl) (by kernel_rfl) (fun _ _ _ h => h) (Or.inl ⟨by rfl, (by intro w hSw; go_simp; try with_reducible rfl)⟩) (by assumption) ?_
      simp only [Act.put, List.getElem_toArray, List.getElem_cons_zero, List.getElem_cons_succ, List.setIfInBounds_toArray, List.set_cons_zero, List.set_cons_succ]
      refine wpAnyH_take (i := 11) (v := ?_) rfl (by kernel_rfl) (by kernel_rfl) (by kernel_rfl) (fun _ _ _ h => h) (Or.inl ⟨by rfl, (by intro w hSw; have d0 := (CP.out _ (Hbel.out.trans (hSw.mono Hbel.out.size))).1; have d1 := (CP.out _ (Hbel.out.trans (hSw.mono Hbel.out.size))).2.1; have d2 := (CP.out _ (Hbel.out.trans (hSw.mono Hbel.out.size))).2.2; go_simp; try with_reducible rfl)⟩) (by assumption) ?_
      simp only [Act.put, List.getElem_toArray, List.getElem_cons_zero, List.getElem_cons_succ, List.setIfInBounds_toArray, List.set_cons_zero, List.set_cons_succ]
      refine wpAnyH_ready (rs := [5, 12]) (by kernel_rfl) (by simp) ?_
      refine (AllReadyH.cons rfl (fun K hK => ?_) (AllReadyH.cons rfl (fun K hK => ?_) AllReadyH.nil))
      · go_simp
        have HM5 := Lib.hid (rg_made wd 37 lo hi)
        have hb5 : Below wd.heap.size wd (wd.alloc (.cells #[.int .i64 lo, .int .i64 hi] 37)) := (Below.refl _ _).alloc (Nat.le_refl _) _
        have hhN := hHeld.trans (hb5.mono hHeld.size)
        generalize wd.alloc (.cells #[.int .i64 lo, .int .i64 hi] 37) = w3a at *
        clear hb5
        refine hK.out _ _ hhN (fun hHeld => ?_)
        clear hhN
        clear hK K
        refine wpAnyH_ready (rs := [12]) (by kernel_rfl) (by simp) ?_
        refine (AllReadyH.cons rfl (fun K hK => ?_) AllReadyH.nil)
        go_simp
        go_at_call 28
        refine (SG.out p hpp _ (HB1.out.trans (hHeld.mono HB1.out.size))).mono ?_
        rintro e w4 ⟨s2, rfl, hs2⟩
        have hhN := hHeld.trans (hs2.2.mono hHeld.size)
        have HM6 := Lib.hid (HM5.out.below hs2.2)
        have HS2 := Lib.hid hs2
        clear hs2
        refine hK.out _ _ hhN (fun hHeld => ?_)
        clear hhN
        clear hK K
        refine wpAnyH_ready (rs := [13]) (by kernel_rfl) (by simp) ?_
        refine (AllReadyH.cons rfl (fun K hK => ?_) AllReadyH.nil)
        have hh4 := hHeld
        go_simp
        go_at_call 27
        refine (TWc.out _ _ _ _ _ HM6.out (HS2.out.rows (fun _ _ => rfl))).mono ?_
        rintro e w5 ⟨s4, rfl, hs4⟩
        have hhN := hHeld.trans (hs4.2.mono hHeld.size)
        have HS4 := Lib.hid hs4
        clear hs4
        refine hK.out _ _ hhN (fun hHeld => ?_)
        clear hhN
        clear hK K
        refine wpAnyH_take (i := 14) (v := ?_) rfl (by kernel_rfl) (by kernel_rfl) (by kernel_rfl) (fun _ _ _ h => h) (Or.inl ⟨by rfl, (by intro w hSw; go_simp; try with_reducible rfl)⟩) (by assumption) ?_
        simp only [Act.put, List.getElem_toArray, List.getElem_cons_zero, List.getElem_cons_succ, List.setIfInBounds_toArray, List.set_cons_zero, List.set_cons_succ]
        refine wpAnyH_done (by kernel_rfl) ?_ _
        have HQ := Lib.hid (HS4.out.rows (fun _ _ => rfl))
        have Hown5 := Lib.hid (Hown.out.below hHeld)
        have hob : Hid (∀ g, u5.ownBlock = some g → g < w4.heap.size ∨ w5.heap.size ≤ g) := Lib.hid (fun g hg => Or.inl (by have := (Hown.out.1.lt g hg).2; have := hh4.size; omega))
        have Hz45 : Hid (w4.heap.size ≤ w5.heap.size) := Lib.hid HS4.out.2.size
        clear hHeld Hown Hbel HB1 HS4 hh4
        have hql := (two_bd 2 [(lo, hi)] (Flt.sizes g p)).2
        obtain ⟨QA, qc, rfl, hqc⟩ := HQ.out.parts
        generalize hQ : Sz.two 2 [(lo, hi)] (Flt.sizes g p) = Q at *
        have HQQ := Lib.hid hQ
        clear hQ
        have hql' : (Q.length : Int) ≤ 202 := by omega
        go_wp2_with fail
        go_loopw [5, 9] (fun out k wq => ∃ m : Nat, m ≤ Q.length ∧ k = .int .i64 (m : Int) ∧ RowsOwn 39 3 clV w1 (PT n ++ Flt.clauses p (Q.take m)) out wq ∧ Rgs wq (NewIn w4 w5) (.slice QA Q.length qc) Q ∧ Hid (∀ g, out.ownBlock = some g → g < w4.heap.size ∨ w5.heap.size ≤ g) ∧ w5.heap.size ≤ wq.heap.size) (fun _ k _ => Q.length - (intOf k).toNat)
        case atStart => exact ⟨0, Nat.zero_le _, rfl, by simpa [Flt.clauses] using Hown5.out, HQ.out, hob, Nat.le_refl _⟩
        case round =>
          obtain ⟨m, hm, rfl, hown, hq, hob, hz5⟩ := hrel
          by_cases hlm : m < Q.length
          · obtain ⟨qb, qo, qc', e, -, hqF, hqb⟩ := hq.block (by omega)
            injection e with e1 e2 e3
            subst e1 e3
            clear e2
            obtain ⟨x, hx⟩ : ∃ x, Q[m]? = some x := ⟨_, List.getElem?_eq_getElem hlm⟩
            obtain ⟨c0, c1⟩ := Rgs.at hq hx
            have d0 := (CP.out wr hown.2).1
            have hst := Lib.hid (Flt.clauses_take (p := p) hx)
            have hcl := Flt.clauses_len p (Q.take m)
            have htl : (Q.take m).length ≤ 202 := by rw [List.length_take]; omega
            have hlen : Hid ((PT n ++ Flt.clauses p (Q.take m)).length ≤ 201202) := Lib.hid (by rw [List.length_append]; have := hnl.out; omega)
            have hm0 : (0 : Int) ≤ (m : Int) := by omega
            have hm1 : (m : Int) < (Q.length : Int) := by omega
            have hpq : pb < wr.heap.size := by have := hown.2.size; omega
            obtain ⟨x1, x2⟩ := x
            simp only at c0 c1
            have hst : Hid (Flt.clauses p (Q.take (m + 1)) = Flt.clauses p (Q.take m) ++ [⟨p, x1, x2⟩]) := hst
            have HownD := Lib.hid (hown.below ((Below.refl _ _).drew))
            have hrow : ∀ g, u5.ownBlock = some g → w1.heap.size ≤ g ∧ g < wr.heap.size := fun g hg => hown.1.lt g hg
            have Hrow := Lib.hid hrow
            have Hq := Lib.hid hq
            clear hown hx hcl htl hq hrow
            generalize hO : PT n ++ Flt.clauses p (Q.take m) = O at *
            have HO := Lib.hid hO
            clear hO
            go_wp2_with fail
            refine wp_region_held_drew (S := (fun w' : World => w'.cell? ⟨pb, po + n * 3, none⟩ = some (.string (mk p)) ∧ w'.cell? ⟨qb, qo + m * 2, none⟩ = some (.int .i64 x1) ∧ w'.cell? ⟨qb, qo + m * 2 + 1, none⟩ = some (.int .i64 x2))) (by kernel_rfl) ⟨d0, c0, c1⟩ (fun hHeld => ?_)
            refine wpAnyH_take (i := 0) (v := ?_) rfl (by kernel_rfl) (by kernel_rfl) (by kernel_rfl) (fun _ _ _ h => h) (Or.inl ⟨by rfl, (by intro w hSw; go_simp; try with_reducible rfl)⟩) (by assumption) ?_
            simp only [Act.put, List.getElem_toArray, List.getElem_cons_zero, List.getElem_cons_succ, List.setIfInBounds_toArray, List.set_cons_zero, List.set_cons_succ]
            refine wpAnyH_take (i := 1) (v := ?_) rfl (by kernel_rfl) (by kernel_rfl) (by kernel_rfl) (fun _ _ _ h => h) (Or.inl ⟨by rfl, (by intro w hSw; go_simp; try with_reducible rfl)⟩) (by assumption) ?_
            simp only [Act.put, List.getElem_toArray, List.getElem_cons_zero, List.getElem_cons_succ, List.setIfInBounds_toArray, List.set_cons_zero, List.set_cons_succ]
            refine wpAnyH_take (i := 2) (v := ?_) rfl (by kernel_rfl) (by kernel_rfl) (by kernel_rfl) (fun _ _ _ h => h) (Or.inl ⟨by rfl, (by intro w hSw; go_simp; try with_reducible rfl)⟩) (by assumption) ?_
            simp only [Act.put, List.getElem_toArray, List.getElem_cons_zero, List.getElem_cons_succ, List.setIfInBounds_toArray, List.set_cons_zero, List.set_cons_succ]
            refine wpAnyH_take (i := 3) (v := ?_) rfl (by kernel_rfl) (by kernel_rfl) (by kernel_rfl) (fun _ _ _ h => h) (Or.inl ⟨by rfl, (by intro w hSw; go_simp; try with_reducible rfl)⟩) (by assumption) ?_
            simp only [Act.put, List.getElem_toArray, List.getElem_cons_zero, List.getElem_cons_succ, List.setIfInBounds_toArray, List.set_cons_zero, List.set_cons_succ]
            refine wpAnyH_take (i := 4) (v := ?_) rfl (by kernel_rfl) (by kernel_rfl) (by kernel_rfl) (fun _ _ _ h => h) (Or.inl ⟨by rfl, (by intro w hSw; go_simp; try with_reducible rfl)⟩) (by assumption) ?_
            simp only [Act.put, List.getElem_toArray, List.getElem_cons_zero, List.getElem_cons_succ, List.setIfInBounds_toArray, List.set_cons_zero, List.set_cons_succ]
            refine wpAnyH_take (i := 5) (v := ?_) rfl (by kernel_rfl) (by kernel_rfl) (by kernel_rfl) (fun _ _ _ h => h) (Or.inl ⟨by rfl, (by intro w hSw; have d0 := hSw.1; have c0 := hSw.2.1; have c1 := hSw.2.2; go_simp; try with_reducible rfl)⟩) (by assumption) ?_
            simp only [Act.put, List.getElem_toArray, List.getElem_cons_zero, List.getElem_cons_succ, List.setIfInBounds_toArray, List.set_cons_zero, List.set_cons_succ]
            refine wpAnyH_take (i := 6) (v := ?_) rfl (by kernel_rfl) (by kernel_rfl) (by kernel_rfl) (fun _ _ _ h => h) (Or.inl ⟨by rfl, (by intro w hSw; go_simp; try with_reducible rfl)⟩) (by assumption) ?_
            simp only [Act.put, List.getElem_toArray, List.getElem_cons_zero, List.getElem_cons_succ, List.setIfInBounds_toArray, List.set_cons_zero, List.set_cons_succ]
            refine wpAnyH_take (i := 7) (v := ?_) rfl (by kernel_rfl) (by kernel_rfl) (by kernel_rfl) (fun _ _ _ h => h) (Or.inl ⟨by rfl, (by intro w hSw; go_simp; try with_reducible rfl)⟩) (by assumption) ?_
            simp only [Act.put, List.getElem_toArray, List.getElem_cons_zero, List.getElem_cons_succ, List.setIfInBounds_toArray, List.set_cons_zero, List.set_cons_succ]
            refine wpAnyH_take (i := 8) (v := ?_) rfl (by kernel_rfl) (by kernel_rfl) (by kernel_rfl) (fun _ _ _ h => h) (Or.inl ⟨by rfl, (by intro w hSw; go_simp; try with_reducible rfl)⟩) (by assumption) ?_
            simp only [Act.put, List.getElem_toArray, List.getElem_cons_zero, List.getElem_cons_succ, List.setIfInBounds_toArray, List.set_cons_zero, List.set_cons_succ]
            refine wpAnyH_take (i := 9) (v := ?_) rfl (by kernel_rfl) (by kernel_rfl) (by kernel_rfl) (fun _ _ _ h => h) (Or.inl ⟨by rfl, (by intro w hSw; have d0 := hSw.1; have c0 := hSw.2.1; have c1 := hSw.2.2; go_simp; try with_reducible rfl)⟩) (by assumption) ?_
            simp only [Act.put, List.getElem_toArray, List.getElem_cons_zero, List.getElem_cons_succ, List.setIfInBounds_toArray, List.set_cons_zero, List.set_cons_succ]
            refine wpAnyH_take (i := 10) (v := ?_) rfl (by kernel_rfl) (by kernel_rfl) (by kernel_rfl) (fun _ _ _ h => h) (Or.inl ⟨by rfl, (by intro w hSw; go_simp; try with_reducible rfl)⟩) (by assumption) ?_
            simp only [Act.put, List.getElem_toArray, List.getElem_cons_zero, List.getElem_cons_succ, List.setIfInBounds_toArray, List.set_cons_zero, List.set_cons_succ]
            refine wpAnyH_ready (rs := [11]) (by kernel_rfl) (by simp) ?_
            refine AllReadyH.cons rfl (fun K hK => ?_) AllReadyH.nil
            go_simp
            have hb10 : Below wr.drew.heap.size wr.drew (wr.drew.alloc (.cells #[.string (mk p), .int .i64 x1, .int .i64 x2] 39)) := (Below.refl _ _).alloc (Nat.le_refl _) _
            refine hK.out _ _ ⟨(hb10.cell (p := ⟨pb, po + n * 3, none⟩) hpq).trans hHeld.1, (hb10.cell (p := ⟨qb, qo + m * 2, none⟩) hqb).trans hHeld.2.1, (hb10.cell (p := ⟨qb, qo + m * 2 + 1, none⟩) hqb).trans hHeld.2.2⟩ (fun hHeld => ?_)
            clear hK K
            refine wpAnyH_ready (rs := [12]) (by kernel_rfl) (by simp) ?_
            refine AllReadyH.cons rfl (fun K hK => ?_) AllReadyH.nil
            have hown3 := HownD.out.1.alloc (.cells #[.string (mk p), .int .i64 x1, .int .i64 x2] 39)
            refine step_near rfl (.tmp 38) (.tmp 49) 22 (by rfl) w1.heap.size 39 i0 (.agg #[.string ⟨#[]⟩, .int .i64 0, .int .i64 0]) 32 Tryz.underlying22 hi0 hz0 hz1 hz2 rfl (by decide) (by rfl) (by rfl) hown3 (cl_made _ 39 p x1 x2) (fun _ _ => rfl) (fun x _ => cl_one x) ?a1 ?a2 ?a3 ?_
            case a1 => (have := hlen.out; unfold maxLen; first | omega | (simp <;> omega))
            case a2 => (have := hlen.out; first | omega | (simp <;> omega))
            case a3 => (have := HownD.out.2.size; first | omega | (simp at * <;> omega))
            intro v9 w9 own9 hg9 hn9
            have Hnew := Lib.hid (HownD.out.more (x := (⟨p, x1, x2⟩ : Flt.Cl)) (v' := v9) (by simpa [clV] using own9) hg9)
            have kk := Kept.ofGrown (F := fun i => u5.ownBlock = some i) hg9 (fun i e => e)
            have hqd : ¬ u5.ownBlock = some qb := fun e => by have := hob.out _ e; have := hqF.1; have := hqF.2; omega
            have hpd : ¬ u5.ownBlock = some pb := fun e => by have := (Hrow.out _ e).1; omega
            have Hq9 : Hid (Rgs w9 (NewIn w4 w5) (.slice (some ⟨qb, qo, none⟩) Q.length qc) Q) := Lib.hid (((Hq.out.below ((Below.refl _ _).drew)).below ((Below.refl _ _).alloc (Nat.le_refl _) (.cells #[.string (mk p), .int .i64 x1, .int .i64 x2] 39))).kept kk (fun i hi e => by have := hob.out _ e; have := hi.1; have := hi.2; omega))
            have hob9 : Hid (∀ g, v9.ownBlock = some g → g < w4.heap.size ∨ w5.heap.size ≤ g) := Lib.hid (fun g hg => by
              rcases hn9 with h | h
              · exact hob.out g (h ▸ hg)
              · have := h g hg; simp at this; exact Or.inr (by omega))
            have hz9 : Hid (w5.heap.size ≤ w9.heap.size) := Lib.hid (by have := hg9.size; simp at this; omega)
            have hS9 := (⟨(kk.cell (p := ⟨pb, po + n * 3, none⟩) (by simp; omega) hpd).trans hHeld.1, (kk.cell (p := ⟨qb, qo + m * 2, none⟩) (by simp; omega) hqd).trans hHeld.2.1, (kk.cell (p := ⟨qb, qo + m * 2 + 1, none⟩) (by simp; omega) hqd).trans hHeld.2.2⟩ : _ ∧ _ ∧ _)
            clear own9 hg9 hn9 kk hown3
            refine hK.out _ _ hS9 (fun hHeld => ?_)
            clear hS9
            clear hK K
            refine wpAnyH_take (i := 13) (v := ?_) rfl (by kernel_rfl) (by kernel_rfl) (by kernel_rfl) (fun _ _ _ h => h) (Or.inl ⟨by rfl, (by intro w hSw; go_simp; try with_reducible rfl)⟩) (by assumption) ?_
            simp only [Act.put, List.getElem_toArray, List.getElem_cons_zero, List.getElem_cons_succ, List.setIfInBounds_toArray, List.set_cons_zero, List.set_cons_succ]
            refine wpAnyH_done (by kernel_rfl) ?_ _
            go_wp2_with fail
            exact ⟨⟨m + 1, by omega, by go_num, by rw [hst.out, ← List.append_assoc, HO.out]; exact Hnew.out, Hq9.out, hob9, hz9.out⟩, by show Q.length - ((m : Int) + 1).toNat < Q.length - (m : Int).toNat; omega⟩
          · obtain rfl : m = Q.length := by omega
            rw [List.take_length] at hown
            have Hown := Lib.hid hown
            clear hown hq hob
            go_wp2_with fail
            exact ⟨⟨n + 1, by omega, by go_num, by rw [hmore.out]; exact Hown.out⟩, by show L.length - ((n : Int) + 1).toNat < L.length - (n : Int).toNat; omega⟩
      · go_simp
        go_at_call 28
        refine (SG.out p hpp _ (HB1.out.trans (hHeld.mono HB1.out.size))).mono ?_
        rintro e w3 ⟨s2, rfl, hs2⟩
        have hhN := hHeld.trans (hs2.2.mono hHeld.size)
        have HS2 := Lib.hid hs2
        clear hs2
        refine hK.out _ _ hhN (fun hHeld => ?_)
        clear hhN
        clear hK K
        refine wpAnyH_ready (rs := [5]) (by kernel_rfl) (by simp) ?_
        refine (AllReadyH.cons rfl (fun K hK => ?_) AllReadyH.nil)
        go_simp
        have HM5 := Lib.hid (rg_made w3 37 lo hi)
        have hb5 : Below w3.heap.size w3 (w3.alloc (.cells #[.int .i64 lo, .int .i64 hi] 37)) := (Below.refl _ _).alloc (Nat.le_refl _) _
        have hhN := hHeld.trans (hb5.mono hHeld.size)
        have HS3 := Lib.hid (HS2.out.below hb5)
        generalize w3.alloc (.cells #[.int .i64 lo, .int .i64 hi] 37) = w4 at *
        clear hb5
        refine hK.out _ _ hhN (fun hHeld => ?_)
        clear hhN
        clear hK K
        refine wpAnyH_ready (rs := [13]) (by kernel_rfl) (by simp) ?_
        refine (AllReadyH.cons rfl (fun K hK => ?_) AllReadyH.nil)
        have hh4 := hHeld
        go_simp
        go_at_call 27
        refine (TWc.out _ _ _ _ _ HM5.out (HS3.out.rows (fun _ _ => rfl))).mono ?_
        rintro e w5 ⟨s4, rfl, hs4⟩
        have hhN := hHeld.trans (hs4.2.mono hHeld.size)
        have HS4 := Lib.hid hs4
        clear hs4
        refine hK.out _ _ hhN (fun hHeld => ?_)
        clear hhN
        clear hK K
        refine wpAnyH_take (i := 14) (v := ?_) rfl (by kernel_rfl) (by kernel_rfl) (by kernel_rfl) (fun _ _ _ h => h) (Or.inl ⟨by rfl, (by intro w hSw; go_simp; try with_reducible rfl)⟩) (by assumption) ?_
        simp only [Act.put, List.getElem_toArray, List.getElem_cons_zero, List.getElem_cons_succ, List.setIfInBounds_toArray, List.set_cons_zero, List.set_cons_succ]
        refine wpAnyH_done (by kernel_rfl) ?_ _
        have HQ := Lib.hid (HS4.out.rows (fun _ _ => rfl))
        have Hown5 := Lib.hid (Hown.out.below hHeld)
        have hob : Hid (∀ g, u5.ownBlock = some g → g < w4.heap.size ∨ w5.heap.size ≤ g) := Lib.hid (fun g hg => Or.inl (by have := (Hown.out.1.lt g hg).2; have := hh4.size; omega))
        have Hz45 : Hid (w4.heap.size ≤ w5.heap.size) := Lib.hid HS4.out.2.size
        clear hHeld Hown Hbel HB1 HS4 hh4
        have hql := (two_bd 2 [(lo, hi)] (Flt.sizes g p)).2
        obtain ⟨QA, qc, rfl, hqc⟩ := HQ.out.parts
        generalize hQ : Sz.two 2 [(lo, hi)] (Flt.sizes g p) = Q at *
        have HQQ := Lib.hid hQ
        clear hQ
        have hql' : (Q.length : Int) ≤ 202 := by omega
        go_wp2_with fail
        go_loopw [5, 9] (fun out k wq => ∃ m : Nat, m ≤ Q.length ∧ k = .int .i64 (m : Int) ∧ RowsOwn 39 3 clV w1 (PT n ++ Flt.clauses p (Q.take m)) out wq ∧ Rgs wq (NewIn w4 w5) (.slice QA Q.length qc) Q ∧ Hid (∀ g, out.ownBlock = some g → g < w4.heap.size ∨ w5.heap.size ≤ g) ∧ w5.heap.size ≤ wq.heap.size) (fun _ k _ => Q.length - (intOf k).toNat)
        case atStart => exact ⟨0, Nat.zero_le _, rfl, by simpa [Flt.clauses] using Hown5.out, HQ.out, hob, Nat.le_refl _⟩
        case round =>
          obtain ⟨m, hm, rfl, hown, hq, hob, hz5⟩ := hrel
          by_cases hlm : m < Q.length
          · obtain ⟨qb, qo, qc', e, -, hqF, hqb⟩ := hq.block (by omega)
            injection e with e1 e2 e3
            subst e1 e3
            clear e2
            obtain ⟨x, hx⟩ : ∃ x, Q[m]? = some x := ⟨_, List.getElem?_eq_getElem hlm⟩
            obtain ⟨c0, c1⟩ := Rgs.at hq hx
            have d0 := (CP.out wr hown.2).1
            have hst := Lib.hid (Flt.clauses_take (p := p) hx)
            have hcl := Flt.clauses_len p (Q.take m)
            have htl : (Q.take m).length ≤ 202 := by rw [List.length_take]; omega
            have hlen : Hid ((PT n ++ Flt.clauses p (Q.take m)).length ≤ 201202) := Lib.hid (by rw [List.length_append]; have := hnl.out; omega)
            have hm0 : (0 : Int) ≤ (m : Int) := by omega
            have hm1 : (m : Int) < (Q.length : Int) := by omega
            have hpq : pb < wr.heap.size := by have := hown.2.size; omega
            obtain ⟨x1, x2⟩ := x
            simp only at c0 c1
            have hst : Hid (Flt.clauses p (Q.take (m + 1)) = Flt.clauses p (Q.take m) ++ [⟨p, x1, x2⟩]) := hst
            have HownD := Lib.hid (hown.below ((Below.refl _ _).drew))
            have hrow : ∀ g, u5.ownBlock = some g → w1.heap.size ≤ g ∧ g < wr.heap.size := fun g hg => hown.1.lt g hg
            have Hrow := Lib.hid hrow
            have Hq := Lib.hid hq
            clear hown hx hcl htl hq hrow
            generalize hO : PT n ++ Flt.clauses p (Q.take m) = O at *
            have HO := Lib.hid hO
            clear hO
            go_wp2_with fail
            refine wp_region_held_drew (S := (fun w' : World => w'.cell? ⟨pb, po + n * 3, none⟩ = some (.string (mk p)) ∧ w'.cell? ⟨qb, qo + m * 2, none⟩ = some (.int .i64 x1) ∧ w'.cell? ⟨qb, qo + m * 2 + 1, none⟩ = some (.int .i64 x2))) (by kernel_rfl) ⟨d0, c0, c1⟩ (fun hHeld => ?_)
            refine wpAnyH_take (i := 0) (v := ?_) rfl (by kernel_rfl) (by kernel_rfl) (by kernel_rfl) (fun _ _ _ h => h) (Or.inl ⟨by rfl, (by intro w hSw; go_simp; try with_reducible rfl)⟩) (by assumption) ?_
            simp only [Act.put, List.getElem_toArray, List.getElem_cons_zero, List.getElem_cons_succ, List.setIfInBounds_toArray, List.set_cons_zero, List.set_cons_succ]
            refine wpAnyH_take (i := 1) (v := ?_) rfl (by kernel_rfl) (by kernel_rfl) (by kernel_rfl) (fun _ _ _ h => h) (Or.inl ⟨by rfl, (by intro w hSw; go_simp; try with_reducible rfl)⟩) (by assumption) ?_
            simp only [Act.put, List.getElem_toArray, List.getElem_cons_zero, List.getElem_cons_succ, List.setIfInBounds_toArray, List.set_cons_zero, List.set_cons_succ]
            refine wpAnyH_take (i := 2) (v := ?_) rfl (by kernel_rfl) (by kernel_rfl) (by kernel_rfl) (fun _ _ _ h => h) (Or.inl ⟨by rfl, (by intro w hSw; go_simp; try with_reducible rfl)⟩) (by assumption) ?_
            simp only [Act.put, List.getElem_toArray, List.getElem_cons_zero, List.getElem_cons_succ, List.setIfInBounds_toArray, List.set_cons_zero, List.set_cons_succ]
            refine wpAnyH_take (i := 3) (v := ?_) rfl (by kernel_rfl) (by kernel_rfl) (by kernel_rfl) (fun _ _ _ h => h) (Or.inl ⟨by rfl, (by intro w hSw; go_simp; try with_reducible rfl)⟩) (by assumption) ?_
            simp only [Act.put, List.getElem_toArray, List.getElem_cons_zero, List.getElem_cons_succ, List.setIfInBounds_toArray, List.set_cons_zero, List.set_cons_succ]
            refine wpAnyH_take (i := 4) (v := ?_) rfl (by kernel_rfl) (by kernel_rfl) (by kernel_rfl) (fun _ _ _ h => h) (Or.inl ⟨by rfl, (by intro w hSw; go_simp; try with_reducible rfl)⟩) (by assumption) ?_
            simp only [Act.put, List.getElem_toArray, List.getElem_cons_zero, List.getElem_cons_succ, List.setIfInBounds_toArray, List.set_cons_zero, List.set_cons_succ]
            refine wpAnyH_take (i := 5) (v := ?_) rfl (by kernel_rfl) (by kernel_rfl) (by kernel_rfl) (fun _ _ _ h => h) (Or.inl ⟨by rfl, (by intro w hSw; have d0 := hSw.1; have c0 := hSw.2.1; have c1 := hSw.2.2; go_simp; try with_reducible rfl)⟩) (by assumption) ?_
            simp only [Act.put, List.getElem_toArray, List.getElem_cons_zero, List.getElem_cons_succ, List.setIfInBounds_toArray, List.set_cons_zero, List.set_cons_succ]
            refine wpAnyH_take (i := 6) (v := ?_) rfl (by kernel_rfl) (by kernel_rfl) (by kernel_rfl) (fun _ _ _ h => h) (Or.inl ⟨by rfl, (by intro w hSw; go_simp; try with_reducible rfl)⟩) (by assumption) ?_
            simp only [Act.put, List.getElem_toArray, List.getElem_cons_zero, List.getElem_cons_succ, List.setIfInBounds_toArray, List.set_cons_zero, List.set_cons_succ]
            refine wpAnyH_take (i := 7) (v := ?_) rfl (by kernel_rfl) (by kernel_rfl) (by kernel_rfl) (fun _ _ _ h => h) (Or.inl ⟨by rfl, (by intro w hSw; go_simp; try with_reducible rfl)⟩) (by assumption) ?_
            simp only [Act.put, List.getElem_toArray, List.getElem_cons_zero, List.getElem_cons_succ, List.setIfInBounds_toArray, List.set_cons_zero, List.set_cons_succ]
            refine wpAnyH_take (i := 8) (v := ?_) rfl (by kernel_rfl) (by kernel_rfl) (by kernel_rfl) (fun _ _ _ h => h) (Or.inl ⟨by rfl, (by intro w hSw; go_simp; try with_reducible rfl)⟩) (by assumption) ?_
            simp only [Act.put, List.getElem_toArray, List.getElem_cons_zero, List.getElem_cons_succ, List.setIfInBounds_toArray, List.set_cons_zero, List.set_cons_succ]
            refine wpAnyH_take (i := 9) (v := ?_) rfl (by kernel_rfl) (by kernel_rfl) (by kernel_rfl) (fun _ _ _ h => h) (Or.inl ⟨by rfl, (by intro w hSw; have d0 := hSw.1; have c0 := hSw.2.1; have c1 := hSw.2.2; go_simp; try with_reducible rfl)⟩) (by assumption) ?_
            simp only [Act.put, List.getElem_toArray, List.getElem_cons_zero, List.getElem_cons_succ, List.setIfInBounds_toArray, List.set_cons_zero, List.set_cons_succ]
            refine wpAnyH_take (i := 10) (v := ?_) rfl (by kernel_rfl) (by kernel_rfl) (by kernel_rfl) (fun _ _ _ h => h) (Or.inl ⟨by rfl, (by intro w hSw; go_simp; try with_reducible rfl)⟩) (by assumption) ?_
            simp only [Act.put, List.getElem_toArray, List.getElem_cons_zero, List.getElem_cons_succ, List.setIfInBounds_toArray, List.set_cons_zero, List.set_cons_succ]
            refine wpAnyH_ready (rs := [11]) (by kernel_rfl) (by simp) ?_
            refine AllReadyH.cons rfl (fun K hK => ?_) AllReadyH.nil
            go_simp
            have hb10 : Below wr.drew.heap.size wr.drew (wr.drew.alloc (.cells #[.string (mk p), .int .i64 x1, .int .i64 x2] 39)) := (Below.refl _ _).alloc (Nat.le_refl _) _
            refine hK.out _ _ ⟨(hb10.cell (p := ⟨pb, po + n * 3, none⟩) hpq).trans hHeld.1, (hb10.cell (p := ⟨qb, qo + m * 2, none⟩) hqb).trans hHeld.2.1, (hb10.cell (p := ⟨qb, qo + m * 2 + 1, none⟩) hqb).trans hHeld.2.2⟩ (fun hHeld => ?_)
            clear hK K
            refine wpAnyH_ready (rs := [12]) (by kernel_rfl) (by simp) ?_
            refine AllReadyH.cons rfl (fun K hK => ?_) AllReadyH.nil
            have hown3 := HownD.out.1.alloc (.cells #[.string (mk p), .int .i64 x1, .int .i64 x2] 39)
            refine step_near rfl (.tmp 38) (.tmp 49) 22 (by rfl) w1.heap.size 39 i0 (.agg #[.string ⟨#[]⟩, .int .i64 0, .int .i64 0]) 32 Tryz.underlying22 hi0 hz0 hz1 hz2 rfl (by decide) (by rfl) (by rfl) hown3 (cl_made _ 39 p x1 x2) (fun _ _ => rfl) (fun x _ => cl_one x) ?a1 ?a2 ?a3 ?_
            case a1 => (have := hlen.out; unfold maxLen; first | omega | (simp <;> omega))
            case a2 => (have := hlen.out; first | omega | (simp <;> omega))
            case a3 => (have := HownD.out.2.size; first | omega | (simp at * <;> omega))
            intro v9 w9 own9 hg9 hn9
            have Hnew := Lib.hid (HownD.out.more (x := (⟨p, x1, x2⟩ : Flt.Cl)) (v' := v9) (by simpa [clV] using own9) hg9)
            have kk := Kept.ofGrown (F := fun i => u5.ownBlock = some i) hg9 (fun i e => e)
            have hqd : ¬ u5.ownBlock = some qb := fun e => by have := hob.out _ e; have := hqF.1; have := hqF.2; omega
            have hpd : ¬ u5.ownBlock = some pb := fun e => by have := (Hrow.out _ e).1; omega
            have Hq9 : Hid (Rgs w9 (NewIn w4 w5) (.slice (some ⟨qb, qo, none⟩) Q.length qc) Q) := Lib.hid (((Hq.out.below ((Below.refl _ _).drew)).below ((Below.refl _ _).alloc (Nat.le_refl _) (.cells #[.string (mk p), .int .i64 x1, .int .i64 x2] 39))).kept kk (fun i hi e => by have := hob.out _ e; have := hi.1; have := hi.2; omega))
            have hob9 : Hid (∀ g, v9.ownBlock = some g → g < w4.heap.size ∨ w5.heap.size ≤ g) := Lib.hid (fun g hg => by
              rcases hn9 with h | h
              · exact hob.out g (h ▸ hg)
              · have := h g hg; simp at this; exact Or.inr (by omega))
            have hz9 : Hid (w5.heap.size ≤ w9.heap.size) := Lib.hid (by have := hg9.size; simp at this; omega)
            have hS9 := (⟨(kk.cell (p := ⟨pb, po + n * 3, none⟩) (by simp; omega) hpd).trans hHeld.1, (kk.cell (p := ⟨qb, qo + m * 2, none⟩) (by simp; omega) hqd).trans hHeld.2.1, (kk.cell (p := ⟨qb, qo + m * 2 + 1, none⟩) (by simp; omega) hqd).trans hHeld.2.2⟩ : _ ∧ _ ∧ _)
            clear own9 hg9 hn9 kk hown3
            refine hK.out _ _ hS9 (fun hHeld => ?_)
            clear hS9
            clear hK K
            refine wpAnyH_take (i := 13) (v := ?_) rfl (by kernel_rfl) (by kernel_rfl) (by kernel_rfl) (fun _ _ _ h => h) (Or.inl ⟨by rfl, (by intro w hSw; go_simp; try with_reducible rfl)⟩) (by assumption) ?_
            simp only [Act.put, List.getElem_toArray, List.getElem_cons_zero, List.getElem_cons_succ, List.setIfInBounds_toArray, List.set_cons_zero, List.set_cons_succ]
            refine wpAnyH_done (by kernel_rfl) ?_ _
            go_wp2_with fail
            exact ⟨⟨m + 1, by omega, by go_num, by rw [hst.out, ← List.append_assoc, HO.out]; exact Hnew.out, Hq9.out, hob9, hz9.out⟩, by show Q.length - ((m : Int) + 1).toNat < Q.length - (m : Int).toNat; omega⟩
          · obtain rfl : m = Q.length := by omega
            rw [List.take_length] at hown
            have Hown := Lib.hid hown
            clear hown hq hob
            go_wp2_with fail
            exact ⟨⟨n + 1, by omega, by go_num, by rw [hmore.out]; exact Hown.out⟩, by show L.length - ((n : Int) + 1).toNat < L.length - (n : Int).toNat; omega⟩
    · obtain rfl : n = L.length := by omega
      rw [ALL.out] at hown
      have Hown := Lib.hid hown
      have Hfin := Lib.hid (NO.out _ _ _ (hown.rows (fun _ _ => rfl)))
      clear hown
      go_wp2_with fail
      refine (Hfin.out).mono ?_
      rintro e w6 ⟨v6, rfl, h6⟩
      have H6 := Lib.hid ((h6.since Hown.out.2).since Hb1.out)
      clear h6
      go_wp2_with fail
      go_ret
      exact ⟨_, rfl, H6.out⟩
end Go.Proofs.YtajhmgbicliihaaGreatDoor
