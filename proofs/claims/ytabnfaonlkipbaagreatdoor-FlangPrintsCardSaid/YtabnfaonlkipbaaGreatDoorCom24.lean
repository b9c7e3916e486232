/- The document's own answers of layer 9: Norm, Alike. -/
import Derived.Test.YtabnfaonlkipbaaGreatDoorCom13
import Derived.Test.YtabnfaonlkipbaaGreatDoorCom7
set_option linter.unusedSimpArgs false
set_option linter.unusedVariables false
namespace Go.Proofs.YtabnfaonlkipbaaGreatDoor
open Go.RowKit

set_option maxRecDepth 100000 in
theorem Flt.clauses_take {p : Flt.Tx} {l : List Sz.Rg} {m : Nat} {r : Sz.Rg} (h : l[m]? = some r) : Flt.clauses p (l.take (m + 1)) = Flt.clauses p (l.take m) ++ [⟨p, r.1, r.2⟩] := by
  obtain ⟨hl, he⟩ := List.getElem?_eq_some_iff.1 h
  rw [List.take_succ_eq_append_getElem hl, he]
  unfold Flt.clauses
  rw [List.map_append]
  rfl
def Flt.normTo (f : List Flt.Cl) (n : Nat) : List Flt.Cl := ((Flt.prefixes f).take n).flatMap fun p => Flt.clauses p (Flt.piece f p)
set_option maxRecDepth 100000 in
theorem Flt.normTo_more {f : List Flt.Cl} {n : Nat} {p : Flt.Tx} (h : (Flt.prefixes f)[n]? = some p) : Flt.normTo f (n + 1) = Flt.normTo f n ++ Flt.clauses p (Flt.piece f p) := by
  obtain ⟨hl, he⟩ := List.getElem?_eq_some_iff.1 h
  unfold Flt.normTo
  rw [List.take_succ_eq_append_getElem hl, he, List.flatMap_append]
  simp
set_option maxRecDepth 100000 in
theorem Flt.normTo_all (f : List Flt.Cl) : Flt.normTo f (Flt.prefixes f).length = Flt.norm f := by
  unfold Flt.normTo Flt.norm
  rw [List.take_length]
set_option maxRecDepth 100000 in
theorem Flt.normTo_len (f : List Flt.Cl) (n : Nat) (hn : n ≤ 1000000) : (Flt.normTo f n).length ≤ 202000000 := by
  have h1 := Flt.flat_len (fun p => Flt.clauses p (Flt.piece f p)) 202 ((Flt.prefixes f).take n) (fun p _ => by unfold Flt.clauses; rw [List.length_map]; exact Flt.piece_len f p)
  have h2 : ((Flt.prefixes f).take n).length ≤ n := by rw [List.length_take]; omega
  unfold Flt.normTo
  omega
set_option maxRecDepth 100000 in
theorem Flt.clauses_len (p : Flt.Tx) (l : List Sz.Rg) : (Flt.clauses p l).length = l.length := by unfold Flt.clauses; rw [List.length_map]
set_option maxRecDepth 100000 in
theorem Flt.prefixes_small {f : List Flt.Cl} (hs : ∀ c ∈ f, c.pre.length ≤ 100000) : ∀ p ∈ Flt.prefixes f, p.length ≤ 100000 := by
  intro p hp
  obtain ⟨c, hc, rfl⟩ := (Flt.prefixes_mem f p).1 hp
  exact hs c hc

set_option maxRecDepth 100000 in
set_option maxHeartbeats 6400000 in
theorem ref_fnorm {w : World} {F : Nat → Prop} {v : Value} {f : List Flt.Cl} (h : Cls w F v f) (hl : f.length ≤ 1000000) (hs : ∀ c ∈ f, c.pre.length ≤ 100000) :
    Calls Tryz.prog 15 #[v] w fun e w' => ∃ v', e = .returned v' ∧ RowsOwn 42 3 clV w (Flt.norm f) v' w' := by
  obtain ⟨i0, hi0, hz0, hz1, hz2⟩ := info_parts clauseInfo
  have PRE := Lib.hid (ref_prefixes h (by omega))
  have SZ := Lib.hid (fun (p : List UInt8) (hp : p.length ≤ 100000) (W : World) (hW : Below w.heap.size w W) => ref_fsizes (p := p) (h.below hW) (by omega) hp hs)
  have AB := Lib.hid (fun (p : List UInt8) (hp : p.length ≤ 100000) (W : World) (hW : Below w.heap.size w W) => ref_above (p := p) (h.below hW) (by omega) hp hs)
  have SA : Hid (∀ (p : List UInt8), p.length ≤ 100000 → ∀ (A B : World) (x : Value), RowsOwn 42 3 clV A (Flt.above f p) x B → Calls Tryz.prog 31 #[x, .string (mk p)] B fun e w' => ∃ v', e = .returned v' ∧ RowsOwn 40 2 rgV B (Flt.sizes (Flt.above f p) p) v' w') :=
    Lib.hid (fun p hp A B x hx => ref_fsizes (p := p) (hx.rows (fun _ _ => rfl)) (by have := List.length_filter_le (fun c : Flt.Cl => decide (c.pre ≠ p ∧ Pth.Covers c.pre p)) f; unfold Flt.above; omega) hp (fun c hc => hs c (List.mem_filter.1 hc).1))
  have TW : Hid (∀ (p : List UInt8) (A B C D : World) (x y : Value), RowsOwn 40 2 rgV A (Flt.sizes f p) x B → Below B.heap.size B C → RowsOwn 40 2 rgV C (Flt.sizes (Flt.above f p) p) y D → Calls Tryz.prog 30 #[x, y, .int .i64 2] D fun e w' => ∃ v', e = .returned v' ∧ RowsOwn 40 2 rgV D (Flt.piece f p) v' w') :=
    Lib.hid (fun p A B C D x y hx hBC hy => by
      have l1 := Flt.sizes_len f p
      have l2 := Flt.sizes_len (Flt.above f p) p
      have l3 := List.length_filter_le (fun c : Flt.Cl => decide (c.pre ≠ p ∧ Pth.Covers c.pre p)) f
      have l4 : (Flt.above f p).length ≤ f.length := l3
      exact ref_two (((hx.rows (fun _ _ => rfl)).below hBC).below hy.2) (hy.rows (fun _ _ => rfl)) (by omega) (by omega) 2 (by omega))
  have HPS := Lib.hid (Flt.prefixes_small hs)
  have hpl := Flt.prefixes_len f
  have hpl' : ((Flt.prefixes f).length : Int) ≤ 1000000 := by omega
  have HPL : Hid ((Flt.prefixes f).length ≤ 1000000) := Lib.hid (by omega)
  clear h hs hpl
  go_enter Tryz.func15, Tryz.ntmps15
  go_wp2_with fail
  refine (PRE.out).mono ?_
  rintro e w1 ⟨pv, rfl, hpv⟩
  have HP := Lib.hid (hpv.rows (fun _ _ => rfl))
  have Hb1 := Lib.hid hpv.2
  clear hpv PRE
  obtain ⟨PA, pc, rfl, hpc⟩ := HP.out.parts
  go_wp2_with fail
  go_loopw [3, 5, 6, 7] (fun out i _ _ wr => ∃ n : Nat, n ≤ (Flt.prefixes f).length ∧ i = .int .i64 (n : Int) ∧ RowsOwn 42 3 clV w1 (Flt.normTo f n) out wr) (fun _ i _ _ _ => (Flt.prefixes f).length - (intOf i).toNat)
  case atStart => exact ⟨0, Nat.zero_le _, rfl, RowsOwn.start _ _ _ w1⟩
  case round =>
    obtain ⟨n, hn, rfl, hown⟩ := hrel
    by_cases hlt : n < (Flt.prefixes f).length
    · obtain ⟨pb, po, pc', e, -, -, hpb⟩ := HP.out.block (by omega)
      injection e with e1 e2 e3
      subst e1 e3
      clear e2
      obtain ⟨p, hp⟩ : ∃ p, (Flt.prefixes f)[n]? = some p := ⟨_, List.getElem?_eq_getElem hlt⟩
      have hpp := HPS.out p (List.mem_of_getElem? hp)
      have hn0 : (0 : Int) ≤ (n : Int) := by omega
      have hn1 : (n : Int) < ((Flt.prefixes f).length : Int) := by omega
      have CP : Hid (∀ W, Below w1.heap.size w1 W → W.cell? ⟨pb, po + n, none⟩ = some (.string (mk p))) := Lib.hid (fun W hW => Txs.at (HP.out.below hW) hp)
      have hmore := Lib.hid (Flt.normTo_more hp)
      have hnl := Lib.hid (Flt.normTo_len f n (by have := HPL.out; omega))
      have HB1 : Hid (Below w.heap.size w wr) := Lib.hid (Hb1.out.trans (hown.2.mono Hb1.out.size))
      have Hown := Lib.hid hown
      have Hbel := Lib.hid hown.2
      clear hown hp
      go_wp2_with fail
      refine wp_region_held_drew (S := (fun w' : World => Below wr.heap.size wr w')) (by kernel_rfl) ((Below.refl _ _).drew) (fun hHeld => ?_)
      refine wpAnyH_take (i := 0) (v := ?_) rfl (by kernel_rfl) (by kernel_rfl) (by kernel_rfl) (fun _ _ _ h => h) (Or.inl ⟨by rfl, (by intro w hSw; go_simp; try with_reducible rfl)⟩) (by assumption) ?_
      simp only [Act.put, List.getElem_toArray, List.getElem_cons_zero, List.getElem_cons_succ, List.setIfInBounds_toArray, List.set_cons_zero, List.set_cons_succ]
      refine wpAnyH_take (i := 1) (v := ?_) rfl (by kernel_rfl) (by kernel_rfl) (by kernel_rfl) (fun _ _ _ h => h) (Or.inl ⟨by rfl, (by intro w hSw; go_simp; try with_reducible rfl)⟩) (by assumption) ?_
      simp only [Act.put, List.getElem_toArray, List.getElem_cons_zero, List.getElem_cons_succ, List.setIfInBounds_toArray, List.set_cons_zero, List.set_cons_succ]
      refine wpAnyH_take (i := 2) (v := ?_) rfl (by kernel_rfl) (by kernel_rfl) (by kernel_rfl) (fun _ _ _ h => h) (Or.inl ⟨by rfl, (by intro w hSw; go_simp; try with_reducible rfl)⟩) (by assumption) ?_
      simp only [Act.put, List.getElem_toArray, List.getElem_cons_zero, List.getElem_cons_succ, List.setIfInBounds_toArray, List.set_cons_zero, List.set_cons_succ]
      refine wpAnyH_take (i := 3) (v := ?_) rfl (by kernel_rfl) (by kernel_rfl) (by kernel_rfl) (fun _ _ _ h => h) (Or.inl ⟨by rfl, (by intro w hSw; go_simp; try with_reducible rfl)⟩) (by assumption) ?_
      simp only [Act.put, List.getElem_toArray, List.getElem_cons_zero, List.getElem_cons_succ, List.setIfInBounds_toArray, List.set_cons_zero, List.set_cons_succ]
      refine wpAnyH_take (i := 4) (v := ?_) rfl (by kernel_rfl) (by kernel_rfl) (by kernel_rfl) (fun _ _ _ h => h) (Or.inl ⟨by rfl, (by intro w hSw; have d0 := CP.out _ (Hbel.out.trans (hSw.mono Hbel.out.size)); go_simp; try with_reducible rfl)⟩) (by assumption) ?_
      simp only [Act.put, List.getElem_toArray, List.getElem_cons_zero, List.getElem_cons_succ, List.setIfInBounds_toArray, List.set_cons_zero, List.set_cons_succ]
      refine wpAnyH_take (i := 6) (v := ?_) rfl (by kernel_rfl) (by kernel_rfl) (by kernel_rfl) (fun _ _ _ h => h) (Or.inl ⟨by rfl, (by intro w hSw; go_simp; try with_reducible rfl)⟩) (by assumption) ?_
      simp only [Act.put, List.getElem_toArray, List.getElem_cons_zero, List.getElem_cons_succ, List.setIfInBounds_toArray, List.set_cons_zero, List.set_cons_succ]
      refine wpAnyH_take (i := 7) (v := ?_) rfl (by kernel_rfl) (by kernel_rfl) (by kernel_rfl) (fun _ _ _ h => h) (Or.inl ⟨by rfl, (by intro w hSw; go_simp; try with_reducible rfl)⟩) (by assumption) ?_
      simp only [Act.put, List.getElem_toArray, List.getElem_cons_zero, List.getElem_cons_succ, List.setIfInBounds_toArray, List.set_cons_zero, List.set_cons_succ]
      refine wpAnyH_take (i := 8) (v := ?_) rfl (by kernel_rfl) (by kernel_rfl) (by kernel_rfl) (fun _ _ _ h => h) (Or.inl ⟨by rfl, (by intro w hSw; go_simp; try with_reducible rfl)⟩) (by assumption) ?_
      simp only [Act.put, List.getElem_toArray, List.getElem_cons_zero, List.getElem_cons_succ, List.setIfInBounds_toArray, List.set_cons_zero, List.set_cons_succ]
      refine wpAnyH_take (i := 9) (v := ?_) rfl (by kernel_rfl) (by kernel_rfl) (by kernel_rfl) (fun _ _ _ h => h) (Or.inl ⟨by rfl, (by intro w hSw; go_simp; try with_reducible rfl)⟩) (by assumption) ?_
      simp only [Act.put, List.getElem_toArray, List.getElem_cons_zero, List.getElem_cons_succ, List.setIfInBounds_toArray, List.set_cons_zero, List.set_cons_succ]
      refine wpAnyH_take (i := 10) (v := ?_) rfl (by kernel_rfl) (by kernel_rfl) (by kernel_rfl) (fun _ _ _ h => h) (Or.inl ⟨by rfl, (by intro w hSw; have d0 := CP.out _ (Hbel.out.trans (hSw.mono Hbel.out.size)); go_simp; try with_reducible rfl)⟩) (by assumption) ?_
      simp only [Act.put, List.getElem_toArray, List.getElem_cons_zero, List.getElem_cons_succ, List.setIfInBounds_toArray, List.set_cons_zero, List.set_cons_succ]
      refine wpAnyH_take (i := 12) (v := ?_) rfl (by kernel_rfl) (by kernel_rfl) (by kernel_rfl) (fun _ _ _ h => h) (Or.inl ⟨by rfl, (by intro w hSw; go_simp; try with_reducible rfl)⟩) (by assumption) ?_
      simp only [Act.put, List.getElem_toArray, List.getElem_cons_zero, List.getElem_cons_succ, List.setIfInBounds_toArray, List.set_cons_zero, List.set_cons_succ]
      refine wpAnyH_take (i := 13) (v := ?_) rfl (by kernel_rfl) (by kernel_rfl) (by kernel_rfl) (fun _ _ _ h => h) (Or.inl ⟨by rfl, (by intro w hSw; go_simp; try with_reducible rfl)⟩) (by assumption) ?_
      simp only [Act.put, List.getElem_toArray, List.getElem_cons_zero, List.getElem_cons_succ, List.setIfInBounds_toArray, List.set_cons_zero, List.set_cons_succ]
      refine wpAnyH_take (i := 14) (v := ?_) rfl (by kernel_rfl) (by kernel_rfl) (by kernel_rfl) (fun _ _ _ h => h) (Or.inl ⟨by rfl, (by intro w hSw; go_simp; try with_reducible rfl)⟩) (by assumption) ?_
      simp only [Act.put, List.getElem_toArray, List.getElem_cons_zero, List.getElem_cons_succ, List.setIfInBounds_toArray, List.set_cons_zero, List.set_cons_succ]
      refine wpAnyH_take (i := 15) (v := ?_) rfl (by kernel_rfl) (by kernel_rfl) (by kernel_rfl) (fun _ _ _ h => h) (Or.inl ⟨by rfl, (by intro w hSw; have d0 := CP.out _ (Hbel.out.trans (hSw.mono Hbel.out.size)); go_simp; try with_reducible rfl)⟩) (by assumption) ?_
      simp only [Act.put, List.getElem_toArray, List.getElem_cons_zero, List.getElem_cons_succ, List.setIfInBounds_toArray, List.set_cons_zero, List.set_cons_succ]
      refine wpAnyH_ready (rs := [5]) (by kernel_rfl) (by simp) ?_
      refine AllReadyH.cons rfl (fun K hK => ?_) AllReadyH.nil
      go_simp
      go_at_call 31
      refine (SZ.out p hpp _ (HB1.out.trans (hHeld.mono HB1.out.size))).mono ?_
      rintro e w2 ⟨s1, rfl, hs1⟩
      have hhN := hHeld.trans (hs1.2.mono hHeld.size)
      have HS1 := Lib.hid hs1
      clear hs1
      refine hK.out _ _ hhN (fun hHeld => ?_)
      clear hhN
      clear hK K
      refine wpAnyH_ready (rs := [11]) (by kernel_rfl) (by simp) ?_
      refine AllReadyH.cons rfl (fun K hK => ?_) AllReadyH.nil
      go_simp
      go_at_call 32
      refine (AB.out p hpp _ (HB1.out.trans (hHeld.mono HB1.out.size))).mono ?_
      rintro e w3 ⟨av, rfl, ha1⟩
      have hhN := hHeld.trans (ha1.2.mono hHeld.size)
      have HA1 := Lib.hid ha1
      clear ha1
      refine hK.out _ _ hhN (fun hHeld => ?_)
      clear hhN
      clear hK K
      refine wpAnyH_ready (rs := [16]) (by kernel_rfl) (by simp) ?_
      refine AllReadyH.cons rfl (fun K hK => ?_) AllReadyH.nil
      go_simp
      go_at_call 31
      refine (SA.out p hpp _ _ _ HA1.out).mono ?_
      rintro e w4 ⟨s2, rfl, hs2⟩
      have hhN := hHeld.trans (hs2.2.mono hHeld.size)
      have HS2 := Lib.hid hs2
      clear hs2
      refine hK.out _ _ hhN (fun hHeld => ?_)
      clear hhN
      clear hK K
      refine wpAnyH_ready (rs := [17]) (by kernel_rfl) (by simp) ?_
      refine AllReadyH.cons rfl (fun K hK => ?_) AllReadyH.nil
      have hh4 := hHeld
      go_simp
      go_at_call 30
      refine (TW.out p _ _ _ _ _ _ HS1.out HA1.out.2 HS2.out).mono ?_
      rintro e w5 ⟨s4, rfl, hs4⟩
      have hhN := hHeld.trans (hs4.2.mono hHeld.size)
      have HS4 := Lib.hid hs4
      clear hs4
      refine hK.out _ _ hhN (fun hHeld => ?_)
      clear hhN
      clear hK K
      refine wpAnyH_take (i := 18) (v := ?_) rfl (by kernel_rfl) (by kernel_rfl) (by kernel_rfl) (fun _ _ _ h => h) (Or.inl ⟨by rfl, (by intro w hSw; go_simp; try with_reducible rfl)⟩) (by assumption) ?_
      simp only [Act.put, List.getElem_toArray, List.getElem_cons_zero, List.getElem_cons_succ, List.setIfInBounds_toArray, List.set_cons_zero, List.set_cons_succ]
      refine wpAnyH_done (by kernel_rfl) ?_ _
      have HQ := Lib.hid (HS4.out.rows (fun _ _ => rfl))
      have Hown5 := Lib.hid (Hown.out.below hHeld)
      have hob : Hid (∀ g, u3.ownBlock = some g → g < w4.heap.size ∨ w5.heap.size ≤ g) := Lib.hid (fun g hg => Or.inl (by have := (Hown.out.1.lt g hg).2; have := hh4.size; omega))
      have Hz45 : Hid (w4.heap.size ≤ w5.heap.size) := Lib.hid HS4.out.2.size
      clear hHeld Hown Hbel HB1 HS4 hh4
      have hql := Flt.piece_len f p
      obtain ⟨QA, qc, rfl, hqc⟩ := HQ.out.parts
      generalize hQ : Flt.piece f p = Q at *
      have HQQ := Lib.hid hQ
      clear hQ
      have hql' : (Q.length : Int) ≤ 202 := by omega
      go_wp2_with fail
      go_loopw [3, 7] (fun out k wq => ∃ m : Nat, m ≤ Q.length ∧ k = .int .i64 (m : Int) ∧ RowsOwn 42 3 clV w1 (Flt.normTo f n ++ Flt.clauses p (Q.take m)) out wq ∧ Rgs wq (NewIn w4 w5) (.slice QA Q.length qc) Q ∧ Hid (∀ g, out.ownBlock = some g → g < w4.heap.size ∨ w5.heap.size ≤ g) ∧ w5.heap.size ≤ wq.heap.size) (fun _ k _ => Q.length - (intOf k).toNat)
      case atStart => exact ⟨0, Nat.zero_le _, rfl, by simpa [Flt.clauses] using Hown5.out, HQ.out, hob, Nat.le_refl _⟩
      case round =>
        obtain ⟨m, hm, rfl, hown, hq, hob, hz5⟩ := hrel
        by_cases hlm : m < Q.length
        · obtain ⟨qb, qo, qc', e, -, hqF, hqb⟩ := hq.block (by omega)
          injection e with e1 e2 e3
          subst e1 e3
          clear e2
          obtain ⟨x, hx⟩ : ∃ x, Q[m]? = some x := ⟨_, List.getElem?_eq_getElem hlm⟩
          obtain ⟨c0, c1⟩ := Rgs.at hq hx
          have d0 := CP.out wr hown.2
          have hst := Lib.hid (Flt.clauses_take (p := p) hx)
          have hcl := Flt.clauses_len p (Q.take m)
          have htl : (Q.take m).length ≤ 202 := by rw [List.length_take]; omega
          have hlen : Hid ((Flt.normTo f n ++ Flt.clauses p (Q.take m)).length ≤ 202000202) := Lib.hid (by rw [List.length_append]; have := hnl.out; omega)
          have hm0 : (0 : Int) ≤ (m : Int) := by omega
          have hm1 : (m : Int) < (Q.length : Int) := by omega
          have hpq : pb < wr.heap.size := by have := hown.2.size; omega
          obtain ⟨x1, x2⟩ := x
          simp only at c0 c1
          have hst : Hid (Flt.clauses p (Q.take (m + 1)) = Flt.clauses p (Q.take m) ++ [⟨p, x1, x2⟩]) := hst
          have HownD := Lib.hid (hown.below ((Below.refl _ _).drew))
          have hrow : ∀ g, u3.ownBlock = some g → w1.heap.size ≤ g ∧ g < wr.heap.size := fun g hg => hown.1.lt g hg
          have Hrow := Lib.hid hrow
          have Hq := Lib.hid hq
          clear hown hx hcl htl hq hrow
          generalize hO : Flt.normTo f n ++ Flt.clauses p (Q.take m) = O at *
          have HO := Lib.hid hO
          clear hO
          go_wp2_with fail
          refine wp_region_held_drew (S := (fun w' : World => w'.cell? ⟨pb, po + n, none⟩ = some (.string (mk p)) ∧ w'.cell? ⟨qb, qo + m * 2, none⟩ = some (.int .i64 x1) ∧ w'.cell? ⟨qb, qo + m * 2 + 1, none⟩ = some (.int .i64 x2))) (by kernel_rfl) ⟨d0, c0, c1⟩ (fun hHeld => ?_)
          refine wpAnyH_take (i := 0) (v := ?_) rfl (by kernel_rfl) (by kernel_rfl) (by kernel_rfl) (fun _ _ _ h => h) (Or.inl ⟨by rfl, (by intro w hSw; go_simp; try with_reducible rfl)⟩) (by assumption) ?_
          simp only [Act.put, List.getElem_toArray, List.getElem_cons_zero, List.getElem_cons_succ, List.setIfInBounds_toArray, List.set_cons_zero, List.set_cons_succ]
          refine wpAnyH_take (i := 1) (v := ?_) rfl (by kernel_rfl) (by kernel_rfl) (by kernel_rfl) (fun _ _ _ h => h) (Or.inl ⟨by rfl, (by intro w hSw; go_simp; try with_reducible rfl)⟩) (by assumption) ?_
          simp only [Act.put, List.getElem_toArray, List.getElem_cons_zero, List.getElem_cons_succ, List.setIfInBounds_toArray, List.set_cons_zero, List.set_cons_succ]
          refine wpAnyH_take (i := 2) (v := ?_) rfl (by kernel_rfl) (by kernel_rfl) (by kernel_rfl) (fun _ _ _ h => h) (Or.inl ⟨by rfl, (by intro w hSw; go_simp; try with_reducible rfl)⟩) (by assumption) ?_
          simp only [Act.put, List.getElem_toArray, List.getElem_cons_zero, List.getElem_cons_succ, List.setIfInBounds_toArray, List.set_cons_zero, List.set_cons_succ]
          refine wpAnyH_take (i := 3) (v := ?_) rfl (by kernel_rfl) (by kernel_rfl) (by kernel_rfl) (fun _ _ _ h => h) (Or.inl ⟨by rfl, (by intro w hSw; go_simp; try with_reducible rfl)⟩) (by assumption) ?_
          simp only [Act.put, List.getElem_toArray, List.getElem_cons_zero, List.getElem_cons_succ, List.setIfInBounds_toArray, List.set_cons_zero, List.set_cons_succ]
          refine wpAnyH_take (i := 4) (v := ?_) rfl (by kernel_rfl) (by kernel_rfl) (by kernel_rfl) (fun _ _ _ h => h) (Or.inl ⟨by rfl, (by intro w hSw; have d0 := hSw.1; have c0 := hSw.2.1; have c1 := hSw.2.2; go_simp; try with_reducible rfl)⟩) (by assumption) ?_
          simp only [Act.put, List.getElem_toArray, List.getElem_cons_zero, List.getElem_cons_succ, List.setIfInBounds_toArray, List.set_cons_zero, List.set_cons_succ]
          refine wpAnyH_take (i := 5) (v := ?_) rfl (by kernel_rfl) (by kernel_rfl) (by kernel_rfl) (fun _ _ _ h => h) (Or.inl ⟨by rfl, (by intro w hSw; go_simp; try with_reducible rfl)⟩) (by assumption) ?_
          simp only [Act.put, List.getElem_toArray, List.getElem_cons_zero, List.getElem_cons_succ, List.setIfInBounds_toArray, List.set_cons_zero, List.set_cons_succ]
          refine wpAnyH_take (i := 6) (v := ?_) rfl (by kernel_rfl) (by kernel_rfl) (by kernel_rfl) (fun _ _ _ h => h) (Or.inl ⟨by rfl, (by intro w hSw; go_simp; try with_reducible rfl)⟩) (by assumption) ?_
          simp only [Act.put, List.getElem_toArray, List.getElem_cons_zero, List.getElem_cons_succ, List.setIfInBounds_toArray, List.set_cons_zero, List.set_cons_succ]
          refine wpAnyH_take (i := 7) (v := ?_) rfl (by kernel_rfl) (by kernel_rfl) (by kernel_rfl) (fun _ _ _ h => h) (Or.inl ⟨by rfl, (by intro w hSw; go_simp; try with_reducible rfl)⟩) (by assumption) ?_
          simp only [Act.put, List.getElem_toArray, List.getElem_cons_zero, List.getElem_cons_succ, List.setIfInBounds_toArray, List.set_cons_zero, List.set_cons_succ]
          refine wpAnyH_take (i := 8) (v := ?_) rfl (by kernel_rfl) (by kernel_rfl) (by kernel_rfl) (fun _ _ _ h => h) (Or.inl ⟨by rfl, (by intro w hSw; have d0 := hSw.1; have c0 := hSw.2.1; have c1 := hSw.2.2; go_simp; try with_reducible rfl)⟩) (by assumption) ?_
          simp only [Act.put, List.getElem_toArray, List.getElem_cons_zero, List.getElem_cons_succ, List.setIfInBounds_toArray, List.set_cons_zero, List.set_cons_succ]
          refine wpAnyH_take (i := 9) (v := ?_) rfl (by kernel_rfl) (by kernel_rfl) (by kernel_rfl) (fun _ _ _ h => h) (Or.inl ⟨by rfl, (by intro w hSw; go_simp; try with_reducible rfl)⟩) (by assumption) ?_
          simp only [Act.put, List.getElem_toArray, List.getElem_cons_zero, List.getElem_cons_succ, List.setIfInBounds_toArray, List.set_cons_zero, List.set_cons_succ]
          refine wpAnyH_ready (rs := [10]) (by kernel_rfl) (by simp) ?_
          refine AllReadyH.cons rfl (fun K hK => ?_) AllReadyH.nil
          go_simp
          have hb10 : Below wr.drew.heap.size wr.drew (wr.drew.alloc (.cells #[.string (mk p), .int .i64 x1, .int .i64 x2] 42)) := (Below.refl _ _).alloc (Nat.le_refl _) _
          refine hK.out _ _ ⟨(hb10.cell (p := ⟨pb, po + n, none⟩) hpq).trans hHeld.1, (hb10.cell (p := ⟨qb, qo + m * 2, none⟩) hqb).trans hHeld.2.1, (hb10.cell (p := ⟨qb, qo + m * 2 + 1, none⟩) hqb).trans hHeld.2.2⟩ (fun hHeld => ?_)
          clear hK K
          refine wpAnyH_ready (rs := [11]) (by kernel_rfl) (by simp) ?_
          refine AllReadyH.cons rfl (fun K hK => ?_) AllReadyH.nil
          have hown3 := HownD.out.1.alloc (.cells #[.string (mk p), .int .i64 x1, .int .i64 x2] 42)
          refine step_near rfl (.tmp 40) (.tmp 50) 22 (by rfl) w1.heap.size 42 i0 (.agg #[.string ⟨#[]⟩, .int .i64 0, .int .i64 0]) 32 Tryz.underlying22 hi0 hz0 hz1 hz2 rfl (by decide) (by rfl) (by rfl) hown3 (cl_made _ 42 p x1 x2) (fun _ _ => rfl) (fun x _ => cl_one x) ?a1 ?a2 ?a3 ?_
          case a1 => (have := hlen.out; unfold maxLen; first | omega | (simp <;> omega))
          case a2 => (have := hlen.out; first | omega | (simp <;> omega))
          case a3 => (have := HownD.out.2.size; first | omega | (simp at * <;> omega))
          intro v9 w9 own9 hg9 hn9
          have Hnew := Lib.hid (HownD.out.more (x := (⟨p, x1, x2⟩ : Flt.Cl)) (v' := v9) (by simpa [clV] using own9) hg9)
          have kk := Kept.ofGrown (F := fun i => u3.ownBlock = some i) hg9 (fun i e => e)
          have hqd : ¬ u3.ownBlock = some qb := fun e => by have := hob.out _ e; have := hqF.1; have := hqF.2; omega
          have hpd : ¬ u3.ownBlock = some pb := fun e => by have := (Hrow.out _ e).1; omega
          have Hq9 : Hid (Rgs w9 (NewIn w4 w5) (.slice (some ⟨qb, qo, none⟩) Q.length qc) Q) := Lib.hid (((Hq.out.below ((Below.refl _ _).drew)).below ((Below.refl _ _).alloc (Nat.le_refl _) (.cells #[.string (mk p), .int .i64 x1, .int .i64 x2] 42))).kept kk (fun i hi e => by have := hob.out _ e; have := hi.1; have := hi.2; omega))
          have hob9 : Hid (∀ g, v9.ownBlock = some g → g < w4.heap.size ∨ w5.heap.size ≤ g) := Lib.hid (fun g hg => by
            rcases hn9 with h | h
            · exact hob.out g (h ▸ hg)
            · have := h g hg; simp at this; exact Or.inr (by omega))
          have hz9 : Hid (w5.heap.size ≤ w9.heap.size) := Lib.hid (by have := hg9.size; simp at this; omega)
          have hS9 := (⟨(kk.cell (p := ⟨pb, po + n, none⟩) (by simp; omega) hpd).trans hHeld.1, (kk.cell (p := ⟨qb, qo + m * 2, none⟩) (by simp; omega) hqd).trans hHeld.2.1, (kk.cell (p := ⟨qb, qo + m * 2 + 1, none⟩) (by simp; omega) hqd).trans hHeld.2.2⟩ : _ ∧ _ ∧ _)
          clear own9 hg9 hn9 kk hown3
          refine hK.out _ _ hS9 (fun hHeld => ?_)
          clear hS9
          clear hK K
          refine wpAnyH_take (i := 12) (v := ?_) rfl (by kernel_rfl) (by kernel_rfl) (by kernel_rfl) (fun _ _ _ h => h) (Or.inl ⟨by rfl, (by intro w hSw; go_simp; try with_reducible rfl)⟩) (by assumption) ?_
          simp only [Act.put, List.getElem_toArray, List.getElem_cons_zero, List.getElem_cons_succ, List.setIfInBounds_toArray, List.set_cons_zero, List.set_cons_succ]
          refine wpAnyH_done (by kernel_rfl) ?_ _
          go_wp2_with fail
          exact ⟨⟨m + 1, by omega, by go_num, by rw [hst.out, ← List.append_assoc, HO.out]; exact Hnew.out, Hq9.out, hob9, hz9.out⟩, by show Q.length - ((m : Int) + 1).toNat < Q.length - (m : Int).toNat; omega⟩
        · obtain rfl : m = Q.length := by omega
          rw [List.take_length] at hown
          have Hown := Lib.hid hown
          clear hown hq hob
          go_wp2_with fail
          exact ⟨⟨n + 1, by omega, by go_num, by rw [hmore.out]; exact Hown.out⟩, by show (Flt.prefixes f).length - ((n : Int) + 1).toNat < (Flt.prefixes f).length - (n : Int).toNat; omega⟩
    · obtain rfl : n = (Flt.prefixes f).length := by omega
      rw [Flt.normTo_all] at hown
      have Hown := Lib.hid (hown.since Hb1.out)
      clear hown
      go_wp2_with fail
      go_ret
      exact ⟨_, rfl, Hown.out⟩
end Go.Proofs.YtabnfaonlkipbaaGreatDoor
