/- The document's own answers of layer 9: Alike. -/
import Derived.Test.YtjnpgfndbdddnaaGreatCom17
import Derived.Test.YtjnpgfndbdddnaaGreatCom9
import Derived.Deep.QuietTactic
set_option linter.unusedSimpArgs false
set_option linter.unusedVariables false
namespace Go.Proofs.YtjnpgfndbdddnaaGreat
open Go.RowKit

set_option maxRecDepth 100000 in
theorem two_empty (a b : List Sz.Rg) : (Sz.two 2 a b).length = 0 ↔ ∀ n : Int, Sz.holds a n = true → Sz.holds b n = true := by
  constructor
  · intro h n hn
    have h0 : Sz.two 2 a b = [] := List.eq_nil_of_length_eq_zero h
    have hb : 0 ≤ n ∧ n ≤ 200 := Classical.byContradiction (fun hk => by rw [Sz.holds_out hk] at hn; cases hn)
    have := Sz.two_holds 2 a b n hb
    rw [h0, Sz.holds_nil, hn] at this
    unfold Sz.pick at this
    cases hx : Sz.holds b n
    · rw [hx] at this; simp at this
    · rfl
  · intro h
    rw [Flt.two_none]
    · rfl
    · intro n h0 h1
      unfold Sz.pick
      cases hx : Sz.holds a n
      · rfl
      · rw [h n hx]; rfl

set_option maxRecDepth 100000 in
set_option maxHeartbeats 6400000 in
theorem ref_alike {w : World} {F G : Nat → Prop} {u v : Value} {f g : List Flt.Cl} (hf : Cls w F u f) (hg : Cls w G v g) (lf : f.length ≤ 100000) (lg : g.length ≤ 100000) (sf : ∀ c ∈ f, c.pre.length ≤ 100000) (sg : ∀ c ∈ g, c.pre.length ≤ 100000) :
    Calls Tryz.prog 24 #[u, v] w fun e w' => e = .returned (.bool (decide (Flt.norm f = Flt.norm g))) ∧ Below w.heap.size w w' := by
  obtain ⟨i0, hi0, hz0, hz1, hz2⟩ := info_parts strInfo
  have PF := Lib.hid (ref_prefixes hf (by omega))
  have PG := Lib.hid (fun (W : World) (hW : Below w.heap.size w W) => ref_prefixes (hg.below hW) (by omega))
  have SF := Lib.hid (fun (p : List UInt8) (hp : p.length ≤ 100000) (W : World) (hW : Below w.heap.size w W) => ref_fsizes (p := p) (hf.below hW) (by omega) hp sf)
  have SG := Lib.hid (fun (p : List UInt8) (hp : p.length ≤ 100000) (W : World) (hW : Below w.heap.size w W) => ref_fsizes (p := p) (hg.below hW) (by omega) hp sg)
  have TW : Hid (∀ (a b : List Sz.Rg) (A B C : World) (x y : Value), a.length ≤ 1000000 → b.length ≤ 1000000 → RowsOwn 27 2 rgV A a x B → RowsOwn 27 2 rgV B b y C → Calls Tryz.prog 42 #[x, y, .int .i64 2] C fun e w' => ∃ (D : Option Addr) (k c : Nat), e = .returned (.slice D k c) ∧ (k = 0 ↔ ∀ n : Int, Sz.holds a n = true → Sz.holds b n = true) ∧ k ≤ 202 ∧ Below C.heap.size C w') :=
    Lib.hid (fun a b A B C x y la lb hx hy => (ref_two ((hx.rows (fun _ _ => rfl)).below hy.2) (hy.rows (fun _ _ => rfl)) (by omega) (by omega) 2 (by omega)).mono (fun e w' h => by
      obtain ⟨v', rfl, hr⟩ := h
      obtain ⟨D, c, rfl, -⟩ := (hr.rows (fun _ _ => rfl)).parts
      exact ⟨D, _, c, rfl, two_empty a b, (two_bd 2 a b).2, hr.2⟩))
  have LF : Hid (∀ p, (Flt.sizes f p).length ≤ 1000000) := Lib.hid (fun p => by have := Flt.sizes_len f p; omega)
  have LG : Hid (∀ p, (Flt.sizes g p).length ≤ 1000000) := Lib.hid (fun p => by have := Flt.sizes_len g p; omega)
  have hpf := Flt.prefixes_len f
  have hpg := Flt.prefixes_len g
  have HPS : Hid (∀ p ∈ Flt.prefixes f ++ Flt.prefixes g ++ [[]], p.length ≤ 100000) := Lib.hid (by
    intro p hp
    rcases List.mem_append.1 hp with hp | hp
    · rcases List.mem_append.1 hp with hp | hp
      · exact Flt.prefixes_small sf p hp
      · exact Flt.prefixes_small sg p hp
    · rw [List.mem_singleton.1 hp]; simp)
  have HA : Hid ((Flt.norm f = Flt.norm g) ↔ ∀ p ∈ Flt.prefixes f ++ Flt.prefixes g ++ [[]], ∀ n, Sz.holds (Flt.sizes f p) n = Sz.holds (Flt.sizes g p) n) := Lib.hid ((Flt.alike_iff f g).symm.trans (Flt.alike_at f g))
  have LPF : Hid ((Flt.prefixes f).length ≤ 100000) := Lib.hid (by omega)
  have LPG : Hid ((Flt.prefixes g).length ≤ 100000) := Lib.hid (by omega)
  clear hf hg sf sg hpf hpg lf lg
  go_enter Tryz.func24, Tryz.ntmps24
  go_wp2_with fail
  refine (PF.out).mono ?_
  rintro e w1 ⟨pv, rfl, hpv⟩
  have HP := Lib.hid hpv
  clear hpv PF
  go_wp2_with fail
  refine (PG.out _ HP.out.2).mono ?_
  rintro e w2 ⟨qv, rfl, hqv⟩
  have HP2 := Lib.hid (HP.out.below hqv.2)
  have hown2 := HP2.out.1
  have hq := hqv.rows (fun _ _ => rfl)
  have hsz2 := HP2.out.2.size
  clear HP PG
  go_wp2_with (at_builtin; refine wp_joins (f := txV) (k := 1) rfl _ _ 45 rfl w.heap.size 9 i0 (.string ⟨#[]⟩) 16 Tryz.underlying45 hi0 hz0 hz1 hz2 rfl (by decide) rfl rfl hown2 hq (fun _ _ => rfl) (fun x _ => tx_one x) ?c3 ?c4 hsz2 ?_)
  case c3 => have := LPF.out; have := LPG.out; unfold maxLen; omega
  case c4 => have := LPF.out; have := LPG.out; omega
  intro v3 w3 h1 h2 _
  have HP3 := Lib.hid (HP2.out.rest h2 h1)
  clear h1 h2 hown2 hq hsz2 HP2 hqv
  have hown3 := HP3.out.1.alloc (.cells #[.string ⟨#[]⟩] 9)
  have hmade := tx_made w3 9 []
  have hsz3 : w.heap.size ≤ (w3.alloc (.cells #[.string ⟨#[]⟩] 9)).heap.size := by have := HP3.out.2.size; simp; omega
  have hlen3 : Hid ((Flt.prefixes f ++ Flt.prefixes g).length ≤ 200000) := Lib.hid (by rw [List.length_append]; have := LPF.out; have := LPG.out; omega)
  go_wp2_with (at_builtin; refine wp_joins (f := txV) (k := 1) rfl _ _ 45 rfl w.heap.size 9 i0 (.string ⟨#[]⟩) 16 Tryz.underlying45 hi0 hz0 hz1 hz2 rfl (by decide) rfl rfl hown3 hmade (fun _ _ => rfl) (fun x _ => tx_one x) ?c3 ?c4 hsz3 ?_)
  case c3 => have := LPF.out; have := LPG.out; simp only [List.length_append, List.length_cons, List.length_nil]; unfold maxLen; omega
  case c4 => have := LPF.out; have := LPG.out; simp only [List.length_append, List.length_cons, List.length_nil]; omega
  intro v4 w4 h1 h2 _
  have HP4 := Lib.hid (HP3.out.more (x := ([] : List UInt8)) (v' := v4) (by simpa using h1) h2)
  clear h1 h2 hown3 hmade hsz3 HP3
  have HL : Hid ((Flt.prefixes f ++ Flt.prefixes g ++ [[]]).length ≤ 200001) := Lib.hid (by rw [List.length_append, List.length_singleton]; have := hlen3.out; omega)
  generalize Flt.prefixes f ++ Flt.prefixes g ++ [[]] = L at *
  have hL' : (L.length : Int) ≤ 200001 := by have := HL.out; omega
  have HT := Lib.hid (HP4.out.rows (fun _ _ => rfl))
  have Hb4 := Lib.hid HP4.out.2
  clear HP4 hlen3 LPF LPG
  obtain ⟨PA, pc, rfl, hpc⟩ := HT.out.parts
  go_wp2_with fail
  go_loopw [6] (fun i wr => ∃ n : Nat, n ≤ L.length ∧ i = .int .i64 (n : Int) ∧ Hid (∀ p ∈ L.take n, ∀ m, Sz.holds (Flt.sizes f p) m = Sz.holds (Flt.sizes g p) m) ∧ Below w4.heap.size w4 wr) (fun i _ => L.length - (intOf i).toNat)
  case atStart => exact ⟨0, Nat.zero_le _, rfl, Lib.hid (by simp), Below.refl _ _⟩
  case round =>
    obtain ⟨n, hn, rfl, hall, hbel⟩ := hrel
    by_cases hlt : n < L.length
    · obtain ⟨pb, po, pc', e, -, -, hpb⟩ := HT.out.block (by omega)
      injection e with e1 e2 e3
      subst e1 e3
      clear e2
      obtain ⟨p, hp⟩ : ∃ p, L[n]? = some p := ⟨_, List.getElem?_eq_getElem hlt⟩
      have hpm := List.mem_of_getElem? hp
      have hpp := HPS.out p hpm
      have hn0 : (0 : Int) ≤ (n : Int) := by omega
      have hn1 : (n : Int) < (L.length : Int) := by omega
      have CP : Hid (∀ W, Below w4.heap.size w4 W → W.cell? ⟨pb, po + n, none⟩ = some (.string (mk p))) := Lib.hid (fun W hW => Txs.at (HT.out.below hW) hp)
      have hstep : Hid ((∀ m, Sz.holds (Flt.sizes f p) m = Sz.holds (Flt.sizes g p) m) → ∀ q ∈ L.take (n + 1), ∀ m, Sz.holds (Flt.sizes f q) m = Sz.holds (Flt.sizes g q) m) := Lib.hid (by
        intro h q hq
        obtain ⟨hl, he⟩ := List.getElem?_eq_some_iff.1 hp
        rw [List.take_succ_eq_append_getElem hl, he] at hq
        rcases List.mem_append.1 hq with hq | hq
        · exact hall.out q hq
        · rw [List.mem_singleton.1 hq]; exact h)
      have hno : Hid (¬ (∀ m, Sz.holds (Flt.sizes f p) m = Sz.holds (Flt.sizes g p) m) → decide (Flt.norm f = Flt.norm g) = false) := Lib.hid (fun h => decide_eq_false (fun e => h (HA.out.1 e p hpm)))
      have HB1 : Hid (Below w.heap.size w wr) := Lib.hid (Hb4.out.trans (hbel.mono Hb4.out.size))
      have Hbel := Lib.hid hbel
      clear hbel hp hpm
      go_wp2_with fail
      refine wp_region_held_drew (S := (fun w' : World => Below wr.heap.size wr w')) (by kernel_rfl) ((Below.refl _ _).drew) (fun hHeld => ?_)
      refine wpAnyH_take (i := 0) (v := ?_) rfl (by kernel_rfl) (by kernel_rfl) (by kernel_rfl) (fun _ _ _ h => h) (Or.inl ⟨by rfl, (by intro w hSw; go_simp; try with_reducible rfl)⟩) (by assumption) ?_
      simp only [Act.put, List.getElem_toArray, List.getElem_cons_zero, List.getElem_cons_succ, List.setIfInBounds_toArray, List.set_cons_zero, List.set_cons_succ]
      refine wpAnyH_take (i := 1) (v := ?_) rfl (by kernel_rfl) (by kernel_rfl) (by kernel_rfl) (fun _ _ _ h => h) (Or.inl ⟨by rfl, (by intro w hSw; go_simp; try with_reducible rfl)⟩) (by assumption) ?_
      simp only [Act.put, List.getElem_toArray, List.getElem_cons_zero, List.getElem_cons_succ, List.setIfInBounds_toArray, List.set_cons_zero, List.set_cons_succ]
      refine wpAnyH_take (i := 2) (v := ?_) rfl (by kernel_rfl) (by kernel_rfl) (by kernel_rfl) (fun _ _ _ h => h) (Or.inl ⟨by rfl, (by intro w hSw; go_simp; try with_reducible rfl)⟩) (by assumption) ?_
      simp only [Act.put, List.getElem_toArray, List.getElem_cons_zero, List.getElem_cons_succ, List.setIfInBounds_toArray, List.set_cons_zero, List.set_cons_succ]
      refine wpAnyH_take (i := 3) (v := ?_) rfl (by kernel_rfl) (by kernel_rfl) (by kernel_rfl) (fun _ _ _ h => h) (Or.inl ⟨by rfl, (by intro w hSw; go_simp; try with_reducible rfl)⟩) (by assumption) ?_
      simp only [Act.put, List.getElem_toArray, List.getElem_cons_zero, List.getElem_cons_succ, List.setIfInBounds_toArray, List.set_cons_zero, List.set_cons_succ]
      refine wpAnyH_take (i := 4) (v := ?_) rfl (by kernel_rfl) (by kernel_rfl) (by kernel_rfl) (fun _ _ _ h => h) (Or.inl ⟨by rfl, (by intro w hSw; have d0 := CP.out _ (Hbel.out.trans (hSw.mono Hbel.out.size)); go_simp; try with_reducible rfl)⟩) (by assumption) ?_
      simp only [Act.put, List.getElem_toArray, List.getElem_cons_zero, List.getElem_cons_succ, List.setIfInBounds_toArray, List.set_cons_zero, List.set_cons_succ]
      refine wpAnyH_take (i := 6) (v := ?_) rfl (by kernel_rfl) (by kernel_rfl) (by kernel_rfl) (fun _ _ _ h => h) (Or.inl ⟨by rfl, (by intro w hSw; go_simp; try with_reducible rfl)⟩) (by assumption) ?_
      simp only [Act.put, List.getElem_toArray, List.getElem_cons_zero, List.getElem_cons_succ, List.setIfInBounds_toArray, List.set_cons_zero, List.set_cons_succ]
      refine wpAnyH_take (i := 7) (v := ?_) rfl (by kernel_rfl) (by kernel_rfl) (by kernel_rfl) (fun _ _ _ h => h) (Or.inl ⟨by rfl, (by intro w hSw; go_simp; try with_reducible rfl)⟩) (by assumption) ?_
      simp only [Act.put, List.getElem_toArray, List.getElem_cons_zero, List.getElem_cons_succ, List.setIfInBounds_toArray, List.set_cons_zero, List.set_cons_succ]
      refine wpAnyH_take (i := 8) (v := ?_) rfl (by kernel_rfl) (by kernel_rfl) (by kernel_rfl) (fun _ _ _ h => h) (Or.inl ⟨by rfl, (by intro w hSw; go_simp; try with_reducible rfl)⟩) (by assumption) ?_
      simp only [Act.put, List.getElem_toArray, List.getElem_cons_zero, List.getElem_cons_succ, List.setIfInBounds_toArray, List.set_cons_zero, List.set_cons_succ]
      refine wpAnyH_take (i := 9) (v := ?_) rfl (by kernel_rfl) (by kernel_rfl) (by kernel_rfl) (fun _ _ _ h => h) (Or.inl ⟨by rfl, (by intro w hSw; go_simp; try with_reducible rfl)⟩) (by assumption) ?_
      simp only [Act.put, List.getElem_toArray, List.getElem_cons_zero, List.getElem_cons_succ, List.setIfInBounds_toArray, List.set_cons_zero, List.set_cons_succ]
      refine wpAnyH_take (i := 10) (v := ?_) rfl (by kernel_rfl) (by kernel_rfl) (by kernel_rfl) (fun _ _ _ h => h) (Or.inl ⟨by rfl, (by intro w hSw; have d0 := CP.out _ (Hbel.out.trans (hSw.mono Hbel.out.size)); go_simp; try with_reducible rfl)⟩) (by assumption) ?_
      simp only [Act.put, List.getElem_toArray, List.getElem_cons_zero, List.getElem_cons_succ, List.setIfInBounds_toArray, List.set_cons_zero, List.set_cons_succ]
      refine wpAnyH_take (i := 14) (v := ?_) rfl (by kernel_rfl) (by kernel_rfl) (by kernel_rfl) (fun _ _ _ h => h) (Or.inl ⟨by rfl, (by intro w hSw; go_simp; try with_reducible rfl)⟩) (by assumption) ?_
      simp only [Act.put, List.getElem_toArray, List.getElem_cons_zero, List.getElem_cons_succ, List.setIfInBounds_toArray, List.set_cons_zero, List.set_cons_succ]
      refine wpAnyH_take (i := 15) (v := ?_) rfl (by kernel_rfl) (by kernel_rfl) (by kernel_rfl) (fun _ _ _ h => h) (Or.inl ⟨by rfl, (by intro w hSw; go_simp; try with_reducible rfl)⟩) (by assumption) ?_
      simp only [Act.put, List.getElem_toArray, List.getElem_cons_zero, List.getElem_cons_succ, List.setIfInBounds_toArray, List.set_cons_zero, List.set_cons_succ]
      refine wpAnyH_take (i := 16) (v := ?_) rfl (by kernel_rfl) (by kernel_rfl) (by kernel_rfl) (fun _ _ _ h => h) (Or.inl ⟨by rfl, (by intro w hSw; go_simp; try with_reducible rfl)⟩) (by assumption) ?_
      simp only [Act.put, List.getElem_toArray, List.getElem_cons_zero, List.getElem_cons_succ, List.setIfInBounds_toArray, List.set_cons_zero, List.set_cons_succ]
      refine wpAnyH_take (i := 17) (v := ?_) rfl (by kernel_rfl) (by kernel_rfl) (by kernel_rfl) (fun _ _ _ h => h) (Or.inl ⟨by rfl, (by intro w hSw; go_simp; try with_reducible rfl)⟩) (by assumption) ?_
      simp only [Act.put, List.getElem_toArray, List.getElem_cons_zero, List.getElem_cons_succ, List.setIfInBounds_toArray, List.set_cons_zero, List.set_cons_succ]
      refine wpAnyH_take (i := 18) (v := ?_) rfl (by kernel_rfl) (by kernel_rfl) (by kernel_rfl) (fun _ _ _ h => h) (Or.inl ⟨by rfl, (by intro w hSw; have d0 := CP.out _ (Hbel.out.trans (hSw.mono Hbel.out.size)); go_simp; try with_reducible rfl)⟩) (by assumption) ?_
      simp only [Act.put, List.getElem_toArray, List.getElem_cons_zero, List.getElem_cons_succ, List.setIfInBounds_toArray, List.set_cons_zero, List.set_cons_succ]
      refine wpAnyH_take (i := 20) (v := ?_) rfl (by kernel_rfl) (by kernel_rfl) (by kernel_rfl) (fun _ _ _ h => h) (Or.inl ⟨by rfl, (by intro w hSw; go_simp; try with_reducible rfl)⟩) (by assumption) ?_
      simp only [Act.put, List.getElem_toArray, List.getElem_cons_zero, List.getElem_cons_succ, List.setIfInBounds_toArray, List.set_cons_zero, List.set_cons_succ]
      refine wpAnyH_take (i := 21) (v := ?_) rfl (by kernel_rfl) (by kernel_rfl) (by kernel_rfl) (fun _ _ _ h => h) (Or.inl ⟨by rfl, (by intro w hSw; go_simp; try with_reducible rfl)⟩) (by assumption) ?_
      simp only [Act.put, List.getElem_toArray, List.getElem_cons_zero, List.getElem_cons_succ, List.setIfInBounds_toArray, List.set_cons_zero, List.set_cons_succ]
      refine wpAnyH_take (i := 22) (v := ?_) rfl (by kernel_rfl) (by kernel_rfl) (by kernel_rfl) (fun _ _ _ h => h) (Or.inl ⟨by rfl, (by intro w hSw; go_simp; try with_reducible rfl)⟩) (by assumption) ?_
      simp only [Act.put, List.getElem_toArray, List.getElem_cons_zero, List.getElem_cons_succ, List.setIfInBounds_toArray, List.set_cons_zero, List.set_cons_succ]
      refine wpAnyH_take (i := 23) (v := ?_) rfl (by kernel_rfl) (by kernel_rfl) (by kernel_rfl) (fun _ _ _ h => h) (Or.inl ⟨by rfl, (by intro w hSw; go_simp; try with_reducible rfl)⟩) (by assumption) ?_
      simp only [Act.put, List.getElem_toArray, List.getElem_cons_zero, List.getElem_cons_succ, List.setIfInBounds_toArray, List.set_cons_zero, List.set_cons_succ]
      refine wpAnyH_take (i := 24) (v := ?_) rfl (by kernel_rfl) (by kernel_rfl) (by kernel_rfl) (fun _ _ _ h => h) (Or.inl ⟨by rfl, (by intro w hSw; have d0 := CP.out _ (Hbel.out.trans (hSw.mono Hbel.out.size)); go_simp; try with_reducible rfl)⟩) (by assumption) ?_
      simp only [Act.put, List.getElem_toArray, List.getElem_cons_zero, List.getElem_cons_succ, List.setIfInBounds_toArray, List.set_cons_zero, List.set_cons_succ]
      refine wpAnyH_ready (rs := [5]) (by kernel_rfl) (by simp) ?_
      refine AllReadyH.cons rfl (fun K hK => ?_) AllReadyH.nil
      go_simp
      go_at_call 18
      refine (SF.out p hpp _ (HB1.out.trans (hHeld.mono HB1.out.size))).mono ?_
      rintro e wa ⟨s1, rfl, hs1⟩
      have hhN := hHeld.trans (hs1.2.mono hHeld.size)
      have HS1 := Lib.hid hs1
      clear hs1
      refine hK.out _ _ hhN (fun hHeld => ?_)
      clear hhN
      clear hK K
      refine wpAnyH_ready (rs := [11]) (by kernel_rfl) (by simp) ?_
      refine AllReadyH.cons rfl (fun K hK => ?_) AllReadyH.nil
      go_simp
      go_at_call 18
      refine (SG.out p hpp _ (HB1.out.trans (hHeld.mono HB1.out.size))).mono ?_
      rintro e wb ⟨s2, rfl, hs2⟩
      have hhN := hHeld.trans (hs2.2.mono hHeld.size)
      have HS2 := Lib.hid hs2
      clear hs2
      refine hK.out _ _ hhN (fun hHeld => ?_)
      clear hhN
      clear hK K
      refine wpAnyH_ready (rs := [12]) (by kernel_rfl) (by simp) ?_
      refine AllReadyH.cons rfl (fun K hK => ?_) AllReadyH.nil
      go_simp
      go_at_call 42
      refine (TW.out _ _ _ _ _ _ _ (LF.out p) (LG.out p) HS1.out HS2.out).mono ?_
      rintro e wc ⟨D1, k1, q1, rfl, hk1, hl1, hbN⟩
      have hhN := hHeld.trans (hbN.mono hHeld.size)
      clear hbN
      refine hK.out _ _ hhN (fun hHeld => ?_)
      clear hhN
      clear hK K
      refine wpAnyH_take (i := 13) (v := ?_) rfl (by kernel_rfl) (by kernel_rfl) (by kernel_rfl) (fun _ _ _ h => h) (Or.inl ⟨by rfl, (by intro w hSw; go_simp; try with_reducible rfl)⟩) (by assumption) ?_
      simp only [Act.put, List.getElem_toArray, List.getElem_cons_zero, List.getElem_cons_succ, List.setIfInBounds_toArray, List.set_cons_zero, List.set_cons_succ]
      refine wpAnyH_ready (rs := [19]) (by kernel_rfl) (by simp) ?_
      refine AllReadyH.cons rfl (fun K hK => ?_) AllReadyH.nil
      go_simp
      go_at_call 18
      refine (SG.out p hpp _ (HB1.out.trans (hHeld.mono HB1.out.size))).mono ?_
      rintro e wd ⟨s3, rfl, hs3⟩
      have hhN := hHeld.trans (hs3.2.mono hHeld.size)
      have HS3 := Lib.hid hs3
      clear hs3
      refine hK.out _ _ hhN (fun hHeld => ?_)
      clear hhN
      clear hK K
      refine wpAnyH_ready (rs := [25]) (by kernel_rfl) (by simp) ?_
      refine AllReadyH.cons rfl (fun K hK => ?_) AllReadyH.nil
      go_simp
      go_at_call 18
      refine (SF.out p hpp _ (HB1.out.trans (hHeld.mono HB1.out.size))).mono ?_
      rintro e we ⟨s4, rfl, hs4⟩
      have hhN := hHeld.trans (hs4.2.mono hHeld.size)
      have HS4 := Lib.hid hs4
      clear hs4
      refine hK.out _ _ hhN (fun hHeld => ?_)
      clear hhN
      clear hK K
      refine wpAnyH_ready (rs := [26]) (by kernel_rfl) (by simp) ?_
      refine AllReadyH.cons rfl (fun K hK => ?_) AllReadyH.nil
      go_simp
      go_at_call 42
      refine (TW.out _ _ _ _ _ _ _ (LG.out p) (LF.out p) HS3.out HS4.out).mono ?_
      rintro e w5 ⟨D2, k2, q2, rfl, hk2, hl2, hbN⟩
      have hhN := hHeld.trans (hbN.mono hHeld.size)
      clear hbN
      have hw : IntKind.i64.wrap ((k1 : Int) + (k2 : Int)) = (k1 : Int) + (k2 : Int) := IntWalk.i64_in _ ⟨by omega, by omega⟩
      refine hK.out _ _ hhN (fun hHeld => ?_)
      clear hhN
      clear hK K
      refine wpAnyH_take (i := 27) (v := ?_) rfl (by kernel_rfl) (by kernel_rfl) (by kernel_rfl) (fun _ _ _ h => h) (Or.inl ⟨by rfl, (by intro w hSw; go_simp; try with_reducible rfl)⟩) (by assumption) ?_
      simp only [Act.put, List.getElem_toArray, List.getElem_cons_zero, List.getElem_cons_succ, List.setIfInBounds_toArray, List.set_cons_zero, List.set_cons_succ]
      refine wpAnyH_take (i := 28) (v := ?_) rfl (by kernel_rfl) (by kernel_rfl) (by kernel_rfl) (fun _ _ _ h => h) (Or.inl ⟨by rfl, (by intro w hSw; go_simp; try with_reducible rfl)⟩) (by assumption) ?_
      simp only [Act.put, List.getElem_toArray, List.getElem_cons_zero, List.getElem_cons_succ, List.setIfInBounds_toArray, List.set_cons_zero, List.set_cons_succ]
      refine wpAnyH_take (i := 29) (v := ?_) rfl (by kernel_rfl) (by kernel_rfl) (by kernel_rfl) (fun _ _ _ h => h) (Or.inl ⟨by rfl, (by intro w hSw; go_simp; try with_reducible rfl)⟩) (by assumption) ?_
      simp only [Act.put, List.getElem_toArray, List.getElem_cons_zero, List.getElem_cons_succ, List.setIfInBounds_toArray, List.set_cons_zero, List.set_cons_succ]
      refine wpAnyH_done (by kernel_rfl) ?_ _
      have HB5 := Lib.hid hHeld
      clear hHeld
      have hiff : (∀ m, Sz.holds (Flt.sizes f p) m = Sz.holds (Flt.sizes g p) m) ↔ (k1 = 0 ∧ k2 = 0) := by
        rw [hk1, hk2]
        exact ⟨fun h => ⟨fun m hm => by rw [← h]; exact hm, fun m hm => by rw [h]; exact hm⟩, fun h m => by rw [Bool.eq_iff_iff]; exact ⟨h.1 m, h.2 m⟩⟩
      clear hk1 hk2
      by_cases hz : k1 = 0 ∧ k2 = 0
      · have hst := Lib.hid (hstep.out (hiff.2 hz))
        obtain ⟨rfl, rfl⟩ := hz
        clear hstep hno hiff
        go_wp2_with fail
        exact ⟨⟨n + 1, by omega, by go_num, hst, Hbel.out.trans (HB5.out.mono Hbel.out.size)⟩, by show L.length - ((n : Int) + 1).toNat < L.length - (n : Int).toNat; omega⟩
      · have hnn := Lib.hid (hno.out (fun h => hz (hiff.1 h)))
        have hgt : (0 : Int) < (k1 : Int) + (k2 : Int) := by omega
        have hgd : decide ((0 : Int) < (k1 : Int) + (k2 : Int)) = true := decide_eq_true hgt
        clear hstep hno hiff hz
        go_wp2_with fail
        go_ret
        exact ⟨by rw [hnn.out]; rfl, HB1.out.trans (HB5.out.mono HB1.out.size)⟩
    · obtain rfl : n = L.length := by omega
      have hyes : Hid (decide (Flt.norm f = Flt.norm g) = true) := Lib.hid (decide_eq_true (HA.out.2 (by have := hall.out; rwa [List.take_length] at this)))
      have Hbel := Lib.hid hbel
      clear hbel hall
      go_wp2_with fail
      go_ret
      exact ⟨by rw [hyes.out]; rfl, Hb4.out.trans (Hbel.out.mono Hb4.out.size)⟩
end Go.Proofs.YtjnpgfndbdddnaaGreat
/- The document's own answers of layer 9: Equal. -/
set_option linter.unusedSimpArgs false
set_option linter.unusedVariables false
namespace Go.Proofs.YtjnpgfndbdddnaaGreat
open Go.RowKit

set_option maxRecDepth 100000 in
set_option maxHeartbeats 3200000 in
theorem ref_fequal {w : World} {F G : Nat → Prop} {u v : Value} {f g : List Flt.Cl} (hf : Cls w F u f) (hg : Cls w G v g) (lf : f.length ≤ 100000000) (lg : g.length ≤ 100000000) :
    Calls Tryz.prog 21 #[u, v] w fun e w' => e = .returned (.bool (decide (f = g))) ∧ Below w.heap.size w w' := by
  obtain ⟨A, ca, rfl, hca⟩ := hf.parts
  obtain ⟨B, cb, rfl, hcb⟩ := hg.parts
  have HF := Lib.hid hf
  have HG := Lib.hid hg
  have la' : (f.length : Int) ≤ 100000000 := by omega
  have lb' : (g.length : Int) ≤ 100000000 := by omega
  clear hf hg
  by_cases hlen : f.length = g.length
  · rw [← hlen]
    rw [← hlen] at HG
    have Hlen := Lib.hid hlen
    clear hlen
    go_enter Tryz.func21, Tryz.ntmps21
    go_wp2_with fail
    go_loopw [5] (fun i wr => ∃ n : Nat, n ≤ f.length ∧ i = .int .i64 (n : Int) ∧ Hid (f.take n = g.take n) ∧ Below w.heap.size w wr) (fun i _ => f.length - (intOf i).toNat)
    case atStart => exact ⟨0, Nat.zero_le _, rfl, Lib.hid (by rw [List.take_zero, List.take_zero]), Below.refl _ _⟩
    case round =>
      obtain ⟨n, hn, rfl, hsame, hbel⟩ := hrel
      by_cases hlt : n < f.length
      · obtain ⟨b1, o1, cap1, e, -, -, hb1⟩ := HF.out.block (by omega)
        injection e with e1 e2 e3
        subst e1 e3
        obtain ⟨b2, o2, cap2, e, -, -, hb2⟩ := HG.out.block (by have := Hlen.out; omega)
        injection e with e1 e2 e3
        subst e1 e3
        clear e2
        obtain ⟨x, hx⟩ : ∃ x, f[n]? = some x := ⟨_, List.getElem?_eq_getElem hlt⟩
        obtain ⟨y, hy⟩ : ∃ y, g[n]? = some y := ⟨_, List.getElem?_eq_getElem (show n < g.length by have := Hlen.out; omega)⟩
        obtain ⟨c0, c1, c2⟩ := Cls.at (HF.out.below hbel) hx
        obtain ⟨d0, d1, d2⟩ := Cls.at (HG.out.below hbel) hy
        have hn0 : (0 : Int) ≤ (n : Int) := by omega
        have hn1 : (n : Int) < (f.length : Int) := by omega
        have Hbel := Lib.hid hbel
        clear hbel
        have es := str_same x.pre y.pre
        by_cases hxy : x = y
        · subst hxy
          have hnext : Hid (f.take (n + 1) = g.take (n + 1)) := Lib.hid (by
            obtain ⟨h1, e1⟩ := List.getElem?_eq_some_iff.1 hx
            obtain ⟨h2, e2⟩ := List.getElem?_eq_some_iff.1 hy
            rw [List.take_succ_eq_append_getElem h1, List.take_succ_eq_append_getElem h2, e1, e2, hsame.out])
          obtain ⟨xp, x1, x2⟩ := x
          rw [decide_eq_true (rfl : xp = xp)] at es
          simp only at c0 c1 c2 d0 d1 d2 es
          clear hx hy hsame
          generalize mk xp = xs at *
          go_wp2_with fail
          go_quiet (fail)
          go_wp2_with fail
          refine ⟨⟨n + 1, by omega, rfl, hnext, Hbel.out.trans ((below_drews' wr nq).mono Hbel.out.size)⟩, ?_⟩
          show f.length - ((n : Int) + 1).toNat < f.length - (n : Int).toNat
          omega
        · have hne : Hid (¬ f = g) := Lib.hid (fun e => hxy (by rw [e, hy] at hx; injection hx with hx; exact hx.symm))
          obtain ⟨xp, x1, x2⟩ := x
          obtain ⟨yp, y1, y2⟩ := y
          have hxy' : xp = yp → x1 = y1 → ¬ x2 = y2 := fun h k l => hxy (by rw [h, k, l])
          simp only at c0 c1 c2 d0 d1 d2 es
          clear hx hy hsame hxy
          by_cases h0 : xp = yp
          · have hxy2 := hxy' h0
            subst h0
            rw [decide_eq_true (rfl : xp = xp)] at es
            clear hxy'
            generalize mk xp = xs at *
            by_cases h1 : x1 = y1
            · have h2 := hxy2 h1
              subst h1
              clear hxy2
              go_wp2_with fail
              go_quiet (fail)
              go_wp2_with fail
              go_ret
              exact ⟨by rw [decide_eq_false hne.out]; rfl, Hbel.out.trans ((below_drews' wr nq).mono Hbel.out.size)⟩
            · clear hxy2
              go_wp2_with fail
              go_quiet (fail)
              go_wp2_with fail
              go_ret
              exact ⟨by rw [decide_eq_false hne.out]; rfl, Hbel.out.trans ((below_drews' wr nq).mono Hbel.out.size)⟩
          · rw [decide_eq_false h0] at es
            clear hxy' h0
            generalize mk xp = xs at *
            generalize mk yp = ys at *
            go_wp2_with fail
            go_quiet (fail)
            go_wp2_with fail
            go_ret
            exact ⟨by rw [decide_eq_false hne.out]; rfl, Hbel.out.trans ((below_drews' wr nq).mono Hbel.out.size)⟩
      · obtain rfl : n = f.length := by omega
        have hab : Hid (f = g) := Lib.hid (by
          have := hsame.out
          rw [List.take_length, Hlen.out, List.take_length] at this
          exact this)
        have Hbel := Lib.hid hbel
        clear hbel hsame
        go_wp2_with fail
        go_ret
        exact ⟨by rw [decide_eq_true hab.out]; rfl, Hbel.out⟩
  · have hlen' : ¬ ((f.length : Nat) : Int) = ((g.length : Nat) : Int) := by omega
    have hne : Hid (¬ f = g) := Lib.hid (fun e => hlen (by rw [e]))
    clear hlen
    go_enter Tryz.func21, Tryz.ntmps21
    go_wp2_with fail
    go_ret
    exact ⟨by rw [decide_eq_false hne.out]; rfl, Below.refl _ _⟩
end Go.Proofs.YtjnpgfndbdddnaaGreat
/- FilterSame out of the contracts. -/
set_option linter.unusedSimpArgs false
set_option linter.unusedVariables false
namespace Go.Proofs.YtjnpgfndbdddnaaGreat
open Go.RowKit

set_option maxRecDepth 100000 in
theorem below_step {w A B : World} (h : Below w.heap.size w A) (k : Below A.heap.size A B) : Below w.heap.size w B := h.trans (k.mono h.size)

set_option maxRecDepth 100000 in
set_option maxHeartbeats 6400000 in
theorem fsame_walk (H : FilterOk) {w : World} {u v : Value} {f g : List Flt.Cl} (hf : Cls w (fun i => i < w.heap.size) u f) (hg : Cls w (fun i => i < w.heap.size) v g) (lf : f.length ≤ 9223372036854775807) (lg : g.length ≤ 9223372036854775807)
    (bf : ∀ c ∈ f, c.pre.length ≤ 9223372036854775807 ∧ Bd (Flt.rg c)) (bg : ∀ c ∈ g, c.pre.length ≤ 9223372036854775807 ∧ Bd (Flt.rg c)) :
    Calls Tryz.prog 6 #[u, v] w fun e w' => e = .returned (.bool true) ∧ Below w.heap.size w w' := by
  have AW := Lib.hid (fun W => flt_awake H W)
  have LF := Lib.hid (light_any hf lf (fun c hc => (bf c hc).1))
  have LG := Lib.hid (fun (W : World) (hW : Below w.heap.size w W) => light_any (hg.below hW) lg (fun c hc => (bg c hc).1))
  by_cases hlf : Flt.light f
  · have LF : Hid (Calls Tryz.prog 7 #[u] w fun e w' => e = .returned (.bool true) ∧ Below w.heap.size w w') := Lib.hid (by have := LF.out; rwa [decide_eq_true hlf] at this)
    by_cases hlg : Flt.light g
    · have LG : Hid (∀ W, Below w.heap.size w W → Calls Tryz.prog 7 #[v] W fun e w' => e = .returned (.bool true) ∧ Below W.heap.size W w') := Lib.hid (fun W hW => by have := LG.out W hW; rwa [decide_eq_true hlg] at this)
      obtain ⟨hf1, hf2⟩ := hlf
      obtain ⟨hg1, hg2⟩ := hlg
      have SF := Lib.hid (fun (W : World) (hW : Below w.heap.size w W) => sane_any (hf.below hW) (by omega) (fun c hc => by have := hf1 c hc; omega))
      have SG := Lib.hid (fun (W : World) (hW : Below w.heap.size w W) => sane_any (hg.below hW) (by omega) (fun c hc => by have := hg1 c hc; omega))
      have BF : ∀ c ∈ Flt.sane f, Flt.Bd c := fun c hc => ⟨by have := hf1 c (Flt.sane_mem hc); omega, (bf c (Flt.sane_mem hc)).2⟩
      have BG : ∀ c ∈ Flt.sane g, Flt.Bd c := fun c hc => ⟨by have := hg1 c (Flt.sane_mem hc); omega, (bg c (Flt.sane_mem hc)).2⟩
      have RF := Flt.sane_right f
      have RG := Flt.sane_right g
      have lF : (Flt.sane f).length ≤ 24 := Nat.le_trans (Flt.sane_len f) hf2
      have lG : (Flt.sane g).length ≤ 24 := Nat.le_trans (Flt.sane_len g) hg2
      clear hf hg bf bg lf lg hf1 hf2 hg1 hg2
      generalize Flt.sane f = F at *
      generalize Flt.sane g = G at *
      have nF := Flt.norm_len F
      have nG := Flt.norm_len G
      have PA : Hid (∀ (A B C : World) (x y : Value), RowsOwn 29 3 clV A F x B → RowsOwn 29 3 clV B G y C → ∀ W, Below C.heap.size C W → Cls W (NewIn A B) x F ∧ Cls W (NewIn B C) y G) := Lib.hid (fun A B C x y hx hy W hW => ⟨((hx.rows (fun _ _ => rfl)).below hy.2).below hW, (hy.rows (fun _ _ => rfl)).below hW⟩)
      have AL : Hid (∀ (P Q : Nat → Prop) (W : World) (x y : Value), Cls W P x F → Cls W Q y G → Calls Tryz.prog 24 #[x, y] W fun e w' => e = .returned (.bool (decide (Flt.norm F = Flt.norm G))) ∧ Below W.heap.size W w') := Lib.hid (fun P Q W x y hx hy => ref_alike hx hy (by omega) (by omega) (fun c hc => (BF c hc).1) (fun c hc => (BG c hc).1))
      have SA : Hid (∀ (P Q : Nat → Prop) (W : World) (x y : Value), Cls W P x F → Cls W Q y G → Calls Tryz.prog 23 #[x, y] W fun e w' => e = .returned (.bool (decide (Flt.norm F = Flt.norm G))) ∧ Below W.heap.size W w') := Lib.hid (fun P Q W x y hx hy => H.same hx hy (by omega) (by omega) RF RG BF BG)
      have NF : Hid (∀ (P : Nat → Prop) (W : World) (x : Value), Cls W P x F → Calls Tryz.prog 20 #[x] W fun e w' => ∃ v', e = .returned v' ∧ Cls w' (NewIn W w') v' (Flt.norm F) ∧ Below W.heap.size W w') := Lib.hid (fun P W x hx => H.norm hx (by omega) RF BF)
      have NG : Hid (∀ (P : Nat → Prop) (W : World) (x : Value), Cls W P x G → Calls Tryz.prog 20 #[x] W fun e w' => ∃ v', e = .returned v' ∧ Cls w' (NewIn W w') v' (Flt.norm G) ∧ Below W.heap.size W w') := Lib.hid (fun P W x hx => H.norm hx (by omega) RG BG)
      have EN : Hid (∀ (P Q : Nat → Prop) (W : World) (x y : Value), Cls W P x (Flt.norm F) → Cls W Q y (Flt.norm G) → Calls Tryz.prog 21 #[x, y] W fun e w' => e = .returned (.bool (decide (Flt.norm F = Flt.norm G))) ∧ Below W.heap.size W w') := Lib.hid (fun P Q W x y hx hy => ref_fequal hx hy (by omega) (by omega))
      have EF : Hid (∀ (P Q : Nat → Prop) (W : World) (x y : Value), Cls W P x F → Cls W Q y G → Calls Tryz.prog 25 #[x, y] W fun e w' => e = .returned (.bool (decide (F = G))) ∧ Below W.heap.size W w') := Lib.hid (fun P Q W x y hx hy => H.equal hx hy (by omega) (by omega))
      have ER : Hid (∀ (P Q : Nat → Prop) (W : World) (x y : Value), Cls W P x F → Cls W Q y G → Calls Tryz.prog 21 #[x, y] W fun e w' => e = .returned (.bool (decide (F = G))) ∧ Below W.heap.size W w') := Lib.hid (fun P Q W x y hx hy => ref_fequal hx hy (by omega) (by omega))
      have ES : Hid (∀ (P : Nat → Prop) (W : World) (x : Value), Cls W P x F → Calls Tryz.prog 25 #[x, x] W fun e w' => e = .returned (.bool true) ∧ Below W.heap.size W w') := Lib.hid (fun P W x hx => by
        have := H.equal hx hx (by omega) (by omega)
        rwa [decide_eq_true (rfl : F = F)] at this)
      have AA : Hid (∀ W, Calls Tryz.prog 26 #[] W fun e w' => ∃ v', e = .returned v' ∧ Cls w' (NewIn W w') v' Flt.whole ∧ Below W.heap.size W w') := Lib.hid (fun W => H.all W)
      have MA : Hid (∀ (P : Nat → Prop) (W : World) (x : Value), Cls W P x Flt.whole → Calls Tryz.prog 12 #[x, .agg #[.string ⟨#[120]⟩, .int .i64 200, .bool false]] W fun e w' => e = .returned (.bool true) ∧ Below W.heap.size W w') := Lib.hid (fun P W x hx => by
        have := H.hits [120] 200 false hx (by decide) (by intro c hc; simp [Flt.whole] at hc; subst hc; unfold Flt.Bd Bd Flt.rg; simp) (by decide) (by decide) (by decide)
        have hh : Flt.hits Flt.whole [120] 200 false = true := by decide +kernel
        rw [hh] at this
        exact this)
      generalize decide (Flt.norm F = Flt.norm G) = d at *
      generalize decide (F = G) = d2 at *
      have hd : (d == d) = true := beq_self_eq_true _
      have hd2 : (d2 == d2) = true := beq_self_eq_true _
      clear BF BG RF RG lF lG nF nG
      go_enter Tryz.func6, Tryz.ntmps6
      go_wp2_with fail
      refine (LF.out).mono ?_
      rintro e w1 ⟨rfl, hb1⟩
      have K1 := Lib.hid hb1
      clear hb1
      go_wp2_with fail
      refine (LG.out _ K1.out).mono ?_
      rintro e w2 ⟨rfl, hb2⟩
      have K2 := Lib.hid (below_step K1.out hb2)
      clear hb2
      go_wp2_with fail
      refine (SF.out _ K2.out).mono ?_
      rintro e w3 ⟨x, rfl, hx⟩
      have K3 := Lib.hid (below_step K2.out hx.2)
      have HX := Lib.hid hx
      clear hx
      go_wp2_with fail
      refine (SG.out _ K3.out).mono ?_
      rintro e w4 ⟨y, rfl, hy⟩
      have K4 := Lib.hid (below_step K3.out hy.2)
      have PP := Lib.hid (PA.out _ _ _ _ _ HX.out hy)
      clear hy HX PA
      go_wp2_with fail
      refine (AL.out _ _ _ _ _ (PP.out _ (Below.refl _ _)).1 (PP.out _ (Below.refl _ _)).2).mono ?_
      rintro e w5 ⟨rfl, J5⟩
      have J5 := Lib.hid J5
      go_wp2_with fail
      refine (AW.out _).mono ?_
      rintro e w6 ⟨rfl, hb⟩
      have J6 := Lib.hid (below_step J5.out hb)
      clear hb
      go_wp2_with fail
      refine (SA.out _ _ _ _ _ (PP.out _ J6.out).1 (PP.out _ J6.out).2).mono ?_
      rintro e w7 ⟨rfl, hb⟩
      have J7 := Lib.hid (below_step J6.out hb)
      clear hb
      go_wp2_with fail
      refine (NF.out _ _ _ (PP.out _ J7.out).1).mono ?_
      rintro e w8 ⟨n1, rfl, hn1, hb⟩
      have J8 := Lib.hid (below_step J7.out hb)
      have HN1 := Lib.hid hn1
      clear hb hn1
      go_wp2_with fail
      refine (NG.out _ _ _ (PP.out _ J8.out).2).mono ?_
      rintro e w9 ⟨n2, rfl, hn2, hb⟩
      have J9 := Lib.hid (below_step J8.out hb)
      have HN2 := Lib.hid hn2
      have HN3 := Lib.hid (HN1.out.below hb)
      clear hb hn2
      go_wp2_with fail
      refine (EN.out _ _ _ _ _ HN3.out HN2.out).mono ?_
      rintro e w10 ⟨rfl, hb⟩
      have J10 := Lib.hid (below_step J9.out hb)
      clear hb
      go_wp2_with fail
      refine (EF.out _ _ _ _ _ (PP.out _ J10.out).1 (PP.out _ J10.out).2).mono ?_
      rintro e w11 ⟨rfl, hb⟩
      have J11 := Lib.hid (below_step J10.out hb)
      clear hb
      go_wp2_with fail
      refine (ER.out _ _ _ _ _ (PP.out _ J11.out).1 (PP.out _ J11.out).2).mono ?_
      rintro e w12 ⟨rfl, hb⟩
      have J12 := Lib.hid (below_step J11.out hb)
      clear hb
      go_wp2_with fail
      refine (ES.out _ _ _ (PP.out _ J12.out).1).mono ?_
      rintro e w13 ⟨rfl, hb⟩
      have J13 := Lib.hid (below_step J12.out hb)
      clear hb
      go_wp2_with fail
      refine (AA.out _).mono ?_
      rintro e w14 ⟨al, rfl, hal, hb⟩
      have J14 := Lib.hid (below_step J13.out hb)
      have HAL := Lib.hid hal
      clear hb hal
      go_wp2_with fail
      refine (MA.out _ _ _ HAL.out).mono ?_
      rintro e w15 ⟨rfl, hb⟩
      have J15 := Lib.hid (below_step J14.out hb)
      clear hb
      go_wp2_with fail
      go_ret
      exact ⟨rfl, below_step K4.out J15.out⟩
    · have LG : Hid (∀ W, Below w.heap.size w W → Calls Tryz.prog 7 #[v] W fun e w' => e = .returned (.bool false) ∧ Below W.heap.size W w') := Lib.hid (fun W hW => by have := LG.out W hW; rwa [decide_eq_false hlg] at this)
      clear hlf hlg hf hg bf bg lf lg
      go_enter Tryz.func6, Tryz.ntmps6
      go_wp2_with fail
      refine (LF.out).mono ?_
      rintro e w1 ⟨rfl, hb1⟩
      have K1 := Lib.hid hb1
      clear hb1
      go_wp2_with fail
      refine (LG.out _ K1.out).mono ?_
      rintro e w2 ⟨rfl, hb2⟩
      have K2 := Lib.hid (below_step K1.out hb2)
      clear hb2
      go_wp2_with fail
      refine (AW.out _).mono ?_
      rintro e w3 ⟨rfl, hb3⟩
      have K3 := Lib.hid (below_step K2.out hb3)
      clear hb3
      go_wp2_with fail
      go_ret
      exact ⟨rfl, K3.out⟩
  · have LF : Hid (Calls Tryz.prog 7 #[u] w fun e w' => e = .returned (.bool false) ∧ Below w.heap.size w w') := Lib.hid (by have := LF.out; rwa [decide_eq_false hlf] at this)
    clear hlf hf hg bf bg lf lg LG
    go_enter Tryz.func6, Tryz.ntmps6
    go_wp2_with fail
    refine (LF.out).mono ?_
    rintro e w1 ⟨rfl, hb1⟩
    have K1 := Lib.hid hb1
    clear hb1
    go_wp2_with fail
    refine (AW.out _).mono ?_
    rintro e w3 ⟨rfl, hb3⟩
    have K3 := Lib.hid (below_step K1.out hb3)
    clear hb3
    go_wp2_with fail
    go_ret
    exact ⟨rfl, K3.out⟩
end Go.Proofs.YtjnpgfndbdddnaaGreat
