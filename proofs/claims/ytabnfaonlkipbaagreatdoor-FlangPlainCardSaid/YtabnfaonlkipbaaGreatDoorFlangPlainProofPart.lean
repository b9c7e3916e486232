/- The plain text of any text and any filter; those that are alike have one: FlangPlain's statement holds (its row lists package variables as the program's text lays them: of these the proof reads the powers of ten, ErrSyntax and ErrRange). -/
import Derived.Test.YtabnfaonlkipbaaGreatDoorCom24
import Derived.Test.YtabnfaonlkipbaaGreatDoorCom17
import Derived.Test.YtabnfaonlkipbaaGreatDoorCom27
import Derived.Test.YtabnfaonlkipbaaGreatDoorTie
import Derived.Test.YtabnfaonlkipbaaGreatDoorCards
import Derived.SevenTiedAt
import Derived.Lay
import Derived.LaidMore
/- The document's own answers of layer 9: Alike. -/
set_option linter.unusedSimpArgs false
set_option linter.unusedVariables false
namespace Go.Proofs.YtabnfaonlkipbaaGreatDoor
open Go.RowKit

set_option maxRecDepth 100000 in
theorem two_empty (a b : List Sz.Rg) : (Sz.two 2 a b).length = 0 ↔ ∀ n : Int, Sz.holds a n = true → Sz.holds b n = true := by
  constructor
  · intro h n hn
    have h0 : Sz.two 2 a b = [] := List.eq_nil_of_length_eq_zero h
    have hb : 0 ≤ n ∧ n ≤ 200 := Classical.byContradiction (fun hk => by rw [Sz.holds_out hk] at hn; cases hn)
    have := Sz.two_holds 2 a b n hb
    rw [h0, Sz.holds_nil, hn] at this
    unfold Sz.pick at this
    cases hx : Sz.holds b n
    · rw [hx] at this; simp at this
    · rfl
  · intro h
    rw [Flt.two_none]
    · rfl
    · intro n h0 h1
      unfold Sz.pick
      cases hx : Sz.holds a n
      · rfl
      · rw [h n hx]; rfl

set_option maxRecDepth 100000 in
set_option maxHeartbeats 6400000 in
theorem ref_alike {w : World} {F G : Nat → Prop} {u v : Value} {f g : List Flt.Cl} (hf : Cls w F u f) (hg : Cls w G v g) (lf : f.length ≤ 100000) (lg : g.length ≤ 100000) (sf : ∀ c ∈ f, c.pre.length ≤ 100000) (sg : ∀ c ∈ g, c.pre.length ≤ 100000) :
    Calls Tryz.prog 16 #[u, v] w fun e w' => e = .returned (.bool (decide (Flt.norm f = Flt.norm g))) ∧ Below w.heap.size w w' := by
  obtain ⟨i0, hi0, hz0, hz1, hz2⟩ := info_parts strInfo
  have PF := Lib.hid (ref_prefixes hf (by omega))
  have PG := Lib.hid (fun (W : World) (hW : Below w.heap.size w W) => ref_prefixes (hg.below hW) (by omega))
  have SF := Lib.hid (fun (p : List UInt8) (hp : p.length ≤ 100000) (W : World) (hW : Below w.heap.size w W) => ref_fsizes (p := p) (hf.below hW) (by omega) hp sf)
  have SG := Lib.hid (fun (p : List UInt8) (hp : p.length ≤ 100000) (W : World) (hW : Below w.heap.size w W) => ref_fsizes (p := p) (hg.below hW) (by omega) hp sg)
  have TW : Hid (∀ (a b : List Sz.Rg) (A B C : World) (x y : Value), a.length ≤ 1000000 → b.length ≤ 1000000 → RowsOwn 40 2 rgV A a x B → RowsOwn 40 2 rgV B b y C → Calls Tryz.prog 30 #[x, y, .int .i64 2] C fun e w' => ∃ (D : Option Addr) (k c : Nat), e = .returned (.slice D k c) ∧ (k = 0 ↔ ∀ n : Int, Sz.holds a n = true → Sz.holds b n = true) ∧ k ≤ 202 ∧ Below C.heap.size C w') :=
    Lib.hid (fun a b A B C x y la lb hx hy => (ref_two ((hx.rows (fun _ _ => rfl)).below hy.2) (hy.rows (fun _ _ => rfl)) (by omega) (by omega) 2 (by omega)).mono (fun e w' h => by
      obtain ⟨v', rfl, hr⟩ := h
      obtain ⟨D, c, rfl, -⟩ := (hr.rows (fun _ _ => rfl)).parts
      exact ⟨D, _, c, rfl, two_empty a b, (two_bd 2 a b).2, hr.2⟩))
  have LF : Hid (∀ p, (Flt.sizes f p).length ≤ 1000000) := Lib.hid (fun p => by have := Flt.sizes_len f p; omega)
  have LG : Hid (∀ p, (Flt.sizes g p).length ≤ 1000000) := Lib.hid (fun p => by have := Flt.sizes_len g p; omega)
  have hpf := Flt.prefixes_len f
  have hpg := Flt.prefixes_len g
  have HPS : Hid (∀ p ∈ Flt.prefixes f ++ Flt.prefixes g ++ [[]], p.length ≤ 100000) := Lib.hid (by
    intro p hp
    rcases List.mem_append.1 hp with hp | hp
    · rcases List.mem_append.1 hp with hp | hp
      · exact Flt.prefixes_small sf p hp
      · exact Flt.prefixes_small sg p hp
    · rw [List.mem_singleton.1 hp]; simp)
  have HA : Hid ((Flt.norm f = Flt.norm g) ↔ ∀ p ∈ Flt.prefixes f ++ Flt.prefixes g ++ [[]], ∀ n, Sz.holds (Flt.sizes f p) n = Sz.holds (Flt.sizes g p) n) := Lib.hid ((Flt.alike_iff f g).symm.trans (Flt.alike_at f g))
  have LPF : Hid ((Flt.prefixes f).length ≤ 100000) := Lib.hid (by omega)
  have LPG : Hid ((Flt.prefixes g).length ≤ 100000) := Lib.hid (by omega)
  clear hf hg sf sg hpf hpg lf lg
  go_enter Tryz.func16, Tryz.ntmps16
  go_wp2_with fail
  refine (PF.out).mono ?_
  rintro e w1 ⟨pv, rfl, hpv⟩
  have HP := Lib.hid hpv
  clear hpv PF
  go_wp2_with fail
  refine (PG.out _ HP.out.2).mono ?_
  rintro e w2 ⟨qv, rfl, hqv⟩
  have HP2 := Lib.hid (HP.out.below hqv.2)
  have hown2 := HP2.out.1
  have hq := hqv.rows (fun _ _ => rfl)
  have hsz2 := HP2.out.2.size
  clear HP PG
  go_wp2_with (at_builtin; refine wp_joins (f := txV) (k := 1) rfl _ _ 43 rfl w.heap.size 9 i0 (.string ⟨#[]⟩) 16 Tryz.underlying43 hi0 hz0 hz1 hz2 rfl (by decide) rfl rfl hown2 hq (fun _ _ => rfl) (fun x _ => tx_one x) ?c3 ?c4 hsz2 ?_)
  case c3 => have := LPF.out; have := LPG.out; unfold maxLen; omega
  case c4 => have := LPF.out; have := LPG.out; omega
  intro v3 w3 h1 h2 _
  have HP3 := Lib.hid (HP2.out.rest h2 h1)
  clear h1 h2 hown2 hq hsz2 HP2 hqv
  have hown3 := HP3.out.1.alloc (.cells #[.string ⟨#[]⟩] 9)
  have hmade := tx_made w3 9 []
  have hsz3 : w.heap.size ≤ (w3.alloc (.cells #[.string ⟨#[]⟩] 9)).heap.size := by have := HP3.out.2.size; simp; omega
  have hlen3 : Hid ((Flt.prefixes f ++ Flt.prefixes g).length ≤ 200000) := Lib.hid (by rw [List.length_append]; have := LPF.out; have := LPG.out; omega)
  go_wp2_with (at_builtin; refine wp_joins (f := txV) (k := 1) rfl _ _ 43 rfl w.heap.size 9 i0 (.string ⟨#[]⟩) 16 Tryz.underlying43 hi0 hz0 hz1 hz2 rfl (by decide) rfl rfl hown3 hmade (fun _ _ => rfl) (fun x _ => tx_one x) ?c3 ?c4 hsz3 ?_)
  case c3 => have := LPF.out; have := LPG.out; simp only [List.length_append, List.length_cons, List.length_nil]; unfold maxLen; omega
  case c4 => have := LPF.out; have := LPG.out; simp only [List.length_append, List.length_cons, List.length_nil]; omega
  intro v4 w4 h1 h2 _
  have HP4 := Lib.hid (HP3.out.more (x := ([] : List UInt8)) (v' := v4) (by simpa using h1) h2)
  clear h1 h2 hown3 hmade hsz3 HP3
  have HL : Hid ((Flt.prefixes f ++ Flt.prefixes g ++ [[]]).length ≤ 200001) := Lib.hid (by rw [List.length_append, List.length_singleton]; have := hlen3.out; omega)
  generalize Flt.prefixes f ++ Flt.prefixes g ++ [[]] = L at *
  have hL' : (L.length : Int) ≤ 200001 := by have := HL.out; omega
  have HT := Lib.hid (HP4.out.rows (fun _ _ => rfl))
  have Hb4 := Lib.hid HP4.out.2
  clear HP4 hlen3 LPF LPG
  obtain ⟨PA, pc, rfl, hpc⟩ := HT.out.parts
  go_wp2_with fail
  go_loopw [6] (fun i wr => ∃ n : Nat, n ≤ L.length ∧ i = .int .i64 (n : Int) ∧ Hid (∀ p ∈ L.take n, ∀ m, Sz.holds (Flt.sizes f p) m = Sz.holds (Flt.sizes g p) m) ∧ Below w4.heap.size w4 wr) (fun i _ => L.length - (intOf i).toNat)
  case atStart => exact ⟨0, Nat.zero_le _, rfl, Lib.hid (by simp), Below.refl _ _⟩
  case round =>
    obtain ⟨n, hn, rfl, hall, hbel⟩ := hrel
    by_cases hlt : n < L.length
    · obtain ⟨pb, po, pc', e, -, -, hpb⟩ := HT.out.block (by omega)
      injection e with e1 e2 e3
      subst e1 e3
      clear e2
      obtain ⟨p, hp⟩ : ∃ p, L[n]? = some p := ⟨_, List.getElem?_eq_getElem hlt⟩
      have hpm := List.mem_of_getElem? hp
      have hpp := HPS.out p hpm
      have hn0 : (0 : Int) ≤ (n : Int) := by omega
      have hn1 : (n : Int) < (L.length : Int) := by omega
      have CP : Hid (∀ W, Below w4.heap.size w4 W → W.cell? ⟨pb, po + n, none⟩ = some (.string (mk p))) := Lib.hid (fun W hW => Txs.at (HT.out.below hW) hp)
      have hstep : Hid ((∀ m, Sz.holds (Flt.sizes f p) m = Sz.holds (Flt.sizes g p) m) → ∀ q ∈ L.take (n + 1), ∀ m, Sz.holds (Flt.sizes f q) m = Sz.holds (Flt.sizes g q) m) := Lib.hid (by
        intro h q hq
        obtain ⟨hl, he⟩ := List.getElem?_eq_some_iff.1 hp
        rw [List.take_succ_eq_append_getElem hl, he] at hq
        rcases List.mem_append.1 hq with hq | hq
        · exact hall.out q hq
        · rw [List.mem_singleton.1 hq]; exact h)
      have hno : Hid (¬ (∀ m, Sz.holds (Flt.sizes f p) m = Sz.holds (Flt.sizes g p) m) → decide (Flt.norm f = Flt.norm g) = false) := Lib.hid (fun h => decide_eq_false (fun e => h (HA.out.1 e p hpm)))
      have HB1 : Hid (Below w.heap.size w wr) := Lib.hid (Hb4.out.trans (hbel.mono Hb4.out.size))
      have Hbel := Lib.hid hbel
      clear hbel hp hpm
      go_wp2_with fail
      refine wp_region_held_drew (S := (fun w' : World => Below wr.heap.size wr w')) (by kernel_rfl) ((Below.refl _ _).drew) (fun hHeld => ?_)
      refine wpAnyH_take (i := 0) (v := ?_) rfl (by kernel_rfl) (by kernel_rfl) (by kernel_rfl) (fun _ _ _ h => h) (Or.inl ⟨by rfl, (by intro w hSw; go_simp; try with_reducible rfl)⟩) (by assumption) ?_
      simp only [Act.put, List.getElem_toArray, List.getElem_cons_zero, List.getElem_cons_succ, List.setIfInBounds_toArray, List.set_cons_zero, List.set_cons_succ]
      refine wpAnyH_take (i := 1) (v := ?_) rfl (by kernel_rfl) (by kernel_rfl) (by kernel_rfl) (fun _ _ _ h => h) (Or.inl ⟨by rfl, (by intro w hSw; go_simp; try with_reducible rfl)⟩) (by assumption) ?_
      simp only [Act.put, List.getElem_toArray, List.getElem_cons_zero, List.getElem_cons_succ, List.setIfInBounds_toArray, List.set_cons_zero, List.set_cons_succ]
      refine wpAnyH_take (i := 2) (v := ?_) rfl (by kernel_rfl) (by kernel_rfl) (by kernel_rfl) (fun _ _ _ h => h) (Or.inl ⟨by rfl, (by intro w hSw; go_simp; try with_reducible rfl)⟩) (by assumption) ?_
      simp only [Act.put, List.getElem_toArray, List.getElem_cons_zero, List.getElem_cons_succ, List.setIfInBounds_toArray, List.set_cons_zero, List.set_cons_succ]
      refine wpAnyH_take (i := 3) (v := ?_) rfl (by kernel_rfl) (by kernel_rfl) (by kernel_rfl) (fun _ _ _ h => h) (Or.inl ⟨by rfl, (by intro w hSw; go_simp; try with_reducible rfl)⟩) (by assumption) ?_
      simp only [Act.put, List.getElem_toArray, List.getElem_cons_zero, List.getElem_cons_succ, List.setIfInBounds_toArray, List.set_cons_zero, List.set_cons_succ]
      refine wpAnyH_take (i := 4) (v := ?_) rfl (by kernel_rfl) (by kernel_rfl) (by kernel_rfl) (fun _ _ _ h => h) (Or.inl ⟨by rfl, (by intro w hSw; have d0 := CP.out _ (Hbel.out.trans (hSw.mono Hbel.out.size)); go_simp; try with_reducible rfl)⟩) (by assumption) ?_
      simp only [Act.put, List.getElem_toArray, List.getElem_cons_zero, List.getElem_cons_succ, List.setIfInBounds_toArray, List.set_cons_zero, List.set_cons_succ]
      refine wpAnyH_take (i := 6) (v := ?_) rfl (by kernel_rfl) (by kernel_rfl) (by kernel_rfl) (fun _ _ _ h => h) (Or.inl ⟨by rfl, (by intro w hSw; go_simp; try with_reducible rfl)⟩) (by assumption) ?_
      simp only [Act.put, List.getElem_toArray, List.getElem_cons_zero, List.getElem_cons_succ, List.setIfInBounds_toArray, List.set_cons_zero, List.set_cons_succ]
      refine wpAnyH_take (i := 7) (v := ?_) rfl (by kernel_rfl) (by kernel_rfl) (by kernel_rfl) (fun _ _ _ h => h) (Or.inl ⟨by rfl, (by intro w hSw; go_simp; try with_reducible rfl)⟩) (by assumption) ?_
      simp only [Act.put, List.getElem_toArray, List.getElem_cons_zero, List.getElem_cons_succ, List.setIfInBounds_toArray, List.set_cons_zero, List.set_cons_succ]
      refine wpAnyH_take (i := 8) (v := ?_) rfl (by kernel_rfl) (by kernel_rfl) (by kernel_rfl) (fun _ _ _ h => h) (Or.inl ⟨by rfl, (by intro w hSw; go_simp; try with_reducible rfl)⟩) (by assumption) ?_
      simp only [Act.put, List.getElem_toArray, List.getElem_cons_zero, List.getElem_cons_succ, List.setIfInBounds_toArray, List.set_cons_zero, List.set_cons_succ]
      refine wpAnyH_take (i := 9) (v := ?_) rfl (by kernel_rfl) (by kernel_rfl) (by kernel_rfl) (fun _ _ _ h => h) (Or.inl ⟨by rfl, (by intro w hSw; go_simp; try with_reducible rfl)⟩) (by assumption) ?_
      simp only [Act.put, List.getElem_toArray, List.getElem_cons_zero, List.getElem_cons_succ, List.setIfInBounds_toArray, List.set_cons_zero, List.set_cons_succ]
      refine wpAnyH_take (i := 10) (v := ?_) rfl (by kernel_rfl) (by kernel_rfl) (by kernel_rfl) (fun _ _ _ h => h) (Or.inl ⟨by rfl, (by intro w hSw; have d0 := CP.out _ (Hbel.out.trans (hSw.mono Hbel.out.size)); go_simp; try with_reducible rfl)⟩) (by assumption) ?_
      simp only [Act.put, List.getElem_toArray, List.getElem_cons_zero, List.getElem_cons_succ, List.setIfInBounds_toArray, List.set_cons_zero, List.set_cons_succ]
      refine wpAnyH_take (i := 14) (v := ?_) rfl (by kernel_rfl) (by kernel_rfl) (by kernel_rfl) (fun _ _ _ h => h) (Or.inl ⟨by rfl, (by intro w hSw; go_simp; try with_reducible rfl)⟩) (by assumption) ?_
      simp only [Act.put, List.getElem_toArray, List.getElem_cons_zero, List.getElem_cons_succ, List.setIfInBounds_toArray, List.set_cons_zero, List.set_cons_succ]
      refine wpAnyH_take (i := 15) (v := ?_) rfl (by kernel_rfl) (by kernel_rfl) (by kernel_rfl) (fun _ _ _ h => h) (Or.inl ⟨by rfl, (by intro w hSw; go_simp; try with_reducible rfl)⟩) (by assumption) ?_
      simp only [Act.put, List.getElem_toArray, List.getElem_cons_zero, List.getElem_cons_succ, List.setIfInBounds_toArray, List.set_cons_zero, List.set_cons_succ]
      refine wpAnyH_take (i := 16) (v := ?_) rfl (by kernel_rfl) (by kernel_rfl) (by kernel_rfl) (fun _ _ _ h => h) (Or.inl ⟨by rfl, (by intro w hSw; go_simp; try with_reducible rfl)⟩) (by assumption) ?_
      simp only [Act.put, List.getElem_toArray, List.getElem_cons_zero, List.getElem_cons_succ, List.setIfInBounds_toArray, List.set_cons_zero, List.set_cons_succ]
      refine wpAnyH_take (i := 17) (v := ?_) rfl (by kernel_rfl) (by kernel_rfl) (by kernel_rfl) (fun _ _ _ h => h) (Or.inl ⟨by rfl, (by intro w hSw; go_simp; try with_reducible rfl)⟩) (by assumption) ?_
      simp only [Act.put, List.getElem_toArray, List.getElem_cons_zero, List.getElem_cons_succ, List.setIfInBounds_toArray, List.set_cons_zero, List.set_cons_succ]
      refine wpAnyH_take (i := 18) (v := ?_) rfl (by kernel_rfl) (by kernel_rfl) (by kernel_rfl) (fun _ _ _ h => h) (Or.inl ⟨by rfl, (by intro w hSw; have d0 := CP.out _ (Hbel.out.trans (hSw.mono Hbel.out.size)); go_simp; try with_reducible rfl)⟩) (by assumption) ?_
      simp only [Act.put, List.getElem_toArray, List.getElem_cons_zero, List.getElem_cons_succ, List.setIfInBounds_toArray, List.set_cons_zero, List.set_cons_succ]
      refine wpAnyH_take (i := 20) (v := ?_) rfl (by kernel_rfl) (by kernel_rfl) (by kernel_rfl) (fun _ _ _ h => h) (Or.inl ⟨by rfl, (by intro w hSw; go_simp; try with_reducible rfl)⟩) (by assumption) ?_
      simp only [Act.put, List.getElem_toArray, List.getElem_cons_zero, List.getElem_cons_succ, List.setIfInBounds_toArray, List.set_cons_zero, List.set_cons_succ]
      refine wpAnyH_take (i := 21) (v := ?_) rfl (by kernel_rfl) (by kernel_rfl) (by kernel_rfl) (fun _ _ _ h => h) (Or.inl ⟨by rfl, (by intro w hSw; go_simp; try with_reducible rfl)⟩) (by assumption) ?_
      simp only [Act.put, List.getElem_toArray, List.getElem_cons_zero, List.getElem_cons_succ, List.setIfInBounds_toArray, List.set_cons_zero, List.set_cons_succ]
      refine wpAnyH_take (i := 22) (v := ?_) rfl (by kernel_rfl) (by kernel_rfl) (by kernel_rfl) (fun _ _ _ h => h) (Or.inl ⟨by rfl, (by intro w hSw; go_simp; try with_reducible rfl)⟩) (by assumption) ?_
      simp only [Act.put, List.getElem_toArray, List.getElem_cons_zero, List.getElem_cons_succ, List.setIfInBounds_toArray, List.set_cons_zero, List.set_cons_succ]
      refine wpAnyH_take (i := 23) (v := ?_) rfl (by kernel_rfl) (by kernel_rfl) (by kernel_rfl) (fun _ _ _ h => h) (Or.inl ⟨by rfl, (by intro w hSw; go_simp; try with_reducible rfl)⟩) (by assumption) ?_
      simp only [Act.put, List.getElem_toArray, List.getElem_cons_zero, List.getElem_cons_succ, List.setIfInBounds_toArray, List.set_cons_zero, List.set_cons_succ]
      refine wpAnyH_take (i := 24) (v := ?_) rfl (by kernel_rfl) (by kernel_rfl) (by kernel_rfl) (fun _ _ _ h => h) (Or.inl ⟨by rfl, (by intro w hSw; have d0 := CP.out _ (Hbel.out.trans (hSw.mono Hbel.out.size)); go_simp; try with_reducible rfl)⟩) (by assumption) ?_
      simp only [Act.put, List.getElem_toArray, List.getElem_cons_zero, List.getElem_cons_succ, List.setIfInBounds_toArray, List.set_cons_zero, List.set_cons_succ]
      refine wpAnyH_ready (rs := [5]) (by kernel_rfl) (by simp) ?_
      refine AllReadyH.cons rfl (fun K hK => ?_) AllReadyH.nil
      go_simp
      go_at_call 31
      refine (SF.out p hpp _ (HB1.out.trans (hHeld.mono HB1.out.size))).mono ?_
      rintro e wa ⟨s1, rfl, hs1⟩
      have hhN := hHeld.trans (hs1.2.mono hHeld.size)
      have HS1 := Lib.hid hs1
      clear hs1
      refine hK.out _ _ hhN (fun hHeld => ?_)
      clear hhN
      clear hK K
      refine wpAnyH_ready (rs := [11]) (by kernel_rfl) (by simp) ?_
      refine AllReadyH.cons rfl (fun K hK => ?_) AllReadyH.nil
      go_simp
      go_at_call 31
      refine (SG.out p hpp _ (HB1.out.trans (hHeld.mono HB1.out.size))).mono ?_
      rintro e wb ⟨s2, rfl, hs2⟩
      have hhN := hHeld.trans (hs2.2.mono hHeld.size)
      have HS2 := Lib.hid hs2
      clear hs2
      refine hK.out _ _ hhN (fun hHeld => ?_)
      clear hhN
      clear hK K
      refine wpAnyH_ready (rs := [12]) (by kernel_rfl) (by simp) ?_
      refine AllReadyH.cons rfl (fun K hK => ?_) AllReadyH.nil
      go_simp
      go_at_call 30
      refine (TW.out _ _ _ _ _ _ _ (LF.out p) (LG.out p) HS1.out HS2.out).mono ?_
      rintro e wc ⟨D1, k1, q1, rfl, hk1, hl1, hbN⟩
      have hhN := hHeld.trans (hbN.mono hHeld.size)
      clear hbN
      refine hK.out _ _ hhN (fun hHeld => ?_)
      clear hhN
      clear hK K
      refine wpAnyH_take (i := 13) (v := ?_) rfl (by kernel_rfl) (by kernel_rfl) (by kernel_rfl) (fun _ _ _ h => h) (Or.inl ⟨by rfl, (by intro w hSw; go_simp; try with_reducible rfl)⟩) (by assumption) ?_
      simp only [Act.put, List.getElem_toArray, List.getElem_cons_zero, List.getElem_cons_succ, List.setIfInBounds_toArray, List.set_cons_zero, List.set_cons_succ]
      refine wpAnyH_ready (rs := [19]) (by kernel_rfl) (by simp) ?_
      refine AllReadyH.cons rfl (fun K hK => ?_) AllReadyH.nil
      go_simp
      go_at_call 31
      refine (SG.out p hpp _ (HB1.out.trans (hHeld.mono HB1.out.size))).mono ?_
      rintro e wd ⟨s3, rfl, hs3⟩
      have hhN := hHeld.trans (hs3.2.mono hHeld.size)
      have HS3 := Lib.hid hs3
      clear hs3
      refine hK.out _ _ hhN (fun hHeld => ?_)
      clear hhN
      clear hK K
      refine wpAnyH_ready (rs := [25]) (by kernel_rfl) (by simp) ?_
      refine AllReadyH.cons rfl (fun K hK => ?_) AllReadyH.nil
      go_simp
      go_at_call 31
      refine (SF.out p hpp _ (HB1.out.trans (hHeld.mono HB1.out.size))).mono ?_
      rintro e we ⟨s4, rfl, hs4⟩
      have hhN := hHeld.trans (hs4.2.mono hHeld.size)
      have HS4 := Lib.hid hs4
      clear hs4
      refine hK.out _ _ hhN (fun hHeld => ?_)
      clear hhN
      clear hK K
      refine wpAnyH_ready (rs := [26]) (by kernel_rfl) (by simp) ?_
      refine AllReadyH.cons rfl (fun K hK => ?_) AllReadyH.nil
      go_simp
      go_at_call 30
      refine (TW.out _ _ _ _ _ _ _ (LG.out p) (LF.out p) HS3.out HS4.out).mono ?_
      rintro e w5 ⟨D2, k2, q2, rfl, hk2, hl2, hbN⟩
      have hhN := hHeld.trans (hbN.mono hHeld.size)
      clear hbN
      have hw : IntKind.i64.wrap ((k1 : Int) + (k2 : Int)) = (k1 : Int) + (k2 : Int) := IntWalk.i64_in _ ⟨by omega, by omega⟩
      refine hK.out _ _ hhN (fun hHeld => ?_)
      clear hhN
      clear hK K
      refine wpAnyH_take (i := 27) (v := ?_) rfl (by kernel_rfl) (by kernel_rfl) (by kernel_rfl) (fun _ _ _ h => h) (Or.inl ⟨by rfl, (by intro w hSw; go_simp; try with_reducible rfl)⟩) (by assumption) ?_
      simp only [Act.put, List.getElem_toArray, List.getElem_cons_zero, List.getElem_cons_succ, List.setIfInBounds_toArray, List.set_cons_zero, List.set_cons_succ]
      refine wpAnyH_take (i := 28) (v := ?_) rfl (by kernel_rfl) (by kernel_rfl) (by kernel_rfl) (fun _ _ _ h => h) (Or.inl ⟨by rfl, (by intro w hSw; go_simp; try with_reducible rfl)⟩) (by assumption) ?_
      simp only [Act.put, List.getElem_toArray, List.getElem_cons_zero, List.getElem_cons_succ, List.setIfInBounds_toArray, List.set_cons_zero, List.set_cons_succ]
      refine wpAnyH_take (i := 29) (v := ?_) rfl (by kernel_rfl) (by kernel_rfl) (by kernel_rfl) (fun _ _ _ h => h) (Or.inl ⟨by rfl, (by intro w hSw; go_simp; try with_reducible rfl)⟩) (by assumption) ?_
      simp only [Act.put, List.getElem_toArray, List.getElem_cons_zero, List.getElem_cons_succ, List.setIfInBounds_toArray, List.set_cons_zero, List.set_cons_succ]
      refine wpAnyH_done (by kernel_rfl) ?_ _
      have HB5 := Lib.hid hHeld
      clear hHeld
      have hiff : (∀ m, Sz.holds (Flt.sizes f p) m = Sz.holds (Flt.sizes g p) m) ↔ (k1 = 0 ∧ k2 = 0) := by
        rw [hk1, hk2]
        exact ⟨fun h => ⟨fun m hm => by rw [← h]; exact hm, fun m hm => by rw [h]; exact hm⟩, fun h m => by rw [Bool.eq_iff_iff]; exact ⟨h.1 m, h.2 m⟩⟩
      clear hk1 hk2
      by_cases hz : k1 = 0 ∧ k2 = 0
      · have hst := Lib.hid (hstep.out (hiff.2 hz))
        obtain ⟨rfl, rfl⟩ := hz
        clear hstep hno hiff
        go_wp2_with fail
        exact ⟨⟨n + 1, by omega, by go_num, hst, Hbel.out.trans (HB5.out.mono Hbel.out.size)⟩, by show L.length - ((n : Int) + 1).toNat < L.length - (n : Int).toNat; omega⟩
      · have hnn := Lib.hid (hno.out (fun h => hz (hiff.1 h)))
        have hgt : (0 : Int) < (k1 : Int) + (k2 : Int) := by omega
        have hgd : decide ((0 : Int) < (k1 : Int) + (k2 : Int)) = true := decide_eq_true hgt
        clear hstep hno hiff hz
        go_wp2_with fail
        go_ret
        exact ⟨by rw [hnn.out]; rfl, HB1.out.trans (HB5.out.mono HB1.out.size)⟩
    · obtain rfl : n = L.length := by omega
      have hyes : Hid (decide (Flt.norm f = Flt.norm g) = true) := Lib.hid (decide_eq_true (HA.out.2 (by have := hall.out; rwa [List.take_length] at this)))
      have Hbel := Lib.hid hbel
      clear hbel hall
      go_wp2_with fail
      go_ret
      exact ⟨by rw [hyes.out]; rfl, Hb4.out.trans (Hbel.out.mono Hb4.out.size)⟩
end Go.Proofs.YtabnfaonlkipbaaGreatDoor
/- FlangPlain out of the contracts. -/
set_option linter.unusedSimpArgs false
set_option linter.unusedVariables false
namespace Go.Proofs.YtabnfaonlkipbaaGreatDoor
open Go.RowKit

set_option maxRecDepth 100000 in
theorem Flg.plain_same {f g : List Flt.Cl} (hf : ∀ c ∈ f, Flt.Right c) (hg : ∀ c ∈ g, Flt.Right c) (lf : (Flt.norm f).length ≤ 8) (lg : (Flt.norm g).length ≤ 8) : decide (Flg.text (Flt.norm f) = Flg.text (Flt.norm g)) = decide (Flt.norm f = Flt.norm g) := by
  rw [decide_eq_decide]
  exact ⟨Flg.text_inj (Flt.norm_right hf) (Flt.norm_right hg) lf lg, fun h => by rw [h]⟩

set_option maxRecDepth 100000 in
set_option maxHeartbeats 6400000 in
theorem fplain_walk (H : FlangOk) {w : World} {u : Value} {s : List UInt8} {f : List Flt.Cl} (hT : Flg.Tabs w) (hs : s.length ≤ 9223372036854775807) (hf : Cls w (fun i => i < w.heap.size) u f) (lf : f.length ≤ 9223372036854775807)
    (bf : ∀ c ∈ f, c.pre.length ≤ 9223372036854775807 ∧ Bd (Flt.rg c)) :
    Calls Tryz.prog 5 #[.string (mk s), u] w fun e w' => e = .returned (.bool true) ∧ Below w.heap.size w w' := by
  have AW := Lib.hid (fun (W : World) (hW : Below w.heap.size w W) => flg_awake H W (hT.below hW))
  have LI := Lib.hid (light_any hf lf (fun c hc => (bf c hc).1))
  have ls := mk_len s
  have g2 : ((mk s).size : Int) ≤ 9223372036854775807 := by omega
  by_cases h600 : 600 < s.length
  · have g6 : (600 : Int) < ((mk s).size : Int) := by omega
    clear hf bf lf hT hs ls h600 LI
    generalize mk s = t at *
    go_enter Tryz.func5, Tryz.ntmps5
    go_wp2_with fail
    refine (AW.out _ (Below.refl w.heap.size w)).mono ?_
    rintro e w1 ⟨rfl, hb1⟩
    have B1 := Lib.hid (hb1)
    clear hb1
    go_wp2_with fail
    go_ret
    exact ⟨rfl, B1.out⟩
  · have g6 : ¬ (600 : Int) < ((mk s).size : Int) := by omega
    by_cases hlf : Flt.light f
    · have LI : Hid (Calls Tryz.prog 6 #[u] w fun e w' => e = .returned (.bool true) ∧ Below w.heap.size w w') := Lib.hid (by have := LI.out; rwa [decide_eq_true hlf] at this)
      obtain ⟨hf1, hf2⟩ := hlf
      have BF : ∀ c ∈ f, Flt.Bd c := fun c hc => ⟨by have := hf1 c hc; omega, (bf c hc).2⟩
      have PL := Lib.hid (fun (W : World) (hW : Below w.heap.size w W) => H.plain s (hT.below hW) hs)
      have RP := Lib.hid (fun W => ref_parse11 s W (by omega))
      by_cases hbig : 512 < s.length
      · have hE : Flg.parseE s = 4 := by unfold Flg.parseE; rw [if_pos hbig]
        have hP : mk (Flg.plainT s) = ⟨#[]⟩ := by unfold Flg.plainT; rw [hE]; rfl
        have g1 : (512 : Int) < ((mk s).size : Int) := by omega
        rw [hE, hP] at PL
        generalize (Flg.parse s).isSome = b at *
        clear hf bf lf hf1 hf2 BF hT hs ls h600 hbig hE hP
        generalize mk s = t at *
        go_enter Tryz.func5, Tryz.ntmps5
        go_wp2_with fail
        refine (LI.out).mono ?_
        rintro e w1 ⟨rfl, hb1⟩
        have B1 := Lib.hid (hb1)
        clear hb1
        go_wp2_with fail
        refine (PL.out _ B1.out).mono ?_
        rintro e w2 ⟨rfl, hb2⟩
        have B2 := Lib.hid (B1.out.trans (hb2.mono B1.out.size))
        clear hb2
        go_wp2_with fail
        refine (RP.out _).mono ?_
        rintro e w3 ⟨gv, rfl, hgv, hb3⟩
        have B3 := Lib.hid (B2.out.trans (hb3.mono B2.out.size))
        clear hgv
        clear hb3
        go_wp2_with fail
        refine (AW.out _ B3.out).mono ?_
        rintro e w4 ⟨rfl, hb4⟩
        have B4 := Lib.hid (B3.out.trans (hb4.mono B3.out.size))
        clear hb4
        go_wp2_with fail
        go_ret
        exact ⟨rfl, B4.out⟩
      · have g1 : ¬ (512 : Int) < ((mk s).size : Int) := by omega
        cases hp : Flg.parse s with
        | none =>
          have hE : Flg.parseE s = 14 := by unfold Flg.parseE; rw [if_neg hbig, hp]; rfl
          have hP : mk (Flg.plainT s) = ⟨#[]⟩ := by unfold Flg.plainT; rw [hE]; rfl
          rw [hE, hP] at PL
          rw [hp] at RP
          clear hf bf lf hf1 hf2 BF hT hs ls h600 hbig hE hP hp
          generalize mk s = t at *
          go_enter Tryz.func5, Tryz.ntmps5
          go_wp2_with fail
          refine (LI.out).mono ?_
          rintro e w1 ⟨rfl, hb1⟩
          have B1 := Lib.hid (hb1)
          clear hb1
          go_wp2_with fail
          refine (PL.out _ B1.out).mono ?_
          rintro e w2 ⟨rfl, hb2⟩
          have B2 := Lib.hid (B1.out.trans (hb2.mono B1.out.size))
          clear hb2
          go_wp2_with fail
          refine (RP.out _).mono ?_
          rintro e w3 ⟨gv, rfl, hgv, hb3⟩
          have B3 := Lib.hid (B2.out.trans (hb3.mono B2.out.size))
          clear hgv
          clear hb3
          go_wp2_with fail
          refine (AW.out _ B3.out).mono ?_
          rintro e w4 ⟨rfl, hb4⟩
          have B4 := Lib.hid (B3.out.trans (hb4.mono B3.out.size))
          clear hb4
          go_wp2_with fail
          go_ret
          exact ⟨rfl, B4.out⟩
        | some G =>
          have hE : Flg.parseE s = 0 := by unfold Flg.parseE; rw [if_neg hbig, hp]; rfl
          have hF : Flg.parseF s = G := by unfold Flg.parseF; rw [if_neg hbig, hp]; rfl
          obtain ⟨hGr, hG8⟩ := Flg.parse_right hp
          have hGs : ∀ c ∈ G, c.pre.length ≤ 100000 := fun c hc => (Flg.bd_of (hGr c hc)).1
          have hNr := Flt.norm_right hGr
          have hNl := Flt.norm_len G
          have hNl2 : G.length * 202 ≤ 8 * 202 := Nat.mul_le_mul_right _ hG8
          have hNi : ((Flt.norm G).length : Int) ≤ 1616 := by omega
          have RN : Hid (∀ (P : Nat → Prop) (W : World) (x : Value), Cls W P x G → Calls Tryz.prog 15 #[x] W fun e w' => ∃ v', e = .returned v' ∧ RowsOwn 42 3 clV W (Flt.norm G) v' w') := Lib.hid (fun P W x hx => ref_fnorm hx (by omega) hGs)
          have TG : Hid (∀ (P : Nat → Prop) (W : World) (x : Value), Cls W P x G → Calls Tryz.prog 11 #[x] W fun e w' => e = .returned (.string (mk (Flg.text G))) ∧ Below W.heap.size W w') := Lib.hid (fun P W x hx => ref_text11 hx (by omega) hGr)
          rw [hp] at RP
          by_cases hn8 : (Flt.norm G).length ≤ 8
          · have hP : Flg.plainT s = Flg.text (Flt.norm G) := by unfold Flg.plainT; rw [if_pos hE, hF, if_pos hn8]
            have TN : Hid (∀ (P : Nat → Prop) (W : World) (x : Value), Cls W P x (Flt.norm G) → Calls Tryz.prog 11 #[x] W fun e w' => e = .returned (.string (mk (Flg.text (Flt.norm G)))) ∧ Below W.heap.size W w') := Lib.hid (fun P W x hx => ref_text11 hx (by omega) hNr)
            have gn : ¬ (8 : Int) < ((Flt.norm G).length : Int) := by omega
            have PR := Lib.hid (fun (W : World) (hW : Below w.heap.size w W) => H.print (hT.below hW) (hf.below hW) (by omega) BF)
            rw [hE, hP] at PL
            by_cases hc : Flt.check f = 0
            · obtain ⟨h8, hr⟩ := (Flg.check_zero f).1 hc
              have hsf : ∀ c ∈ f, c.pre.length ≤ 100000 := fun c hc => (BF c hc).1
              have htl := Flg.text_len hr h8
              have hpt : Flg.printT f = Flg.text f := by unfold Flg.printT; rw [if_pos hc]
              have lt : (mk (Flg.text f)).size = (Flg.text f).length := mk_len _
              have gu1 : ¬ (512 : Int) < ((mk (Flg.text f)).size : Int) := by omega
              have gu2 : ((mk (Flg.text f)).size : Int) ≤ 9223372036854775807 := by omega
              have hMl := Flt.norm_len f
              have hMl2 : f.length * 202 ≤ 8 * 202 := Nat.mul_le_mul_right _ h8
              have hMi : ((Flt.norm f).length : Int) ≤ 1616 := by omega
              have RM := Lib.hid (fun (W : World) (hW : Below w.heap.size w W) => ref_fnorm (hf.below hW) (by omega) hsf)
              rw [hpt, hc] at PR
              by_cases hm8 : (Flt.norm f).length ≤ 8
              · have gm : ¬ (8 : Int) < ((Flt.norm f).length : Int) := by omega
                have hps := Flg.parse_text hr h8
                have hl : ¬ 512 < (Flg.text f).length := by omega
                have hpE : Flg.parseE (Flg.text f) = 0 := by unfold Flg.parseE; rw [if_neg hl, hps]; rfl
                have hpF : Flg.parseF (Flg.text f) = f := by unfold Flg.parseF; rw [if_neg hl, hps]; rfl
                have hpP : Flg.plainT (Flg.text f) = Flg.text (Flt.norm f) := by unfold Flg.plainT; rw [if_pos hpE, hpF, if_pos hm8]
                have P2 : Hid (∀ (W : World), Below w.heap.size w W → Calls Tryz.prog 14 #[.string (mk (Flg.text f))] W fun e w' => e = .returned (.tuple #[.string (mk (Flg.text (Flt.norm f))), .int .i64 0]) ∧ Below W.heap.size W w') := Lib.hid (fun W hW => by
                  have := H.plain (Flg.text f) (hT.below hW) (by omega)
                  rwa [hpE, hpP] at this)
                have AL : Hid (∀ (P : Nat → Prop) (W : World) (x : Value), Below w.heap.size w W → Cls W P x G → Calls Tryz.prog 16 #[u, x] W fun e w' => e = .returned (.bool (decide (Flt.norm f = Flt.norm G))) ∧ Below W.heap.size W w') := Lib.hid (fun P W x hW hx => ref_alike (hf.below hW) hx (by omega) (by omega) hsf hGs)
                have ec := str_same (Flg.text (Flt.norm f)) (Flg.text (Flt.norm G))
                rw [Flg.plain_same hr hGr hm8 hn8] at ec
                have hss : ((mk (Flg.text (Flt.norm G))).toList == (mk (Flg.text (Flt.norm G))).toList) = true := beq_self_eq_true _
                have hsn : ((mk (Flg.text (Flt.norm G))).toList != (mk (Flg.text (Flt.norm G))).toList) = false := by rw [bne_eq_false_iff_eq]
                clear hf bf lf hf1 hf2 BF hT hs ls h600 hbig hp hE hF hGr hG8 hGs hNr hNl hNl2 hn8 hP hc h8 hr hsf htl hpt lt hMl hMl2 hm8 hps hl hpE hpF hpP
                generalize mk (Flg.text (Flt.norm f)) = tm at *
                generalize mk (Flg.text (Flt.norm G)) = tn at *
                generalize mk (Flg.text f) = tf at *
                generalize mk s = t at *
                generalize Flt.norm G = NG at *
                generalize Flt.norm f = NF at *
                generalize hdd : decide (NF = NG) = D at *
                clear hdd
                cases D
                all_goals
                  go_enter Tryz.func5, Tryz.ntmps5
                  go_wp2_with fail
                  refine (LI.out).mono ?_
                  rintro e w1 ⟨rfl, hb1⟩
                  have B1 := Lib.hid (hb1)
                  clear hb1
                  go_wp2_with fail
                  refine (PL.out _ B1.out).mono ?_
                  rintro e w2 ⟨rfl, hb2⟩
                  have B2 := Lib.hid (B1.out.trans (hb2.mono B1.out.size))
                  clear hb2
                  go_wp2_with fail
                  refine (RP.out _).mono ?_
                  rintro e w3 ⟨gv, rfl, hgv, hb3⟩
                  have B3 := Lib.hid (B2.out.trans (hb3.mono B2.out.size))
                  have HG3 := Lib.hid (hgv G rfl)
                  clear hgv
                  clear hb3
                  go_wp2_with fail
                  refine (RN.out _ _ _ HG3.out).mono ?_
                  rintro e w4 ⟨nv, rfl, hnv⟩
                  obtain ⟨NA, Nc, rfl, -⟩ := (hnv.rows (fun _ _ => rfl)).parts
                  have B4 := Lib.hid (B3.out.trans (hnv.2.mono B3.out.size))
                  have HG4 := Lib.hid (HG3.out.below hnv.2)
                  have HN4 := Lib.hid (hnv.rows (fun _ _ => rfl))
                  clear hnv
                  go_wp2_with fail
                  refine (TN.out _ _ _ HN4.out).mono ?_
                  rintro e w5 ⟨rfl, hb5⟩
                  have B5 := Lib.hid (B4.out.trans (hb5.mono B4.out.size))
                  have HG5 := Lib.hid (HG4.out.below hb5)
                  have HN5 := Lib.hid (HN4.out.below hb5)
                  clear hb5
                  go_wp2_with fail
                  refine (PR.out _ B5.out).mono ?_
                  rintro e w6 ⟨rfl, hb6⟩
                  have B6 := Lib.hid (B5.out.trans (hb6.mono B5.out.size))
                  have HG6 := Lib.hid (HG5.out.below hb6)
                  have HN6 := Lib.hid (HN5.out.below hb6)
                  clear hb6
                  go_wp2_with fail
                  refine (RM.out _ B6.out).mono ?_
                  rintro e w7 ⟨mv, rfl, hnv⟩
                  obtain ⟨MA, Mc, rfl, -⟩ := (hnv.rows (fun _ _ => rfl)).parts
                  have B7 := Lib.hid (B6.out.trans (hnv.2.mono B6.out.size))
                  have HG7 := Lib.hid (HG6.out.below hnv.2)
                  have HN7 := Lib.hid (HN6.out.below hnv.2)
                  have HM7 := Lib.hid (hnv.rows (fun _ _ => rfl))
                  clear hnv
                  go_wp2_with fail
                  refine (P2.out _ B7.out).mono ?_
                  rintro e w8 ⟨rfl, hb8⟩
                  have B8 := Lib.hid (B7.out.trans (hb8.mono B7.out.size))
                  have HG8 := Lib.hid (HG7.out.below hb8)
                  have HN8 := Lib.hid (HN7.out.below hb8)
                  have HM8 := Lib.hid (HM7.out.below hb8)
                  clear hb8
                  go_wp2_with fail
                  refine (AW.out _ B8.out).mono ?_
                  rintro e w9 ⟨rfl, hb9⟩
                  have B9 := Lib.hid (B8.out.trans (hb9.mono B8.out.size))
                  have HG9 := Lib.hid (HG8.out.below hb9)
                  have HN9 := Lib.hid (HN8.out.below hb9)
                  have HM9 := Lib.hid (HM8.out.below hb9)
                  clear hb9
                  go_wp2_with fail
                  refine (AL.out _ _ _ B9.out HG9.out).mono ?_
                  rintro e w10 ⟨rfl, hb10⟩
                  have B10 := Lib.hid (B9.out.trans (hb10.mono B9.out.size))
                  have HG10 := Lib.hid (HG9.out.below hb10)
                  have HN10 := Lib.hid (HN9.out.below hb10)
                  have HM10 := Lib.hid (HM9.out.below hb10)
                  clear hb10
                  go_wp2_with fail
                  go_ret
                  exact ⟨rfl, B10.out⟩
              · have gm : (8 : Int) < ((Flt.norm f).length : Int) := by omega
                have hss : ((mk (Flg.text (Flt.norm G))).toList == (mk (Flg.text (Flt.norm G))).toList) = true := beq_self_eq_true _
                have hsn : ((mk (Flg.text (Flt.norm G))).toList != (mk (Flg.text (Flt.norm G))).toList) = false := by rw [bne_eq_false_iff_eq]
                clear hf bf lf hf1 hf2 BF hT hs ls h600 hbig hp hE hF hGr hG8 hGs hNr hNl hNl2 hn8 hP hc h8 hr hsf htl hpt lt hMl hMl2 hm8
                generalize mk (Flg.text (Flt.norm G)) = tn at *
                generalize mk (Flg.text f) = tf at *
                generalize mk s = t at *
                generalize Flt.norm G = NG at *
                generalize Flt.norm f = NF at *
                go_enter Tryz.func5, Tryz.ntmps5
                go_wp2_with fail
                refine (LI.out).mono ?_
                rintro e w1 ⟨rfl, hb1⟩
                have B1 := Lib.hid (hb1)
                clear hb1
                go_wp2_with fail
                refine (PL.out _ B1.out).mono ?_
                rintro e w2 ⟨rfl, hb2⟩
                have B2 := Lib.hid (B1.out.trans (hb2.mono B1.out.size))
                clear hb2
                go_wp2_with fail
                refine (RP.out _).mono ?_
                rintro e w3 ⟨gv, rfl, hgv, hb3⟩
                have B3 := Lib.hid (B2.out.trans (hb3.mono B2.out.size))
                have HG3 := Lib.hid (hgv G rfl)
                clear hgv
                clear hb3
                go_wp2_with fail
                refine (RN.out _ _ _ HG3.out).mono ?_
                rintro e w4 ⟨nv, rfl, hnv⟩
                obtain ⟨NA, Nc, rfl, -⟩ := (hnv.rows (fun _ _ => rfl)).parts
                have B4 := Lib.hid (B3.out.trans (hnv.2.mono B3.out.size))
                have HG4 := Lib.hid (HG3.out.below hnv.2)
                have HN4 := Lib.hid (hnv.rows (fun _ _ => rfl))
                clear hnv
                go_wp2_with fail
                refine (TN.out _ _ _ HN4.out).mono ?_
                rintro e w5 ⟨rfl, hb5⟩
                have B5 := Lib.hid (B4.out.trans (hb5.mono B4.out.size))
                have HG5 := Lib.hid (HG4.out.below hb5)
                have HN5 := Lib.hid (HN4.out.below hb5)
                clear hb5
                go_wp2_with fail
                refine (PR.out _ B5.out).mono ?_
                rintro e w6 ⟨rfl, hb6⟩
                have B6 := Lib.hid (B5.out.trans (hb6.mono B5.out.size))
                have HG6 := Lib.hid (HG5.out.below hb6)
                have HN6 := Lib.hid (HN5.out.below hb6)
                clear hb6
                go_wp2_with fail
                refine (RM.out _ B6.out).mono ?_
                rintro e w7 ⟨mv, rfl, hnv⟩
                obtain ⟨MA, Mc, rfl, -⟩ := (hnv.rows (fun _ _ => rfl)).parts
                have B7 := Lib.hid (B6.out.trans (hnv.2.mono B6.out.size))
                have HG7 := Lib.hid (HG6.out.below hnv.2)
                have HN7 := Lib.hid (HN6.out.below hnv.2)
                have HM7 := Lib.hid (hnv.rows (fun _ _ => rfl))
                clear hnv
                go_wp2_with fail
                refine (AW.out _ B7.out).mono ?_
                rintro e w8 ⟨rfl, hb8⟩
                have B8 := Lib.hid (B7.out.trans (hb8.mono B7.out.size))
                have HG8 := Lib.hid (HG7.out.below hb8)
                have HN8 := Lib.hid (HN7.out.below hb8)
                have HM8 := Lib.hid (HM7.out.below hb8)
                clear hb8
                go_wp2_with fail
                go_ret
                exact ⟨rfl, B8.out⟩
            · have hpt : Flg.printT f = [] := by unfold Flg.printT; rw [if_neg hc]
              have b1 : (Flt.check f != 0) = true := by rw [bne_iff_ne]; exact hc
              have hnil : mk [] = ⟨#[]⟩ := rfl
              rw [hpt, hnil] at PR
              have hss : ((mk (Flg.text (Flt.norm G))).toList == (mk (Flg.text (Flt.norm G))).toList) = true := beq_self_eq_true _
              have hsn : ((mk (Flg.text (Flt.norm G))).toList != (mk (Flg.text (Flt.norm G))).toList) = false := by rw [bne_eq_false_iff_eq]
              clear hf bf lf hf1 hf2 BF hT hs ls h600 hbig hp hE hF hGr hG8 hGs hNr hNl hNl2 hn8 hP hpt hnil
              generalize mk (Flg.text (Flt.norm G)) = tn at *
              generalize mk s = t at *
              generalize Flt.norm G = NG at *
              generalize Flt.check f = E at *
              go_enter Tryz.func5, Tryz.ntmps5
              go_wp2_with fail
              refine (LI.out).mono ?_
              rintro e w1 ⟨rfl, hb1⟩
              have B1 := Lib.hid (hb1)
              clear hb1
              go_wp2_with fail
              refine (PL.out _ B1.out).mono ?_
              rintro e w2 ⟨rfl, hb2⟩
              have B2 := Lib.hid (B1.out.trans (hb2.mono B1.out.size))
              clear hb2
              go_wp2_with fail
              refine (RP.out _).mono ?_
              rintro e w3 ⟨gv, rfl, hgv, hb3⟩
              have B3 := Lib.hid (B2.out.trans (hb3.mono B2.out.size))
              have HG3 := Lib.hid (hgv G rfl)
              clear hgv
              clear hb3
              go_wp2_with fail
              refine (RN.out _ _ _ HG3.out).mono ?_
              rintro e w4 ⟨nv, rfl, hnv⟩
              obtain ⟨NA, Nc, rfl, -⟩ := (hnv.rows (fun _ _ => rfl)).parts
              have B4 := Lib.hid (B3.out.trans (hnv.2.mono B3.out.size))
              have HG4 := Lib.hid (HG3.out.below hnv.2)
              have HN4 := Lib.hid (hnv.rows (fun _ _ => rfl))
              clear hnv
              go_wp2_with fail
              refine (TN.out _ _ _ HN4.out).mono ?_
              rintro e w5 ⟨rfl, hb5⟩
              have B5 := Lib.hid (B4.out.trans (hb5.mono B4.out.size))
              have HG5 := Lib.hid (HG4.out.below hb5)
              have HN5 := Lib.hid (HN4.out.below hb5)
              clear hb5
              go_wp2_with fail
              refine (PR.out _ B5.out).mono ?_
              rintro e w6 ⟨rfl, hb6⟩
              have B6 := Lib.hid (B5.out.trans (hb6.mono B5.out.size))
              have HG6 := Lib.hid (HG5.out.below hb6)
              have HN6 := Lib.hid (HN5.out.below hb6)
              clear hb6
              go_wp2_with fail
              refine (AW.out _ B6.out).mono ?_
              rintro e w7 ⟨rfl, hb7⟩
              have B7 := Lib.hid (B6.out.trans (hb7.mono B6.out.size))
              have HG7 := Lib.hid (HG6.out.below hb7)
              have HN7 := Lib.hid (HN6.out.below hb7)
              clear hb7
              go_wp2_with fail
              go_ret
              exact ⟨rfl, B7.out⟩
          · have hP : Flg.plainT s = Flg.text G := by unfold Flg.plainT; rw [if_pos hE, hF, if_neg hn8]
            have gn : (8 : Int) < ((Flt.norm G).length : Int) := by omega
            have hss : ((mk (Flg.text G)).toList == (mk (Flg.text G)).toList) = true := beq_self_eq_true _
            rw [hE, hP] at PL
            clear hf bf lf hf1 hf2 BF hT hs ls h600 hbig hp hE hF hGr hG8 hGs hNr hNl hNl2 hn8 hP
            generalize mk (Flg.text G) = tg at *
            generalize mk s = t at *
            generalize Flt.norm G = NG at *
            go_enter Tryz.func5, Tryz.ntmps5
            go_wp2_with fail
            refine (LI.out).mono ?_
            rintro e w1 ⟨rfl, hb1⟩
            have B1 := Lib.hid (hb1)
            clear hb1
            go_wp2_with fail
            refine (PL.out _ B1.out).mono ?_
            rintro e w2 ⟨rfl, hb2⟩
            have B2 := Lib.hid (B1.out.trans (hb2.mono B1.out.size))
            clear hb2
            go_wp2_with fail
            refine (RP.out _).mono ?_
            rintro e w3 ⟨gv, rfl, hgv, hb3⟩
            have B3 := Lib.hid (B2.out.trans (hb3.mono B2.out.size))
            have HG3 := Lib.hid (hgv G rfl)
            clear hgv
            clear hb3
            go_wp2_with fail
            refine (RN.out _ _ _ HG3.out).mono ?_
            rintro e w4 ⟨nv, rfl, hnv⟩
            obtain ⟨NA, Nc, rfl, -⟩ := (hnv.rows (fun _ _ => rfl)).parts
            have B4 := Lib.hid (B3.out.trans (hnv.2.mono B3.out.size))
            have HG4 := Lib.hid (HG3.out.below hnv.2)
            have HN4 := Lib.hid (hnv.rows (fun _ _ => rfl))
            clear hnv
            go_wp2_with fail
            refine (AW.out _ B4.out).mono ?_
            rintro e w5 ⟨rfl, hb5⟩
            have B5 := Lib.hid (B4.out.trans (hb5.mono B4.out.size))
            have HG5 := Lib.hid (HG4.out.below hb5)
            have HN5 := Lib.hid (HN4.out.below hb5)
            clear hb5
            go_wp2_with fail
            refine (TG.out _ _ _ HG5.out).mono ?_
            rintro e w6 ⟨rfl, hb6⟩
            have B6 := Lib.hid (B5.out.trans (hb6.mono B5.out.size))
            have HG6 := Lib.hid (HG5.out.below hb6)
            have HN6 := Lib.hid (HN5.out.below hb6)
            clear hb6
            go_wp2_with fail
            go_ret
            exact ⟨rfl, B6.out⟩
    · have LI : Hid (Calls Tryz.prog 6 #[u] w fun e w' => e = .returned (.bool false) ∧ Below w.heap.size w w') := Lib.hid (by have := LI.out; rwa [decide_eq_false hlf] at this)
      clear hf bf lf hlf hT hs ls h600
      generalize mk s = t at *
      go_enter Tryz.func5, Tryz.ntmps5
      go_wp2_with fail
      refine (LI.out).mono ?_
      rintro e w1 ⟨rfl, hb1⟩
      have B1 := Lib.hid (hb1)
      clear hb1
      go_wp2_with fail
      refine (AW.out _ B1.out).mono ?_
      rintro e w2 ⟨rfl, hb2⟩
      have B2 := Lib.hid (B1.out.trans (hb2.mono B1.out.size))
      clear hb2
      go_wp2_with fail
      go_ret
      exact ⟨rfl, B2.out⟩
end Go.Proofs.YtabnfaonlkipbaaGreatDoor
namespace Go.Proofs.YtabnfaonlkipbaaGreatDoor
open Go.RowKit

open Go.ChangeShapes Go.WideShapes Go.ChangeAt
open Go.ChangeMaps (open_string shut_string)

set_option maxRecDepth 100000 in
theorem flangPlain_lifted (os : Os) (started : os.Started) (H : Type) (enc : TypeId × Value → H) :
    ReturnsInHanded {} Tryz.checked os 5 .any (fun w args => (Rows.flangPlainSpec.pre enc Tryz.prog Tryz.f5 Rows.flangPlainRow.domain false w args ∧ laidMetH Tryz.prog Rows.flangPlainRow.laid w) ∧ sizedMet enc Tryz.prog Tryz.f5 (OpenSpec.ofChange Rows.flangPlainSpec) false w args) (Rows.flangPlainSpec.post enc Tryz.prog Tryz.f5 false true false false) := by
  refine flg_returns (C := Tryz.checked) (X := fun w _ => laidMetH Tryz.prog Rows.flangPlainRow.laid w) (fun _ _ _ hh h => h.of_heap hh) own started (by kernel_rfl) Tryz.func5
    (ChangeSpec.witness_shaped (enc := enc) (C := Tryz.checked) (os := os) (X := fun w _ => laidMetH Tryz.prog Rows.flangPlainRow.laid w) false (World.laidAll Tryz.prog os Rows.flangPlainRow.laid) #[.string ⟨#[]⟩, .slice none 0 0] 8 rfl (World.shaped_of_ZipB (by kernel_rfl) (by kernel_rfl)) (by kernel_rfl) (by kernel_rfl) (by kernel_rfl)
      (by rw [MakeChecks.laidMetH_plain _ _ _ (by kernel_rfl)]; exact laidMet_laidAll _ (by kernel_rfl) (by kernel_rfl))) ?_
  intro W base args ds gs before hval0 hW hsz hL hsh
  have hTb : Flg.Tabs W := by
    have hM : laidMet Tryz.prog Rows.flangPlainRow.laid W := by rw [← MakeChecks.laidMetH_plain _ _ _ (by kernel_rfl)]; exact hL
    have hE : ([("math/bits.deBruijn32tab", Rows.laid_math_bits_deBruijn32tab), ("math/bits.deBruijn64tab", Rows.laid_math_bits_deBruijn64tab), ("internal/strconv.uint64pow10", Lib.tabData .u64 Lib.pow10Tab), ("unicode/utf8.acceptRanges", Rows.laid_unicode_utf8_acceptRanges), ("strconv.ErrRange", Flg.outData), ("strconv.ErrSyntax", Flg.badData), ("unicode/utf8.first", Rows.laid_unicode_utf8_first)] : List (String × DataW Unit)) = Rows.flangPlainRow.laid := by kernel_rfl
    have hM2 : laidMet Tryz.prog [("math/bits.deBruijn32tab", Rows.laid_math_bits_deBruijn32tab), ("math/bits.deBruijn64tab", Rows.laid_math_bits_deBruijn64tab), ("internal/strconv.uint64pow10", Lib.tabData .u64 Lib.pow10Tab), ("unicode/utf8.acceptRanges", Rows.laid_unicode_utf8_acceptRanges), ("strconv.ErrRange", Flg.outData), ("strconv.ErrSyntax", Flg.badData), ("unicode/utf8.first", Rows.laid_unicode_utf8_first)] W := by rw [hE]; exact hM
    exact flg_tabs hM2.tail.tail hM2.tail.tail.tail.tail hM2.tail.tail.tail.tail.tail hsh
  have hval : ∀ (j : Nat) t v, Tryz.f5.params[j]? = some t → args[j]? = some v → Value.okWide Tryz.prog W .any base t v := hval0
  have hW0 := hW
  obtain ⟨p, q, hA0, hV, _, _, _⟩ := hW
  have hA : DataW.TrodAll enc Tryz.prog W 0 (fun _ => true) true Tryz.f5.params.toList args.toList ds p := hA0
  rw [Tryz.params5] at hA hval hsz
  obtain ⟨v0, vs0, d0, ds0, p0, q0, hargs, rfl, rfl, h0, r0⟩ := trodAll_cons hA
  obtain ⟨v1, vs1, d1, ds1, p1, q1, rfl, rfl, rfl, h1, r1⟩ := trodAll_cons r0
  obtain ⟨rfl, rfl, rfl⟩ := trodAll_nil r1
  obtain rfl : args = #[v0, v1] := by cases args; simp_all
  obtain ⟨s, rfl, rfl, rfl, s0⟩ := open_string Tryz.underlying9 (hval 0 9 v0 rfl rfl) h0
  have s63 : s.data.toList.length ≤ 9223372036854775807 := by rw [← Lib.size_eq]; unfold maxLen at s0; omega
  rw [← mk_of s]
  obtain ⟨fl, fin, f63, fbd⟩ := open_cll (okWide_slice Tryz.underlying22 (hval 1 22 v1 rfl rfl)) h1
  obtain ⟨rfl, rfl⟩ := trodVars_none hV
  refine (fplain_walk flang_ok hTb s63 fin f63 fbd).mono fun e W' ⟨he, hg⟩ => ?_
  subst he
  exact ⟨_, rfl, law_done (by kernel_rfl) rfl hW0 rfl (by rw [Tryz.params5]; decide +kernel) hg⟩

set_option maxRecDepth 100000 in
theorem flangPlain_over : Rows.flangPlainRow.holds Tryz.pinned (OpenSpec.ofChange Rows.flangPlainSpec) :=
  OpenClaim.holds_of_wide 5 Tryz.f5 rfl rfl rfl rfl rfl rfl rfl ⟨rfl, rfl, rfl, rfl, rfl⟩ rfl rfl rfl rfl rfl (by kernel_rfl) Tryz.func5 (by kernel_rfl)
    (of_decide_eq_true (by kernel_rfl)) (by unfold Func.isWrapper; first | (rw [if_pos (by decide +kernel)]; kernel_rfl) | (rw [if_neg (by decide +kernel)]; exact ⟨rfl, rfl⟩))
    (fun os started H enc _ => flangPlain_lifted os started H enc)

set_option maxRecDepth 100000 in
/-- The statement: the card, tied to the program's text. -/
theorem flangPlain_holds : Rows.FlangPlainCardSaid :=
  Claim7.holds_tied_plain_at .later [] [.data, .data, .data, .data, .sentinel, .sentinel, .pinned] true (true, "2671c26b3ad06fa5a849b7ed1bf9bfb42bf73980b98a4111658e8d5d79c293b3") true
    flangPlain_over (fun _ h => by cases h) (by kernel_rfl) (fun _ h => by cases h) flangPlain_row_tie rfl ⟨rfl, rfl⟩ (by kernel_rfl) rfl
    (fun f fn hf hfn => by
      obtain rfl : f = 5 := Option.some.inj ((show Tryz.prog.funcNamed "lighterage/lighteragelaw11.FlangPlain" = some 5 by kernel_rfl).symm.trans hf) |>.symm
      obtain rfl : fn = Tryz.f5 := (Option.some.inj (Tryz.func5.symm.trans hfn)).symm
      exact ⟨by kernel_rfl, fun j t ht => by
        rw [Tryz.params5] at ht
        have hm : t ∈ [9, 22] := by simpa using Array.mem_of_getElem? ht
        have hall : ([9, 22].all fun u => !Tryz.prog.wantsStandIn u) = true := by kernel_rfl
        exact (show Tryz.prog.wantsStandIn t = false by simpa using List.all_eq_true.1 hall t hm)⟩)
    (by kernel_rfl)
#print axioms flangPlain_holds
end Go.Proofs.YtabnfaonlkipbaaGreatDoor
