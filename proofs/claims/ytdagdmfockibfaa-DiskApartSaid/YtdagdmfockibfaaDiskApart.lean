/- A copy goes its own way; a nil disk is down: DiskApart's walk, out of what the package is to answer (DiskOk). -/
import Derived.Test.YtdagdmfockibfaaDiskDoes
namespace Go.Proofs.Ytdagdmfockibfaa
open Go.RowKit Dsk

/-- Two disks, each with the reference's beside it; the references share what they only read. -/
structure Pair (At : World → (Nat → Prop) → Value → D → Prop) (W : World) (v1 : Value) (b1 : Nat) (d1 : D) (v2 : Value) (b2 : Nat) (d2 : D) (w : World) : Prop where
  out : ∃ F1 G1 F2 G2, At w F1 v1 d1 ∧ RefIn w G1 b1 d1 ∧ At w F2 v2 d2 ∧ RefIn w G2 b2 d2 ∧ (∀ i, F1 i → ¬ G1 i ∧ ¬ F2 i ∧ ¬ G2 i ∧ W.heap.size ≤ i) ∧ (∀ i, F2 i → ¬ G1 i ∧ ¬ G2 i ∧ W.heap.size ≤ i) ∧ (∀ i, G1 i → W.heap.size ≤ i) ∧ (∀ i, G2 i → W.heap.size ≤ i) ∧ ¬ G1 b2 ∧ ¬ G2 b1
  bel : Below W.heap.size W w

section
variable {At : World → (Nat → Prop) → Value → D → Prop} {W w w' : World} {v1 v2 : Value} {b1 b2 : Nat} {d1 d2 : D}

theorem Pair.swap (h : Pair At W v1 b1 d1 v2 b2 d2 w) : Pair At W v2 b2 d2 v1 b1 d1 w := by
  obtain ⟨⟨F1, G1, F2, G2, h1, h2, h3, h4, h5, h6, h7, h8, h9, h10⟩, h11⟩ := h
  exact ⟨⟨F2, G2, F1, G1, h3, h4, h1, h2, fun i hi => ⟨(h6 i hi).2.1, fun hf => (h5 i hf).2.1 hi, (h6 i hi).1, (h6 i hi).2.2⟩, fun i hi => ⟨(h5 i hi).2.2.1, (h5 i hi).1, (h5 i hi).2.2.2⟩, h8, h7, h10, h9⟩, h11⟩

/-- A call on the first of them. -/
theorem Pair.left (H : DiskOk At) (h : Pair At W v1 b1 d1 v2 b2 d2 w) {fn : Nat} {args : Array Value} {P : Ending → Prop} {d1' : D}
    (hc : ∀ V Z Y, Half At W V Z Y v1 b1 d1 d1 w → Calls Try.prog fn args w fun e w' => P e ∧ Half At W V Z Y v1 b1 d1' d1' w') : Calls Try.prog fn args w fun e w' => P e ∧ Pair At W v1 b1 d1' v2 b2 d2 w' := by
  obtain ⟨⟨F1, G1, F2, G2, h1, h2, h3, h4, h5, h6, h7, h8, h9, h10⟩, h11⟩ := h
  have hh : Half At W w (fun k => F2 k ∨ G2 k) (fun k => F2 k ∨ k = b2) v1 b1 d1 d1 w := ⟨⟨F1, G1, h1, h2, fun i hi => (h5 i hi).1, fun i hi => ⟨(h5 i hi).2.2.2, fun hz => by
      rcases hz with hz | hz
      · exact (h5 i hi).2.1 hz
      · exact (h5 i hi).2.2.1 hz, fun hy => by
      rcases hy with hy | hy
      · exact (h5 i hi).2.1 hy
      · subst hy; exact (h5 i hi).2.2.1 h4.own⟩, fun i hi => ⟨h7 i hi, fun hy => by
      rcases hy with hy | hy
      · exact (h6 i hy).1 hi
      · subst hy; exact h9 hi⟩⟩, h11, fun i hi => by
      rcases hi with hi | hi
      · exact H.lt h3 i hi
      · exact h4.lt i hi, fun i hi => by
      rcases hi with hi | hi
      · exact H.lt h3 i hi
      · subst hi; exact h4.lt _ h4.own, fun hz => by
      rcases hz with hz | hz
      · exact (h6 b1 hz).1 h2.own
      · exact h10 hz, fun _ _ => rfl, Nat.le_refl _⟩
  refine (hc _ _ _ hh).mono fun e w' ⟨k1, k2⟩ => ⟨k1, ?_⟩
  obtain ⟨⟨F1', G1', m1, m2, m3, m4, m5⟩, m6, m7, m8, m9, m10, m11⟩ := k2
  have kk : Kept (fun k => ¬ (F2 k ∨ G2 k)) w w' := ⟨m6.os.trans h11.os.symm, m6.tape.trans h11.tape.symm, m6.output.trans h11.output.symm, m11, fun k _ hn => m10 k (Classical.not_not.1 hn)⟩
  refine ⟨⟨F1', G1', F2, G2, m1, m2, H.kept h3 kk (fun i hi hn => hn (Or.inl hi)), h4.kept kk (fun i hi hn => hn (Or.inr hi)), fun i hi => ⟨m3 i hi, fun hf => (m4 i hi).2.1 (Or.inl hf), fun hg => (m4 i hi).2.1 (Or.inr hg), (m4 i hi).1⟩, fun i hi => ⟨fun hg => (m5 i hg).2 (Or.inl hi), (h6 i hi).2.1, (h6 i hi).2.2⟩, fun i hi => (m5 i hi).1, h8, fun hg => (m5 b2 hg).2 (Or.inr rfl), h10⟩, m6⟩

/-- A copy, and a second reference that shares the first one's sectors. -/
theorem pair_start (H : DiskOk At) {v : Value} {b : Nat} {d : D} {N : Nat} (h : Sync At W v b d w) (hf : d.Fine N) (hN : N ≤ 1000) :
    Calls Try.prog 23 #[v] w fun e w' => ∃ u, e = .returned u ∧ Below W.heap.size W w' ∧ (∃ A c, RefBlk w' b (.slice A d.S.length c) d ∧
      ∀ w2, Below w'.heap.size w' w2 → ∀ b2, w'.heap.size ≤ b2 → RefBlk w2 b2 (.slice A d.S.length c) d → Pair At W v b d u b2 d w2) := by
  obtain ⟨⟨F, G, h1, h2, h3, h4, h5⟩, h6⟩ := h
  refine (H.copy h1 hf hN).mono ?_
  rintro e w' ⟨u, F1, F2, rfl, k1, k2, k3, k4, k5, k6⟩
  have r2 := h2.kept k6 (fun i hi hf => h3 i hf hi)
  obtain ⟨⟨sv, r3, r4⟩, r5, r6⟩ := r2
  obtain ⟨A, c, rfl⟩ := r4.form
  have hbw : b < w.heap.size := h2.lt b h2.own
  have hF1 : ∀ i, F1 i → ¬ G i ∧ W.heap.size ≤ i := fun i hi => by
    rcases k3 i hi with hi | hi
    · exact ⟨h3 i hi, h4 i hi⟩
    · exact ⟨fun hg => by have := h2.lt i hg; omega, Nat.le_trans h6.size hi.1⟩
  have hF2 : ∀ i, F2 i → ¬ G i ∧ W.heap.size ≤ i ∧ i < w'.heap.size := fun i hi => by
    have := k4 i hi
    exact ⟨fun hg => by have := h2.lt i hg; have := (k4 i hi).1; omega, Nat.le_trans h6.size this.1, this.2⟩
  refine ⟨u, rfl, kept_lower h6 k6 h4, A, c, r3, fun w2 hb2 b2 hlt hblk => ?_⟩
  have kf := Kept.ofBelow hb2 (fun _ => False)
  refine ⟨⟨F1, G, F2, fun i => (G i ∧ i ≠ b) ∨ i = b2, H.kept k1 kf (fun _ _ h => h), RefIn.kept ⟨⟨_, r3, r4⟩, r5, r6⟩ kf (fun _ _ h => h), H.kept k2 kf (fun _ _ h => h), ⟨⟨_, hblk, (r4.kept kf (fun _ _ h => h)).mono (fun i hi => ⟨Or.inl hi, fun e => by have := r6 i hi.1; omega⟩)⟩, Or.inr rfl, fun i hi => ?_⟩, fun i hi => ⟨(hF1 i hi).1, k5 i hi, fun hg => ?_, (hF1 i hi).2⟩, fun i hi => ⟨(hF2 i hi).1, fun hg => ?_, (hF2 i hi).2.1⟩, h5, fun i hi => ?_, fun hg => by have := h2.lt b2 hg; have := k6.size; omega, fun hg => ?_⟩, (kept_lower h6 k6 h4).trans (hb2.mono (by have := h6.size; have := k6.size; omega))⟩
  · rcases hi with hi | hi
    · exact Nat.lt_of_lt_of_le (r6 i hi.1) hb2.size
    · rw [hi]; exact Row.inHeap hblk
  · rcases hg with hg | hg
    · exact (hF1 i hi).1 hg.1
    · have := H.lt k1 i hi; omega
  · rcases hg with hg | hg
    · exact (hF2 i hi).1 hg.1
    · have := (hF2 i hi).2.2; omega
  · rcases hi with hi | hi
    · exact h5 i hi.1
    · have := h6.size; have := k6.size; omega
  · rcases hg with hg | hg
    · exact hg.2 rfl
    · have := k6.size; omega
end

section
variable {At : World → (Nat → Prop) → Value → D → Prop} {w : World}

set_option linter.unusedSimpArgs false in
set_option maxRecDepth 100000 in
set_option maxHeartbeats 6400000 in
theorem apart_walk (H : DiskOk At) (lA mA : Option Addr) (ln lc mn mc : Nat) (l m : List Ac) (w : World) (hlc : ln ≤ 9223372036854775807) (hl : ActsIn w lA ln l) (hmc : mn ≤ 9223372036854775807) (hm : ActsIn w mA mn m) :
    Calls Try.prog 5 #[.slice lA ln lc, .slice mA mn mc] w fun e w' => e = .returned (.bool true) ∧ Below w.heap.size w w' := by
  obtain ⟨hll, hok, hat⟩ := hl
  obtain ⟨hml, hmk, hmt⟩ := hm
  have hnew := Lib.hid (solo_new H 5 w (by decide) (by decide))
  have haw := fun W => disk_awake H W
  have Haw := Lib.hid haw
  have hrn := fun W => ref_new 5 (by decide) W
  have Hrn := Lib.hid hrn
  have HH := Lib.hid H
  have Hok := Lib.hid hok
  have Hat := Lib.hid hat
  have Hll := Lib.hid hll
  have Mok := Lib.hid hmk
  have Mat := Lib.hid hmt
  have Mll := Lib.hid hml
  have f0 := Lib.hid (Dsk.new_fine 5 (by decide))
  have hlc' : (ln : Int) ≤ 9223372036854775807 := by omega
  have hmc' : (mn : Int) ≤ 9223372036854775807 := by omega
  clear haw H hok hat hll hrn hmk hmt hml
  go_enter Try.func5, Try.ntmps5
  go_wp2_with fail
  refine hnew.out.mono ?_
  rintro e w1 ⟨p, rfl, hs1⟩
  have hs1 := Lib.hid hs1
  go_wp2_with fail
  refine (Haw.out w1).mono ?_
  rintro e w3 ⟨rfl, hb3⟩
  have hs3 := Lib.hid (hs1.out.below HH.out hb3).1
  clear hb3
  go_wp2_with fail
  refine (Hrn.out w3).mono ?_
  rintro e w4 ⟨x, rfl, hx4, hb4⟩
  obtain ⟨b, rfl, hsy⟩ := solo_sync HH.out hs3.out hb4 hx4
  clear hx4 hb4
  have h0 : ∃ d, d.Fine 0 ∧ Sync At w (.pointer (some p)) b d w4 := ⟨_, f0.out, hsy⟩
  clear hsy
  go_wp2_with fail
  go_loopw [8] (fun i wr => ∃ k : Nat, k ≤ ln ∧ k ≤ 30 ∧ i = .int .i64 (k : Int) ∧ ∃ d, d.Fine k ∧ Sync At w (.pointer (some p)) b d wr) (fun i _ => 30 - (intOf i).toNat)
  case atStart => exact ⟨0, Nat.zero_le _, Nat.zero_le _, rfl, h0⟩
  case round =>
    obtain ⟨k, hk1, hk2, rfl, d, hf, hsy⟩ := hrel
    clear h0
    by_cases hlt : k < ln ∧ k < 30
    · obtain ⟨q1, q2⟩ := hlt
      obtain ⟨lb, lo, rfl, hlb, hcells⟩ := Hat.out (by omega)
      have hkl : k < l.length := by rw [Hll.out]; exact q1
      obtain ⟨a, ha⟩ : ∃ a, l[k]? = some a := ⟨_, List.getElem?_eq_getElem hkl⟩
      have hao := Hok.out a (List.mem_of_getElem? ha)
      obtain ⟨g0, g1, g2, g3, g4⟩ := hcells k a ha
      have e0 : wr.cell? ⟨lb, lo + k * 5, none⟩ = some (.int .i64 a.kind) := (hsy.bel.cell (p := ⟨lb, lo + k * 5, none⟩) hlb).trans g0
      have e1 : wr.cell? ⟨lb, lo + k * 5 + 1, none⟩ = some (.int .i64 a.i) := (hsy.bel.cell (p := ⟨lb, lo + k * 5 + 1, none⟩) hlb).trans g1
      have e2 : wr.cell? ⟨lb, lo + k * 5 + 2, none⟩ = some (.int .i64 a.n) := (hsy.bel.cell (p := ⟨lb, lo + k * 5 + 2, none⟩) hlb).trans g2
      have e3 : wr.cell? ⟨lb, lo + k * 5 + 3, none⟩ = some (.string a.s) := (hsy.bel.cell (p := ⟨lb, lo + k * 5 + 3, none⟩) hlb).trans g3
      have e4 : wr.cell? ⟨lb, lo + k * 5 + 4, none⟩ = some (.slice a.kA a.kn a.kc) := (hsy.bel.cell (p := ⟨lb, lo + k * 5 + 4, none⟩) hlb).trans g4
      have hb1 : decide (k < ln) = true := by simpa using q1
      have hb2 : decide ((k : Int) < 30) = true := by simp; omega
      have hb0 : (0 : Int) ≤ (k : Int) := by omega
      have hb4 : (k : Int) < (ln : Int) := by omega
      have C6 : Hid (Calls Try.prog 10 #[.pointer (some p), .pointer (some ⟨b, 0, none⟩), .agg #[.int .i64 a.kind, .int .i64 a.i, .int .i64 a.n, .string a.s, .slice a.kA a.kn a.kc]] wr fun e w' => e = .returned (.bool true) ∧ ∃ d, d.Fine (k + 1) ∧ Sync At w (.pointer (some p)) b d w') := Lib.hid ((do_any HH.out hsy.half hf (by omega) hao).mono fun e w' ⟨k1, k2⟩ => ⟨k1, _, act_fine hao hf, k2.sync⟩)
      have Q := Lib.hid (And.intro q1 q2)
      clear ha hao hf hsy hcells q1 q2 hkl g0 g1 g2 g3 g4
      go_wp2_with fail
      refine C6.out.mono ?_
      rintro e w5 ⟨rfl, hnext⟩
      have hnext := Lib.hid hnext
      go_wp2_with fail
      obtain ⟨q1, q2⟩ := Q.out
      refine ⟨⟨k + 1, by omega, by omega, rfl, hnext.out⟩, ?_⟩
      show 30 - ((k : Int) + 1).toNat < 30 - (k : Int).toNat
      omega
    · have C1 := Lib.hid (pair_start HH.out hsy hf (by omega))
      have hf30 : Hid (d.Fine 30) := Lib.hid (hf.mono hk2)
      have hcond : (decide (k < ln) = false) ∨ (decide (k < ln) = true ∧ decide ((k : Int) < 30) = false) := by
        by_cases q : k < ln
        · right
          exact ⟨by simpa using q, by simp; omega⟩
        · left
          simpa using q
      clear hsy hlt hf
      rcases hcond with hb1 | ⟨hb1, hb2⟩
      all_goals
        go_wp2_with fail
        refine C1.out.mono ?_
        rintro e w5 ⟨u, rfl, hbel5, sA, sc, hblk, hpair⟩
        obtain ⟨d2, hd2⟩ : ∃ d2, d2 = d := ⟨_, rfl⟩
        rw [← hd2] at hblk hpair hf30
        have Hblk := Lib.hid hblk
        have Hpair := Lib.hid hpair
        clear hd2 hblk hpair C1 hbel5
        go_wp2_with fail
        refine wp_region_held_drew (S := fun w' => RefBlk w' b (.slice sA d2.S.length sc) d2) (by kernel_rfl) (Row.behindDraw Hblk.out) (fun hHeld => ?_)
        refine wpAnyH_take (i := 0) (v := ?_) rfl (by kernel_rfl) (by kernel_rfl) (by kernel_rfl) (fun _ _ _ h => h) (Or.inl ⟨by rfl, (by intro w hSw; go_simp; try with_reducible rfl)⟩) (by assumption) ?_
        simp only [Act.put, List.getElem_toArray, List.getElem_cons_zero, List.getElem_cons_succ, List.setIfInBounds_toArray, List.set_cons_zero, List.set_cons_succ]
        refine wpAnyH_take (i := 1) (v := ?_) rfl (by kernel_rfl) (by kernel_rfl) (by kernel_rfl) (fun _ _ _ h => h) (Or.inl ⟨by rfl, (by intro w hSw; go_simp; try with_reducible rfl)⟩) (by assumption) ?_
        simp only [Act.put, List.getElem_toArray, List.getElem_cons_zero, List.getElem_cons_succ, List.setIfInBounds_toArray, List.set_cons_zero, List.set_cons_succ]
        refine wpAnyH_take (i := 2) (v := ?_) rfl (by kernel_rfl) (by kernel_rfl) (by kernel_rfl) (fun _ _ _ h => h) (Or.inl ⟨by rfl, (by intro w hSw; go_simp; try with_reducible rfl)⟩) (by assumption) ?_
        simp only [Act.put, List.getElem_toArray, List.getElem_cons_zero, List.getElem_cons_succ, List.setIfInBounds_toArray, List.set_cons_zero, List.set_cons_succ]
        refine wpAnyH_take (i := 3) (v := ?_) rfl (by kernel_rfl) (by kernel_rfl) (by kernel_rfl) (fun _ _ _ h => h) (Or.inl ⟨by rfl, (by intro w hSw; have c0 := hSw.facts.1; go_simp; try with_reducible rfl)⟩) (by assumption) ?_
        simp only [Act.put, List.getElem_toArray, List.getElem_cons_zero, List.getElem_cons_succ, List.setIfInBounds_toArray, List.set_cons_zero, List.set_cons_succ]
        refine wpAnyH_take (i := 4) (v := ?_) rfl (by kernel_rfl) (by kernel_rfl) (by kernel_rfl) (fun _ _ _ h => h) (Or.inl ⟨by rfl, (by intro w hSw; go_simp; try with_reducible rfl)⟩) (by assumption) ?_
        simp only [Act.put, List.getElem_toArray, List.getElem_cons_zero, List.getElem_cons_succ, List.setIfInBounds_toArray, List.set_cons_zero, List.set_cons_succ]
        refine wpAnyH_take (i := 5) (v := ?_) rfl (by kernel_rfl) (by kernel_rfl) (by kernel_rfl) (fun _ _ _ h => h) (Or.inl ⟨by rfl, (by intro w hSw; go_simp; try with_reducible rfl)⟩) (by assumption) ?_
        simp only [Act.put, List.getElem_toArray, List.getElem_cons_zero, List.getElem_cons_succ, List.setIfInBounds_toArray, List.set_cons_zero, List.set_cons_succ]
        refine wpAnyH_take (i := 6) (v := ?_) rfl (by kernel_rfl) (by kernel_rfl) (by kernel_rfl) (fun _ _ _ h => h) (Or.inl ⟨by rfl, (by intro w hSw; go_simp; try with_reducible rfl)⟩) (by assumption) ?_
        simp only [Act.put, List.getElem_toArray, List.getElem_cons_zero, List.getElem_cons_succ, List.setIfInBounds_toArray, List.set_cons_zero, List.set_cons_succ]
        refine wpAnyH_take (i := 7) (v := ?_) rfl (by kernel_rfl) (by kernel_rfl) (by kernel_rfl) (fun _ _ _ h => h) (Or.inl ⟨by rfl, (by intro w hSw; have c1 := hSw.facts.2.1; go_simp; try with_reducible rfl)⟩) (by assumption) ?_
        simp only [Act.put, List.getElem_toArray, List.getElem_cons_zero, List.getElem_cons_succ, List.setIfInBounds_toArray, List.set_cons_zero, List.set_cons_succ]
        refine wpAnyH_take (i := 8) (v := ?_) rfl (by kernel_rfl) (by kernel_rfl) (by kernel_rfl) (fun _ _ _ h => h) (Or.inl ⟨by rfl, (by intro w hSw; go_simp; try with_reducible rfl)⟩) (by assumption) ?_
        simp only [Act.put, List.getElem_toArray, List.getElem_cons_zero, List.getElem_cons_succ, List.setIfInBounds_toArray, List.set_cons_zero, List.set_cons_succ]
        refine wpAnyH_take (i := 9) (v := ?_) rfl (by kernel_rfl) (by kernel_rfl) (by kernel_rfl) (fun _ _ _ h => h) (Or.inl ⟨by rfl, (by intro w hSw; go_simp; try with_reducible rfl)⟩) (by assumption) ?_
        simp only [Act.put, List.getElem_toArray, List.getElem_cons_zero, List.getElem_cons_succ, List.setIfInBounds_toArray, List.set_cons_zero, List.set_cons_succ]
        refine wpAnyH_take (i := 10) (v := ?_) rfl (by kernel_rfl) (by kernel_rfl) (by kernel_rfl) (fun _ _ _ h => h) (Or.inl ⟨by rfl, (by intro w hSw; go_simp; try with_reducible rfl)⟩) (by assumption) ?_
        simp only [Act.put, List.getElem_toArray, List.getElem_cons_zero, List.getElem_cons_succ, List.setIfInBounds_toArray, List.set_cons_zero, List.set_cons_succ]
        refine wpAnyH_take (i := 11) (v := ?_) rfl (by kernel_rfl) (by kernel_rfl) (by kernel_rfl) (fun _ _ _ h => h) (Or.inl ⟨by rfl, (by intro w hSw; have c2 := hSw.facts.2.2.1; go_simp; try with_reducible rfl)⟩) (by assumption) ?_
        simp only [Act.put, List.getElem_toArray, List.getElem_cons_zero, List.getElem_cons_succ, List.setIfInBounds_toArray, List.set_cons_zero, List.set_cons_succ]
        refine wpAnyH_take (i := 12) (v := ?_) rfl (by kernel_rfl) (by kernel_rfl) (by kernel_rfl) (fun _ _ _ h => h) (Or.inl ⟨by rfl, (by intro w hSw; go_simp; try with_reducible rfl)⟩) (by assumption) ?_
        simp only [Act.put, List.getElem_toArray, List.getElem_cons_zero, List.getElem_cons_succ, List.setIfInBounds_toArray, List.set_cons_zero, List.set_cons_succ]
        refine wpAnyH_take (i := 13) (v := ?_) rfl (by kernel_rfl) (by kernel_rfl) (by kernel_rfl) (fun _ _ _ h => h) (Or.inl ⟨by rfl, (by intro w hSw; go_simp; try with_reducible rfl)⟩) (by assumption) ?_
        simp only [Act.put, List.getElem_toArray, List.getElem_cons_zero, List.getElem_cons_succ, List.setIfInBounds_toArray, List.set_cons_zero, List.set_cons_succ]
        refine wpAnyH_take (i := 14) (v := ?_) rfl (by kernel_rfl) (by kernel_rfl) (by kernel_rfl) (fun _ _ _ h => h) (Or.inl ⟨by rfl, (by intro w hSw; go_simp; try with_reducible rfl)⟩) (by assumption) ?_
        simp only [Act.put, List.getElem_toArray, List.getElem_cons_zero, List.getElem_cons_succ, List.setIfInBounds_toArray, List.set_cons_zero, List.set_cons_succ]
        refine wpAnyH_take (i := 15) (v := ?_) rfl (by kernel_rfl) (by kernel_rfl) (by kernel_rfl) (fun _ _ _ h => h) (Or.inl ⟨by rfl, (by intro w hSw; have c3 := hSw.facts.2.2.2.1; go_simp; try with_reducible rfl)⟩) (by assumption) ?_
        simp only [Act.put, List.getElem_toArray, List.getElem_cons_zero, List.getElem_cons_succ, List.setIfInBounds_toArray, List.set_cons_zero, List.set_cons_succ]
        refine wpAnyH_take (i := 16) (v := ?_) rfl (by kernel_rfl) (by kernel_rfl) (by kernel_rfl) (fun _ _ _ h => h) (Or.inl ⟨by rfl, (by intro w hSw; go_simp; try with_reducible rfl)⟩) (by assumption) ?_
        simp only [Act.put, List.getElem_toArray, List.getElem_cons_zero, List.getElem_cons_succ, List.setIfInBounds_toArray, List.set_cons_zero, List.set_cons_succ]
        refine wpAnyH_ready (rs := [17]) (by kernel_rfl) (by simp) ?_
        refine AllReadyH.cons rfl (fun K hK => ?_) AllReadyH.nil
        go_simp
        refine hK.out _ _ (Row.behindNew hHeld _) (fun hHeld => ?_)
        clear hK K
        refine wpAnyH_take (i := 18) (v := ?_) rfl (by kernel_rfl) (by kernel_rfl) (by kernel_rfl) (fun _ _ _ h => h) (Or.inl ⟨by rfl, (by intro w hSw; go_simp; try with_reducible rfl)⟩) (by assumption) ?_
        simp only [Act.put, List.getElem_toArray, List.getElem_cons_zero, List.getElem_cons_succ, List.setIfInBounds_toArray, List.set_cons_zero, List.set_cons_succ]
        refine wpAnyH_done (by kernel_rfl) ?_ _
        have h0 : ∃ e1 e2 : D, e1.Fine 30 ∧ e2.Fine 30 ∧ Pair At w (.pointer (some p)) b e1 u w5.heap.size e2 (w5.alloc (.cells #[.slice sA d2.S.length sc, .int .i64 (d2.calls : Int), .int .i64 (d2.armed : Int), .bool d2.down] 37)).drew :=
          ⟨d2, d2, hf30.out, hf30.out, Hpair.out _ (((Below.refl _ w5).alloc (Nat.le_refl _) _).drew) _ (Nat.le_refl _) (Row.behindDraw (Row.made w5 _ _))⟩
        generalize (w5.alloc (.cells #[.slice sA d2.S.length sc, .int .i64 (d2.calls : Int), .int .i64 (d2.armed : Int), .bool d2.down] 37)).drew = w6 at *
        obtain ⟨b2, hb2'⟩ : ∃ b2, b2 = w5.heap.size := ⟨_, rfl⟩
        rw [← hb2'] at h0
        simp only [← hb2']
        clear Hpair Hblk hHeld hb2'
        go_wp2_with fail
        go_loopw [11] (fun i wr => ∃ k : Nat, k ≤ mn ∧ k ≤ 30 ∧ i = .int .i64 (k : Int) ∧ ∃ e1 e2 : D, e1.Fine (30 + k) ∧ e2.Fine (30 + k) ∧ Pair At w (.pointer (some p)) b e1 u b2 e2 wr) (fun i _ => 30 - (intOf i).toNat)
        case atStart => exact ⟨0, Nat.zero_le _, Nat.zero_le _, rfl, h0⟩
        case round =>
          obtain ⟨k, hk1, hk2, rfl, e1', e2', hf1, hf2, hpp⟩ := hrel
          clear h0
          by_cases hlt : k < mn ∧ k < 30
          · obtain ⟨q1, q2⟩ := hlt
            obtain ⟨lb, lo, rfl, hlb, hcells⟩ := Mat.out (by omega)
            have hkl : k < m.length := by rw [Mll.out]; exact q1
            obtain ⟨a, ha⟩ : ∃ a, m[k]? = some a := ⟨_, List.getElem?_eq_getElem hkl⟩
            have hao := Mok.out a (List.mem_of_getElem? ha)
            obtain ⟨g0, g1, g2, g3, g4⟩ := hcells k a ha
            have e0 : wr.cell? ⟨lb, lo + k * 5, none⟩ = some (.int .i64 a.kind) := (hpp.bel.cell (p := ⟨lb, lo + k * 5, none⟩) hlb).trans g0
            have e1 : wr.cell? ⟨lb, lo + k * 5 + 1, none⟩ = some (.int .i64 a.i) := (hpp.bel.cell (p := ⟨lb, lo + k * 5 + 1, none⟩) hlb).trans g1
            have e2 : wr.cell? ⟨lb, lo + k * 5 + 2, none⟩ = some (.int .i64 a.n) := (hpp.bel.cell (p := ⟨lb, lo + k * 5 + 2, none⟩) hlb).trans g2
            have e3 : wr.cell? ⟨lb, lo + k * 5 + 3, none⟩ = some (.string a.s) := (hpp.bel.cell (p := ⟨lb, lo + k * 5 + 3, none⟩) hlb).trans g3
            have e4 : wr.cell? ⟨lb, lo + k * 5 + 4, none⟩ = some (.slice a.kA a.kn a.kc) := (hpp.bel.cell (p := ⟨lb, lo + k * 5 + 4, none⟩) hlb).trans g4
            have hb1 : decide (k < mn) = true := by simpa using q1
            have hb2 : decide ((k : Int) < 30) = true := by simp; omega
            have hb0 : (0 : Int) ≤ (k : Int) := by omega
            have hb4 : (k : Int) < (mn : Int) := by omega
            have Q := Lib.hid (And.intro q1 q2)
            have CL : Hid (Calls Try.prog 10 #[.pointer (some p), .pointer (some ⟨b, 0, none⟩), .agg #[.int .i64 a.kind, .int .i64 a.i, .int .i64 a.n, .string a.s, .slice a.kA a.kn a.kc]] wr fun e w' => e = .returned (.bool true) ∧ ∃ f1 f2 : D, f1.Fine (30 + (k + 1)) ∧ f2.Fine (30 + (k + 1)) ∧ Pair At w (.pointer (some p)) b f1 u b2 f2 w') :=
              Lib.hid ((hpp.left HH.out (fun V Z Y h => do_any HH.out h hf1 (by omega) hao)).mono fun e w' ⟨k1, k2⟩ => ⟨k1, _, _, act_fine hao hf1, hf2.mono (by omega), k2⟩)
            have CR : Hid (Calls Try.prog 10 #[u, .pointer (some ⟨b2, 0, none⟩), .agg #[.int .i64 a.kind, .int .i64 a.i, .int .i64 a.n, .string a.s, .slice a.kA a.kn a.kc]] wr fun e w' => e = .returned (.bool true) ∧ ∃ f1 f2 : D, f1.Fine (30 + (k + 1)) ∧ f2.Fine (30 + (k + 1)) ∧ Pair At w (.pointer (some p)) b f1 u b2 f2 w') :=
              Lib.hid ((hpp.swap.left HH.out (fun V Z Y h => do_any HH.out h hf2 (by omega) hao)).mono fun e w' ⟨k1, k2⟩ => ⟨k1, _, _, hf1.mono (by omega), act_fine hao hf2, k2.swap⟩)
            clear ha hao hf1 hf2 hpp hcells q1 q2 hkl g0 g1 g2 g3 g4
            by_cases hpar : k % 2 = 0
            · have p1 : (((k : Int) % 2) == 0) = true := by rw [beq_iff_eq]; omega
              have p2 : (((k : Int) % 2) == 1) = false := by rw [beq_eq_false_iff_ne]; omega
              clear hpar
              go_wp2_with fail
              refine CL.out.mono ?_
              rintro e w7 ⟨rfl, hnext⟩
              have hnext := Lib.hid hnext
              go_wp2_with fail
              obtain ⟨q1, q2⟩ := Q.out
              refine ⟨⟨k + 1, by omega, by omega, rfl, hnext.out⟩, ?_⟩
              show 30 - ((k : Int) + 1).toNat < 30 - (k : Int).toNat
              omega
            · have p1 : (((k : Int) % 2) == 0) = false := by rw [beq_eq_false_iff_ne]; omega
              have p2 : (((k : Int) % 2) == 1) = true := by rw [beq_iff_eq]; omega
              clear hpar
              go_wp2_with fail
              refine CR.out.mono ?_
              rintro e w7 ⟨rfl, hnext⟩
              have hnext := Lib.hid hnext
              go_wp2_with fail
              obtain ⟨q1, q2⟩ := Q.out
              refine ⟨⟨k + 1, by omega, by omega, rfl, hnext.out⟩, ?_⟩
              show 30 - ((k : Int) + 1).toNat < 30 - (k : Int).toNat
              omega
          · have hbel := Lib.hid hpp.bel
            have hcond2 : (decide (k < mn) = false) ∨ (decide (k < mn) = true ∧ decide ((k : Int) < 30) = false) := by
              by_cases q : k < mn
              · right
                exact ⟨by simpa using q, by simp; omega⟩
              · left
                simpa using q
            clear hpp hlt hf1 hf2
            rcases hcond2 with hm1 | ⟨hm1, hm2⟩
            all_goals
              go_wp2_with fail
              refine (HH.out.none_arm _ _).mono ?_
              rintro e wa ⟨rfl, ha⟩
              have ha := Lib.hid (hbel.out.trans (ha.mono hbel.out.size))
              go_wp2_with fail
              refine (HH.out.none_crash _ _).mono ?_
              rintro e wb ⟨rfl, hb⟩
              have hb := Lib.hid ((ha.out.alloc ha.out.size _).trans (hb.mono (by have := ha.out.size; simp; omega)))
              go_wp2_with fail
              refine (HH.out.none_read _ _).mono ?_
              rintro e wc ⟨rfl, hc⟩
              have hc := Lib.hid (hb.out.trans (hc.mono hb.out.size))
              go_wp2_with fail
              refine (HH.out.none_write _ _ _).mono ?_
              rintro e wd ⟨rfl, hd⟩
              have hd := Lib.hid (hc.out.trans (hd.mono hc.out.size))
              go_wp2_with fail
              refine (HH.out.none_flush _).mono ?_
              rintro e we ⟨rfl, he⟩
              have he := Lib.hid (hd.out.trans (he.mono hd.out.size))
              go_wp2_with fail
              refine (HH.out.none_down _).mono ?_
              rintro e wf ⟨rfl, hf⟩
              have hf := Lib.hid (he.out.trans (hf.mono he.out.size))
              go_wp2_with fail
              refine (HH.out.none_len _).mono ?_
              rintro e wg ⟨rfl, hg⟩
              have hg := Lib.hid (hf.out.trans (hg.mono hf.out.size))
              go_wp2_with fail
              refine (HH.out.none_calls _).mono ?_
              rintro e wh ⟨rfl, hh⟩
              have hh := Lib.hid (hg.out.trans (hh.mono hg.out.size))
              go_wp2_with fail
              refine (HH.out.none_dirty _).mono ?_
              rintro e wi ⟨dA, dc, rfl, hi⟩
              have hi := Lib.hid (hh.out.trans (hi.mono hh.out.size))
              go_wp2_with fail
              refine (HH.out.none_copy _).mono ?_
              rintro e wj ⟨rfl, hj⟩
              have hj := Lib.hid (hi.out.trans (hj.mono hi.out.size))
              go_wp2_with fail
              go_ret
              exact ⟨rfl, hj.out⟩
end
end Go.Proofs.Ytdagdmfockibfaa
