/- The document's own answer of layer 3: a crash. -/
import Derived.Test.YtdagdmfockibfaaDiskRef6
namespace Go.Proofs.Ytdagdmfockibfaa
open Go.RowKit Dsk

theorem nats_at {L : List Nat} {i a : Nat} (h : L[i]? = some a) : (nats L)[i]? = some (.int .i64 (a : Int)) := by
  unfold nats
  rw [List.getElem?_map, h]; rfl

/-- At the head of round i. -/
def CrashAt (w1 : World) (b : Nat) (F : Nat → Prop) (ks : List Int) (L : List Nat) (d : D) (i : Nat) (wr : World) : Prop :=
  ∃ sv, RefBlk wr b sv ⟨crashOn ks (L.take i) 0 d.S, d.calls, d.armed, d.down⟩ ∧ PiecesAt wr (Grow F w1 wr) sv (crashOn ks (L.take i) 0 d.S) ∧ w1.grownBy wr (some b)

set_option linter.unusedSimpArgs false in
set_option maxRecDepth 100000 in
set_option maxHeartbeats 6400000 in
theorem ref_crash {w : World} {b : Nat} {F G : Nat → Prop} {sv kv : Value} {d : D} {ks : List Int} (h : RefBlk w b sv d) (hS : PiecesAt w F sv d.S) (hFb : ¬ F b) (hFl : ∀ k, F k → k < w.heap.size) (hlen : d.S.length ≤ 4096)
    (heach : ∀ l ∈ d.S, 1 ≤ l.length ∧ l.length ≤ 1000000 + 1) (hkv : Cells w G kv (ks.map (Value.int .i64))) (hGb : ¬ G b) (hkb : ∀ x ∈ ks, -9223372036854775808 ≤ x ∧ x ≤ 9223372036854775807) (hkl : ks.length ≤ 9223372036854775807) :
    Calls Try.prog 17 #[.pointer (some ⟨b, 0, none⟩), kv] w fun e w' => e = .returned (.tuple #[]) ∧ ∃ v, RefBlk w' b v (d.crash ks) ∧ PiecesAt w' (Grow F w w') v (d.crash ks).S ∧ w.grownBy w' (some b) := by
  have hbw : b < w.heap.size := Row.inHeap h
  have Hdirty := Lib.hid (ref_dirty h hS hlen heach)
  have Hh := Lib.hid (And.intro h hS)
  obtain ⟨kA, kc, rfl, hkc, hkat⟩ := hkv
  rw [List.length_map] at hkc hkat
  rw [List.length_map]
  have Hkat := Lib.hid hkat
  have Hkb := Lib.hid hkb
  have hkl' : (ks.length : Int) ≤ 9223372036854775807 := by omega
  obtain ⟨L, hL⟩ : ∃ L, L = d.dirty := ⟨_, rfl⟩
  have hLl : L.length ≤ 4096 := by rw [hL]; exact Nat.le_trans (dirtyFrom_len _ _) hlen
  have hLm : Hid (∀ a ∈ L, a < d.S.length) := Lib.hid (fun a ha => by
    rw [hL] at ha
    obtain ⟨_, l, hl, _⟩ := dirtyFrom_mem d.S 0 a ha
    exact (List.getElem?_eq_some_iff.1 hl).1)
  rw [← hL] at Hdirty
  have Hlen := Lib.hid hlen
  have Heach := Lib.hid heach
  have HL := Lib.hid hL
  clear h hS hkat hkb heach hlen hL hkl
  go_enter Try.func17, Try.ntmps17
  go_wp2_with fail
  trace_state
  refine Hdirty.out.mono ?_
  rintro e w1 ⟨lv, rfl, hown1, hbel1⟩
  go_wp2_with fail
  have hlv : Cells w1 (fun j => w.heap.size ≤ j) lv (nats L) := Cells.ofOwn hown1 (fun _ _ h _ => h)
  obtain ⟨lA, lc, rfl, hlc0, hlat⟩ := hlv
  have hnl : (nats L).length = L.length := by unfold nats; rw [List.length_map]
  rw [hnl] at hlc0 hlat ⊢
  have Hlat := Lib.hid hlat
  have h0 : CrashAt w1 b F ks L d 0 w1 := by
    refine ⟨sv, ?_, ?_, gb_refl _ _⟩
    · exact Row.below Hh.out.1 hbel1 hbw
    · exact ((Hh.out.2).kept (Kept.ofBelow hbel1 (fun _ => False)) (fun _ _ h => h)).mono (fun _ h => Or.inl h)
  have hLl' : (L.length : Int) ≤ 4096 := by omega
  have Hbel1 := Lib.hid hbel1
  have HFl : Hid (∀ k, F k → k < w1.heap.size) := Lib.hid (fun k hk => Nat.lt_of_lt_of_le (hFl k hk) hbel1.size)
  have hfinal : Hid (∀ wr, CrashAt w1 b F ks L d L.length wr → ∃ v, RefBlk ((wr.setCell ⟨b, 3, none⟩ (.bool false)).setCell ⟨b, 2, none⟩ (.int .i64 0)) b v (d.crash ks) ∧
      PiecesAt ((wr.setCell ⟨b, 3, none⟩ (.bool false)).setCell ⟨b, 2, none⟩ (.int .i64 0)) (Grow F w ((wr.setCell ⟨b, 3, none⟩ (.bool false)).setCell ⟨b, 2, none⟩ (.int .i64 0))) v (d.crash ks).S ∧
      w.grownBy ((wr.setCell ⟨b, 3, none⟩ (.bool false)).setCell ⟨b, 2, none⟩ (.int .i64 0)) (some b)) := Lib.hid (fun wr hr => by
    obtain ⟨v, h1, h2, h3⟩ := hr
    rw [List.take_length] at h1 h2
    have e : (d.crash ks).S = crashOn ks L 0 d.S := by rw [HL.out]; rfl
    refine ⟨v, ?_, ?_, gb_store (gb_store (gb_trans (gb_below Hbel1.out _) h3) 3 _) 2 _⟩
    · have := (Row.stored h1 3 (.bool false)).stored 2 (.int .i64 0)
      unfold RefBlk
      rw [show (d.crash ks).calls = d.calls from rfl, show (d.crash ks).armed = 0 from rfl, show (d.crash ks).down = false from rfl]
      exact this
    · rw [e]
      refine (h2.kept (G := fun k => k = b) (((Kept.refl (fun k => k = b) wr).stored (p := ⟨b, 3, none⟩) (Or.inl rfl) _).stored (p := ⟨b, 2, none⟩) (Or.inl rfl) _) (fun i hi e => ?_)).mono (fun i hi => (hi.later Hbel1.out.size).within (by simp [World.setCell]))
      subst e
      rcases hi with hi | hi
      · exact hFb hi
      · have := Hbel1.out.size; omega)
  have hbw1 : b < w1.heap.size := Nat.lt_of_lt_of_le hbw hbel1.size
  clear hown1 hbel1 hlat hnl
  go_loopw [5] (fun x wr => ∃ i : Nat, i ≤ L.length ∧ x = .int .i64 (i : Int) ∧ CrashAt w1 b F ks L d i wr) (fun x _ => L.length - (intOf x).toNat)
  case atStart => exact ⟨0, Nat.zero_le _, rfl, h0⟩
  case round =>
    obtain ⟨i, hi, rfl, sv', hrb, hrp, hrg⟩ := hrel
    clear h0
    by_cases hlt : i < L.length
    · obtain ⟨at0, ha⟩ : ∃ a, L[i]? = some a := ⟨_, List.getElem?_eq_getElem hlt⟩
      have hal := hLm.out at0 (List.mem_of_getElem? ha)
      obtain ⟨Si, hSi⟩ : ∃ Si, Si = crashOn ks (L.take i) 0 d.S := ⟨_, rfl⟩
      rw [← hSi] at hrb hrp
      have hSl : Si.length = d.S.length := by rw [hSi, crashOn_len]
      have hSe : ∀ l ∈ Si, 1 ≤ l.length ∧ l.length ≤ 1000000 + 1 := by rw [hSi]; exact crashOn_each ks 1000000 _ _ _ Heach.out
      obtain ⟨l, hl⟩ : ∃ l, Si[at0]? = some l := ⟨_, List.getElem?_eq_getElem (by omega)⟩
      obtain ⟨p1, p2⟩ := hSe l (List.mem_of_getElem? hl)
      have hsn : crashOn ks (L.take (i + 1)) 0 d.S = Si.set at0 [pick l (ks.getD i 0)] := by
        obtain ⟨hil, he⟩ := List.getElem?_eq_some_iff.1 ha
        rw [List.take_succ_eq_append_getElem hil, he, crashOn_snoc, ← hSi, List.length_take, Nat.min_eq_left (by omega), Nat.zero_add]
        congr 3
        rw [List.getD_eq_getElem?_getD, hl]; rfl
      obtain ⟨b1, o1, svc, b2, o2, cap2, rfl, -, -, hcs, hcap2, hF2, hb2, hb1, ht⟩ := hrp.sector hl p1
      obtain ⟨lb, lo, rfl, hlb0, hlb1, hlc1⟩ := Hlat.out (by omega)
      have hlc : wr.cell? ⟨lb, lo + i, none⟩ = some (.int .i64 (at0 : Int)) :=
        (hrg.cell_far ⟨lb, lo + i, none⟩ hlb1 (fun e => by injection e with e; have e : lb = b := e; have hlb0 : w.heap.size ≤ lb := hlb0; omega)).trans (hlc1 i _ (nats_at ha))
      have hlb : lb < wr.heap.size := Nat.lt_of_lt_of_le hlb1 hrg.size
      obtain ⟨dk, hdk⟩ : ∃ dk : D, dk = ⟨Si, d.calls, d.armed, d.down⟩ := ⟨_, rfl⟩
      have hdS : Hid (dk.S = Si) := Lib.hid (by rw [hdk])
      have Hst0 : Hid (St wr b (Grow F w1 wr) (.slice (some ⟨b1, o1, none⟩) Si.length svc) dk wr) := Lib.hid (by rw [hdk]; exact St.start hrb hrp)
      have Hst : Hid (St wr b (Grow F w1 wr) (.slice (some ⟨b1, o1, none⟩) Si.length svc) dk wr.drew) := Lib.hid Hst0.out.drew
      have Hzw : Hid (w.heap.size ≤ wr.heap.size) := Lib.hid (Nat.le_trans Hbel1.out.size hrg.size)
      have Hrg := Lib.hid hrg
      have next : Hid (∀ w5 v5, St wr b (Grow F w1 wr) (.slice (some ⟨b1, o1, none⟩) Si.length svc) dk w5 → PiecesAt w5 (Grow (Grow F w1 wr) wr w5) v5 (dk.S.set at0 [pick l (ks.getD i 0)]) → CrashAt w1 b F ks L d (i + 1) (w5.setCell ⟨b, 0, none⟩ v5)) := Lib.hid (fun w5 v5 h1 h2 => by
        rw [hdk] at h2
        have h2 : PiecesAt w5 (Grow (Grow F w1 wr) wr w5) v5 (Si.set at0 [pick l (ks.getD i 0)]) := h2
        rw [← hsn] at h2
        have h3 := Row.stored h1.blk 0 v5
        rw [hdk] at h3
        refine ⟨v5, h3, ?_, gb_store (gb_trans hrg (gb_below h1.bel _)) 0 v5⟩
        refine (h2.kept (G := fun k => k = b) ((Kept.refl (fun k => k = b) w5).stored (p := ⟨b, 0, none⟩) (Or.inl rfl) v5) (fun j hj e => ?_)).mono (fun j hj => (Grow.trans hj hrg.size h1.bel.size).within (by simp [World.setCell]))
        subst e
        have := hrg.size
        rcases hj with (hj | hj) | hj
        · exact hFb hj
        · omega
        · omega)
      have Hkn : Hid (at0 < dk.S.length) := Lib.hid (by rw [hdS.out]; omega)
      have Hn4 : Hid (dk.S.length ≤ 4096) := Lib.hid (by rw [hdS.out, hSl]; exact Hlen.out)
      have ha0 : (0 : Int) ≤ (at0 : Int) := by omega
      have ha1 : (at0 : Int) < (Si.length : Int) := by omega
      have hi0 : (0 : Int) ≤ (i : Int) := by omega
      have hi1 : (i : Int) < (L.length : Int) := by omega
      have Hp := Lib.hid (And.intro p1 p2)
      have Ht := Lib.hid ht
      have HSl := Lib.hid hSl
      clear ha hSi hrb hrp hSl hSe hl p1 p2 hsn ht hrg hdk
      go_wp2_with fail
      refine wp_region_tail (n := 11) (S := St wr b (Grow F w1 wr) (.slice (some ⟨b1, o1, none⟩) Si.length svc) dk) (by kernel_rfl) (by kernel_rfl) (by rfl) (Hst.out) (fun hHeld => ?_)
      refine wpAnyH_take (i := 0) (v := ?_) rfl (by kernel_rfl) (by kernel_rfl) (by kernel_rfl) (fun _ _ _ h => h) (Or.inl ⟨by rfl, (by intro w hSw; go_simp; try with_reducible rfl)⟩) (by assumption) ?_
      simp only [Act.put, List.getElem_toArray, List.getElem_cons_zero, List.getElem_cons_succ, List.setIfInBounds_toArray, List.set_cons_zero, List.set_cons_succ]
      refine wpAnyH_take (i := 1) (v := ?_) rfl (by kernel_rfl) (by kernel_rfl) (by kernel_rfl) (fun _ _ _ h => h) (Or.inl ⟨by rfl, (by intro w hSw; go_simp; try with_reducible rfl)⟩) (by assumption) ?_
      simp only [Act.put, List.getElem_toArray, List.getElem_cons_zero, List.getElem_cons_succ, List.setIfInBounds_toArray, List.set_cons_zero, List.set_cons_succ]
      refine wpAnyH_take (i := 2) (v := ?_) rfl (by kernel_rfl) (by kernel_rfl) (by kernel_rfl) (fun _ _ _ h => h) (Or.inl ⟨by rfl, (by intro w hSw; go_simp; try with_reducible rfl)⟩) (by assumption) ?_
      simp only [Act.put, List.getElem_toArray, List.getElem_cons_zero, List.getElem_cons_succ, List.setIfInBounds_toArray, List.set_cons_zero, List.set_cons_succ]
      refine wpAnyH_take (i := 3) (v := ?_) rfl (by kernel_rfl) (by kernel_rfl) (by kernel_rfl) (fun _ _ _ h => h) (Or.inl ⟨by rfl, (by intro w hSw; have hc0 := hSw.blk.facts.1; go_simp; try with_reducible rfl)⟩) (by assumption) ?_
      simp only [Act.put, List.getElem_toArray, List.getElem_cons_zero, List.getElem_cons_succ, List.setIfInBounds_toArray, List.set_cons_zero, List.set_cons_succ]
      refine wpAnyH_take (i := 4) (v := ?_) rfl (by kernel_rfl) (by kernel_rfl) (by kernel_rfl) (fun _ _ _ h => h) (Or.inl ⟨by rfl, (by intro w hSw; go_simp; try with_reducible rfl)⟩) (by assumption) ?_
      simp only [Act.put, List.getElem_toArray, List.getElem_cons_zero, List.getElem_cons_succ, List.setIfInBounds_toArray, List.set_cons_zero, List.set_cons_succ]
      refine wpAnyH_take (i := 5) (v := ?_) rfl (by kernel_rfl) (by kernel_rfl) (by kernel_rfl) (fun _ _ _ h => h) (Or.inl ⟨by rfl, (by intro w hSw; go_simp; try with_reducible rfl)⟩) (by assumption) ?_
      simp only [Act.put, List.getElem_toArray, List.getElem_cons_zero, List.getElem_cons_succ, List.setIfInBounds_toArray, List.set_cons_zero, List.set_cons_succ]
      refine wpAnyH_take (i := 6) (v := ?_) rfl (by kernel_rfl) (by kernel_rfl) (by kernel_rfl) (fun _ _ _ h => h) (Or.inl ⟨by rfl, (by intro w hSw; go_simp; try with_reducible rfl)⟩) (by assumption) ?_
      simp only [Act.put, List.getElem_toArray, List.getElem_cons_zero, List.getElem_cons_succ, List.setIfInBounds_toArray, List.set_cons_zero, List.set_cons_succ]
      refine wpAnyH_take (i := 7) (v := ?_) rfl (by kernel_rfl) (by kernel_rfl) (by kernel_rfl) (fun _ _ _ h => h) (Or.inl ⟨by rfl, (by intro w hSw; have hc1 := (hSw.bel.cell (p := ⟨lb, lo + i, none⟩) hlb).trans hlc; go_simp; try with_reducible rfl)⟩) (by assumption) ?_
      simp only [Act.put, List.getElem_toArray, List.getElem_cons_zero, List.getElem_cons_succ, List.setIfInBounds_toArray, List.set_cons_zero, List.set_cons_succ]
      refine wpAnyH_take (i := 8) (v := ?_) rfl (by kernel_rfl) (by kernel_rfl) (by kernel_rfl) (fun _ _ _ h => h) (Or.inl ⟨by rfl, (by intro w hSw; go_simp; try with_reducible rfl)⟩) (by assumption) ?_
      simp only [Act.put, List.getElem_toArray, List.getElem_cons_zero, List.getElem_cons_succ, List.setIfInBounds_toArray, List.set_cons_zero, List.set_cons_succ]
      refine wpAnyH_take (i := 9) (v := ?_) rfl (by kernel_rfl) (by kernel_rfl) (by kernel_rfl) (fun _ _ _ h => h) (Or.inl ⟨by rfl, (by intro w hSw; have hc2 := (hSw.bel.cell (p := ⟨b1, o1 + at0, none⟩) hb1).trans hcs; go_simp; try with_reducible rfl)⟩) (by assumption) ?_
      simp only [Act.put, List.getElem_toArray, List.getElem_cons_zero, List.getElem_cons_succ, List.setIfInBounds_toArray, List.set_cons_zero, List.set_cons_succ]
      refine wpAnyH_ready (rs := [10]) (by kernel_rfl) (by simp) ?_
      refine AllReadyH.cons rfl (fun K hK => ?_) AllReadyH.nil
      go_simp
      refine hK.out _ _ (hHeld.alloc _) (fun hHeld => ?_)
      clear hK K
      refine wpAnyH_done (by kernel_rfl) ?_ _
      refine wpAny_of_held (S := fun _ => True) _ _ _ _ ?_
      have hHeld : True := trivial
      refine wpAnyH_ready (rs := [11]) (by kernel_rfl) (by simp) ?_
      refine AllReadyH.cons rfl (fun K hK => ?_) AllReadyH.nil
      go_simp
      refine hK.out _ _ trivial (fun hHeld => ?_)
      clear hK K
      refine wpAnyH_done (by kernel_rfl) ?_ _
      go_wp2_with fail
      · have hik : i < ks.length := by assumption
        obtain ⟨x, hx⟩ : ∃ x, ks[i]? = some x := ⟨_, List.getElem?_eq_getElem hik⟩
        have hgd : Hid (ks.getD i 0 = x) := Lib.hid (by rw [List.getD_eq_getElem?_getD, hx]; rfl)
        obtain ⟨hx1, hx2⟩ := Hkb.out x (List.mem_of_getElem? hx)
        obtain ⟨kb, ko, rfl, hkG, hkw, hkc2⟩ := Hkat.out (by omega)
        have hkcell : ((wr.alloc (.cells #[.slice (some ⟨b2, o2, none⟩) l.length cap2] 64)).drew).cell? ⟨kb, ko + i, none⟩ = some (.int .i64 x) := by
          have e0 : (wr.alloc (.cells #[.slice (some ⟨b2, o2, none⟩) l.length cap2] 64)).drew.cell? ⟨kb, ko + i, none⟩ = wr.cell? ⟨kb, ko + i, none⟩ :=
            (((Below.refl _ wr).alloc (Nat.le_refl _) _).drew).cell (p := ⟨kb, ko + i, none⟩) (Nat.lt_of_lt_of_le hkw Hzw.out)
          have e1 : wr.cell? ⟨kb, ko + i, none⟩ = w1.cell? ⟨kb, ko + i, none⟩ := Hrg.out.cell_far ⟨kb, ko + i, none⟩ (Nat.lt_of_lt_of_le hkw Hbel1.out.size) (fun e => by injection e with e; have e : kb = b := e; exact hGb (e ▸ hkG))
          have e2 : w1.cell? ⟨kb, ko + i, none⟩ = w.cell? ⟨kb, ko + i, none⟩ := Hbel1.out.cell (p := ⟨kb, ko + i, none⟩) hkw
          rw [e0, e1, e2]
          exact hkc2 i _ (by rw [List.getElem?_map, hx]; rfl)
        have hkk0 : (0 : Int) ≤ (i : Int) := by omega
        have hkk1 : (i : Int) < (ks.length : Int) := by omega
        have hbx := ((Row.made wr 64 #[.slice (some ⟨b2, o2, none⟩) l.length cap2]).behindDraw).at 0
        have hbx : (wr.alloc (.cells #[.slice (some ⟨b2, o2, none⟩) l.length cap2] 64)).drew.cell? ⟨wr.heap.size, 0, none⟩ = some (.slice (some ⟨b2, o2, none⟩) l.length cap2) := hbx
        obtain ⟨hl1, hl2⟩ := Hp.out
        have hm1 := Int.tmod_lt_of_pos x (b := (l.length : Int)) (by omega)
        have hm2 := Int.lt_tmod_of_pos x (b := (l.length : Int)) (by omega)
        have hS4 := (Hst0.out.alloc (.cells #[.slice (some ⟨b2, o2, none⟩) l.length cap2] 64)).drew
        have hlen63 : (l.length : Int) ≤ 1000001 := by omega
        have hlen1 : (1 : Int) ≤ (l.length : Int) := by omega
        generalize (wr.alloc (.cells #[.slice (some ⟨b2, o2, none⟩) l.length cap2] 64)).drew = w3 at *
        clear hx hkc2 hl1 hl2
        by_cases hneg : Int.tmod x (l.length : Int) < 0
        · obtain ⟨kk, hkk⟩ : ∃ kk : Nat, Int.tmod x (l.length : Int) = -(kk : Int) := ⟨(Int.tmod x (l.length : Int)).natAbs, by omega⟩
          have hkl : kk < l.length := by omega
          have hz : Hid (pick l x = l.getD kk ⟨#[]⟩) := Lib.hid (by unfold pick; rw [show (Int.tmod x (l.length : Int)).natAbs = kk from by omega])
          rw [hkk] at hneg hm1 hm2
          have hk0 : (0 : Int) ≤ (kk : Int) := by omega
          have hk1 : (kk : Int) < (l.length : Int) := by omega
          go_quiet (fail)
          go_wp2_with fail
          obtain ⟨w4, hw4⟩ : ∃ w4 : World, w4 = w3.drewN nq := ⟨_, rfl⟩
          rw [← hw4]
          have hS5 : St wr b (Grow F w1 wr) (.slice (some ⟨b1, o1, none⟩) Si.length svc) dk w4 := by rw [hw4]; exact hS4.drewN nq
          have hbox4 : w4.cell? ⟨wr.heap.size, 0, none⟩ = some (.slice (some ⟨b2, o2, none⟩) l.length cap2) := by rw [hw4]; exact hbx
          clear hw4 hbx hS4
          have hlc4 : w4.cell? ⟨lb, lo + i, none⟩ = some (.int .i64 (at0 : Int)) := (hS5.bel.cell (p := ⟨lb, lo + i, none⟩) hlb).trans hlc
          have hlb4 : lb < w4.heap.size := Nat.lt_of_lt_of_le hlb hS5.bel.size
          have hbx4 : wr.heap.size < w4.heap.size := World.block_lt_of_cell? w4 _ hbox4
          have hb24 : b2 < w4.heap.size := Nat.lt_of_lt_of_le hb2 hS5.bel.size
          obtain ⟨z, hzz⟩ : ∃ z, l[kk]? = some z := ⟨_, List.getElem?_eq_getElem hkl⟩
          have hz4 : w4.cell? ⟨b2, o2 + kk, none⟩ = some (.string z) := (hS5.bel.cell (p := ⟨b2, o2 + kk, none⟩) hb2).trans (Ht.out kk z hzz)
          have hzp : Hid (pick l (ks.getD i 0) = z) := Lib.hid (by rw [hgd.out, hz.out, List.getD_eq_getElem?_getD, hzz]; rfl)
          have Hst4 : Hid (St w4 b (Grow F w1 wr) (.slice (some ⟨b1, o1, none⟩) Si.length svc) dk w4.drew) := Lib.hid (St.start hS5.blk hS5.pcs).drew
          have Hz4 : Hid (wr.heap.size ≤ w4.heap.size) := Lib.hid hS5.bel.size
          have HS5 := Lib.hid hS5
          clear hzz hS5
          refine wp_region_tail (n := 17) (S := St (w4) b (Grow F w1 wr) (.slice (some ⟨b1, o1, none⟩) Si.length svc) dk) (by kernel_rfl) (by kernel_rfl) (by rfl) (Hst4.out) (fun hHeld => ?_)
          refine wpAnyH_take (i := 0) (v := ?_) rfl (by kernel_rfl) (by kernel_rfl) (by kernel_rfl) (fun _ _ _ h => h) (Or.inl ⟨by rfl, (by intro w hSw; go_simp; try with_reducible rfl)⟩) (by assumption) ?_
          simp only [Act.put, List.getElem_toArray, List.getElem_cons_zero, List.getElem_cons_succ, List.setIfInBounds_toArray, List.set_cons_zero, List.set_cons_succ]
          refine wpAnyH_take (i := 1) (v := ?_) rfl (by kernel_rfl) (by kernel_rfl) (by kernel_rfl) (fun _ _ _ h => h) (Or.inl ⟨by rfl, (by intro w hSw; go_simp; try with_reducible rfl)⟩) (by assumption) ?_
          simp only [Act.put, List.getElem_toArray, List.getElem_cons_zero, List.getElem_cons_succ, List.setIfInBounds_toArray, List.set_cons_zero, List.set_cons_succ]
          refine wpAnyH_take (i := 2) (v := ?_) rfl (by kernel_rfl) (by kernel_rfl) (by kernel_rfl) (fun _ _ _ h => h) (Or.inl ⟨by rfl, (by intro w hSw; go_simp; try with_reducible rfl)⟩) (by assumption) ?_
          simp only [Act.put, List.getElem_toArray, List.getElem_cons_zero, List.getElem_cons_succ, List.setIfInBounds_toArray, List.set_cons_zero, List.set_cons_succ]
          refine wpAnyH_take (i := 3) (v := ?_) rfl (by kernel_rfl) (by kernel_rfl) (by kernel_rfl) (fun _ _ _ h => h) (Or.inl ⟨by rfl, (by intro w hSw; go_simp; try with_reducible rfl)⟩) (by assumption) ?_
          simp only [Act.put, List.getElem_toArray, List.getElem_cons_zero, List.getElem_cons_succ, List.setIfInBounds_toArray, List.set_cons_zero, List.set_cons_succ]
          refine wpAnyH_take (i := 4) (v := ?_) rfl (by kernel_rfl) (by kernel_rfl) (by kernel_rfl) (fun _ _ _ h => h) (Or.inl ⟨by rfl, (by intro w hSw; have hc0 := hSw.blk.facts.1; go_simp; try with_reducible rfl)⟩) (by assumption) ?_
          simp only [Act.put, List.getElem_toArray, List.getElem_cons_zero, List.getElem_cons_succ, List.setIfInBounds_toArray, List.set_cons_zero, List.set_cons_succ]
          refine wpAnyH_take (i := 5) (v := ?_) rfl (by kernel_rfl) (by kernel_rfl) (by kernel_rfl) (fun _ _ _ h => h) (Or.inl ⟨by rfl, (by intro w hSw; go_simp; try with_reducible rfl)⟩) (by assumption) ?_
          simp only [Act.put, List.getElem_toArray, List.getElem_cons_zero, List.getElem_cons_succ, List.setIfInBounds_toArray, List.set_cons_zero, List.set_cons_succ]
          refine wpAnyH_take (i := 6) (v := ?_) rfl (by kernel_rfl) (by kernel_rfl) (by kernel_rfl) (fun _ _ _ h => h) (Or.inl ⟨by rfl, (by intro w hSw; go_simp; try with_reducible rfl)⟩) (by assumption) ?_
          simp only [Act.put, List.getElem_toArray, List.getElem_cons_zero, List.getElem_cons_succ, List.setIfInBounds_toArray, List.set_cons_zero, List.set_cons_succ]
          refine wpAnyH_take (i := 7) (v := ?_) rfl (by kernel_rfl) (by kernel_rfl) (by kernel_rfl) (fun _ _ _ h => h) (Or.inl ⟨by rfl, (by intro w hSw; go_simp; try with_reducible rfl)⟩) (by assumption) ?_
          simp only [Act.put, List.getElem_toArray, List.getElem_cons_zero, List.getElem_cons_succ, List.setIfInBounds_toArray, List.set_cons_zero, List.set_cons_succ]
          refine wpAnyH_take (i := 8) (v := ?_) rfl (by kernel_rfl) (by kernel_rfl) (by kernel_rfl) (fun _ _ _ h => h) (Or.inl ⟨by rfl, (by intro w hSw; have hc1 := (hSw.bel.cell (p := ⟨lb, lo + i, none⟩) hlb4).trans hlc4; go_simp; try with_reducible rfl)⟩) (by assumption) ?_
          simp only [Act.put, List.getElem_toArray, List.getElem_cons_zero, List.getElem_cons_succ, List.setIfInBounds_toArray, List.set_cons_zero, List.set_cons_succ]
          refine wpAnyH_take (i := 9) (v := ?_) rfl (by kernel_rfl) (by kernel_rfl) (by kernel_rfl) (fun _ _ _ h => h) (Or.inl ⟨by rfl, (by intro w hSw; go_simp; try with_reducible rfl)⟩) (by assumption) ?_
          simp only [Act.put, List.getElem_toArray, List.getElem_cons_zero, List.getElem_cons_succ, List.setIfInBounds_toArray, List.set_cons_zero, List.set_cons_succ]
          refine wpAnyH_take (i := 10) (v := ?_) rfl (by kernel_rfl) (by kernel_rfl) (by kernel_rfl) (fun _ _ _ h => h) (Or.inl ⟨by rfl, (by intro w hSw; have hc3 := (hSw.bel.cell (p := ⟨wr.heap.size, 0, none⟩) hbx4).trans hbox4; go_simp; try with_reducible rfl)⟩) (by assumption) ?_
          simp only [Act.put, List.getElem_toArray, List.getElem_cons_zero, List.getElem_cons_succ, List.setIfInBounds_toArray, List.set_cons_zero, List.set_cons_succ]
          refine wpAnyH_take (i := 11) (v := ?_) rfl (by kernel_rfl) (by kernel_rfl) (by kernel_rfl) (fun _ _ _ h => h) (Or.inl ⟨by rfl, (by intro w hSw; go_simp; try with_reducible rfl)⟩) (by assumption) ?_
          simp only [Act.put, List.getElem_toArray, List.getElem_cons_zero, List.getElem_cons_succ, List.setIfInBounds_toArray, List.set_cons_zero, List.set_cons_succ]
          refine wpAnyH_take (i := 12) (v := ?_) rfl (by kernel_rfl) (by kernel_rfl) (by kernel_rfl) (fun _ _ _ h => h) (Or.inl ⟨by rfl, (by intro w hSw; go_simp; try with_reducible rfl)⟩) (by assumption) ?_
          simp only [Act.put, List.getElem_toArray, List.getElem_cons_zero, List.getElem_cons_succ, List.setIfInBounds_toArray, List.set_cons_zero, List.set_cons_succ]
          refine wpAnyH_take (i := 13) (v := ?_) rfl (by kernel_rfl) (by kernel_rfl) (by kernel_rfl) (fun _ _ _ h => h) (Or.inl ⟨by rfl, (by intro w hSw; have hc4 := (hSw.bel.cell (p := ⟨b2, o2 + kk, none⟩) hb24).trans hz4; go_simp; try with_reducible rfl)⟩) (by assumption) ?_
          simp only [Act.put, List.getElem_toArray, List.getElem_cons_zero, List.getElem_cons_succ, List.setIfInBounds_toArray, List.set_cons_zero, List.set_cons_succ]
          refine wpAnyH_ready (rs := [14]) (by kernel_rfl) (by simp) ?_
          refine AllReadyH.cons rfl (fun K hK => ?_) AllReadyH.nil
          go_simp
          refine hK.out _ _ (hHeld.alloc _) (fun hHeld => ?_)
          clear hK K
          refine wpAnyH_take (i := 15) (v := ?_) rfl (by kernel_rfl) (by kernel_rfl) (by kernel_rfl) (fun _ _ _ h => h) (Or.inl ⟨by rfl, (by intro w hSw; go_simp; try with_reducible rfl)⟩) (by assumption) ?_
          simp only [Act.put, List.getElem_toArray, List.getElem_cons_zero, List.getElem_cons_succ, List.setIfInBounds_toArray, List.set_cons_zero, List.set_cons_succ]
          refine wpAnyH_ready (rs := [16]) (by kernel_rfl) (by simp) ?_
          refine AllReadyH.cons rfl (fun K hK => ?_) AllReadyH.nil
          go_simp
          go_at_call 30
          have hcn := new_text w4.drew (Grow (Grow F w1 wr) wr (w4.drew.alloc (.cells #[.string z] 9))) z (Or.inr ⟨Hz4.out, by simp⟩)
          refine (ref_set (hHeld.pcs.mono (fun _ h => Grow.old h)) (p := [z]) hcn Hkn.out Hn4.out).mono ?_
          rintro e w5 ⟨v5, rfl, hp5, hb5⟩
          obtain ⟨vA, vc, rfl⟩ := hp5.form
          have hp6 := hp5.mono (fun k hk => Grow.trans hk (Nat.le_trans Hz4.out (by simp)) hb5.size)
          have Hp5 := Lib.hid hp6
          clear hcn hp5 hp6
          refine hK.out _ _ (hHeld.below hb5) (fun hHeld5 => ?_)
          clear hK K
          refine wpAnyH_done (by kernel_rfl) ?_ _
          refine wpAny_of_held (S := fun _ => True) _ _ _ _ ?_
          have hHeld : True := trivial
          refine wpAnyH_take (i := 17) (v := ?_) rfl (by kernel_rfl) (by kernel_rfl) (by kernel_rfl) (fun _ _ _ h => h) (Or.inl ⟨by rfl, (by intro w hSw; go_simp; try with_reducible rfl)⟩) (by assumption) ?_
          simp only [Act.put, List.getElem_toArray, List.getElem_cons_zero, List.getElem_cons_succ, List.setIfInBounds_toArray, List.set_cons_zero, List.set_cons_succ]
          refine wpAnyH_take (i := 18) (v := ?_) rfl (by kernel_rfl) (by kernel_rfl) (by kernel_rfl) (fun _ _ _ h => h) (Or.inl ⟨by rfl, (by intro w hSw; go_simp; try with_reducible rfl)⟩) (by assumption) ?_
          simp only [Act.put, List.getElem_toArray, List.getElem_cons_zero, List.getElem_cons_succ, List.setIfInBounds_toArray, List.set_cons_zero, List.set_cons_succ]
          refine wpAnyH_ready (rs := [19]) (by kernel_rfl) (by simp) ?_
          refine AllReadyH.cons rfl (fun K hK => ?_) AllReadyH.nil
          obtain ⟨c0, -, -, -, f0, -, -, -⟩ := hHeld5.blk.facts
          go_simp
          refine hK.out _ _ trivial (fun hHeld => ?_)
          clear hK K
          refine wpAnyH_done (by kernel_rfl) ?_ _
          go_wp2_with fail
          refine ⟨⟨i + 1, by omega, rfl, ?_⟩, ?_⟩
          · have h6 : St wr b (Grow F w1 wr) (.slice (some ⟨b1, o1, none⟩) Si.length svc) dk w5 := ⟨hHeld5.blk, hHeld5.pcs, HS5.out.bel.trans (hHeld5.bel.mono HS5.out.bel.size)⟩
            exact next.out w5 _ h6 (by rw [hzp.out]; have h7 := Hp5.out; rw [List.length_set] at h7; exact h7)
          · show L.length - ((i : Int) + 1).toNat < L.length - (i : Int).toNat
            omega
        · obtain ⟨kk, hkk⟩ : ∃ kk : Nat, Int.tmod x (l.length : Int) = (kk : Int) := ⟨(Int.tmod x (l.length : Int)).natAbs, by omega⟩
          have hkl : kk < l.length := by omega
          have hz : Hid (pick l x = l.getD kk ⟨#[]⟩) := Lib.hid (by unfold pick; rw [show (Int.tmod x (l.length : Int)).natAbs = kk from by omega])
          rw [hkk] at hneg hm1 hm2
          have hk0 : (0 : Int) ≤ (kk : Int) := by omega
          have hk1 : (kk : Int) < (l.length : Int) := by omega
          clear hneg
          go_quiet (fail)
          go_wp2_with fail
          obtain ⟨w4, hw4⟩ : ∃ w4 : World, w4 = w3.drewN nq := ⟨_, rfl⟩
          rw [← hw4]
          have hS5 : St wr b (Grow F w1 wr) (.slice (some ⟨b1, o1, none⟩) Si.length svc) dk w4 := by rw [hw4]; exact hS4.drewN nq
          have hbox4 : w4.cell? ⟨wr.heap.size, 0, none⟩ = some (.slice (some ⟨b2, o2, none⟩) l.length cap2) := by rw [hw4]; exact hbx
          clear hw4 hbx hS4
          have hlc4 : w4.cell? ⟨lb, lo + i, none⟩ = some (.int .i64 (at0 : Int)) := (hS5.bel.cell (p := ⟨lb, lo + i, none⟩) hlb).trans hlc
          have hlb4 : lb < w4.heap.size := Nat.lt_of_lt_of_le hlb hS5.bel.size
          have hbx4 : wr.heap.size < w4.heap.size := World.block_lt_of_cell? w4 _ hbox4
          have hb24 : b2 < w4.heap.size := Nat.lt_of_lt_of_le hb2 hS5.bel.size
          obtain ⟨z, hzz⟩ : ∃ z, l[kk]? = some z := ⟨_, List.getElem?_eq_getElem hkl⟩
          have hz4 : w4.cell? ⟨b2, o2 + kk, none⟩ = some (.string z) := (hS5.bel.cell (p := ⟨b2, o2 + kk, none⟩) hb2).trans (Ht.out kk z hzz)
          have hzp : Hid (pick l (ks.getD i 0) = z) := Lib.hid (by rw [hgd.out, hz.out, List.getD_eq_getElem?_getD, hzz]; rfl)
          have Hst4 : Hid (St w4 b (Grow F w1 wr) (.slice (some ⟨b1, o1, none⟩) Si.length svc) dk w4.drew) := Lib.hid (St.start hS5.blk hS5.pcs).drew
          have Hz4 : Hid (wr.heap.size ≤ w4.heap.size) := Lib.hid hS5.bel.size
          have HS5 := Lib.hid hS5
          clear hzz hS5
          refine wp_region_tail (n := 17) (S := St (w4) b (Grow F w1 wr) (.slice (some ⟨b1, o1, none⟩) Si.length svc) dk) (by kernel_rfl) (by kernel_rfl) (by rfl) (Hst4.out) (fun hHeld => ?_)
          refine wpAnyH_take (i := 0) (v := ?_) rfl (by kernel_rfl) (by kernel_rfl) (by kernel_rfl) (fun _ _ _ h => h) (Or.inl ⟨by rfl, (by intro w hSw; go_simp; try with_reducible rfl)⟩) (by assumption) ?_
          simp only [Act.put, List.getElem_toArray, List.getElem_cons_zero, List.getElem_cons_succ, List.setIfInBounds_toArray, List.set_cons_zero, List.set_cons_succ]
          refine wpAnyH_take (i := 1) (v := ?_) rfl (by kernel_rfl) (by kernel_rfl) (by kernel_rfl) (fun _ _ _ h => h) (Or.inl ⟨by rfl, (by intro w hSw; go_simp; try with_reducible rfl)⟩) (by assumption) ?_
          simp only [Act.put, List.getElem_toArray, List.getElem_cons_zero, List.getElem_cons_succ, List.setIfInBounds_toArray, List.set_cons_zero, List.set_cons_succ]
          refine wpAnyH_take (i := 2) (v := ?_) rfl (by kernel_rfl) (by kernel_rfl) (by kernel_rfl) (fun _ _ _ h => h) (Or.inl ⟨by rfl, (by intro w hSw; go_simp; try with_reducible rfl)⟩) (by assumption) ?_
          simp only [Act.put, List.getElem_toArray, List.getElem_cons_zero, List.getElem_cons_succ, List.setIfInBounds_toArray, List.set_cons_zero, List.set_cons_succ]
          refine wpAnyH_take (i := 3) (v := ?_) rfl (by kernel_rfl) (by kernel_rfl) (by kernel_rfl) (fun _ _ _ h => h) (Or.inl ⟨by rfl, (by intro w hSw; go_simp; try with_reducible rfl)⟩) (by assumption) ?_
          simp only [Act.put, List.getElem_toArray, List.getElem_cons_zero, List.getElem_cons_succ, List.setIfInBounds_toArray, List.set_cons_zero, List.set_cons_succ]
          refine wpAnyH_take (i := 4) (v := ?_) rfl (by kernel_rfl) (by kernel_rfl) (by kernel_rfl) (fun _ _ _ h => h) (Or.inl ⟨by rfl, (by intro w hSw; have hc0 := hSw.blk.facts.1; go_simp; try with_reducible rfl)⟩) (by assumption) ?_
          simp only [Act.put, List.getElem_toArray, List.getElem_cons_zero, List.getElem_cons_succ, List.setIfInBounds_toArray, List.set_cons_zero, List.set_cons_succ]
          refine wpAnyH_take (i := 5) (v := ?_) rfl (by kernel_rfl) (by kernel_rfl) (by kernel_rfl) (fun _ _ _ h => h) (Or.inl ⟨by rfl, (by intro w hSw; go_simp; try with_reducible rfl)⟩) (by assumption) ?_
          simp only [Act.put, List.getElem_toArray, List.getElem_cons_zero, List.getElem_cons_succ, List.setIfInBounds_toArray, List.set_cons_zero, List.set_cons_succ]
          refine wpAnyH_take (i := 6) (v := ?_) rfl (by kernel_rfl) (by kernel_rfl) (by kernel_rfl) (fun _ _ _ h => h) (Or.inl ⟨by rfl, (by intro w hSw; go_simp; try with_reducible rfl)⟩) (by assumption) ?_
          simp only [Act.put, List.getElem_toArray, List.getElem_cons_zero, List.getElem_cons_succ, List.setIfInBounds_toArray, List.set_cons_zero, List.set_cons_succ]
          refine wpAnyH_take (i := 7) (v := ?_) rfl (by kernel_rfl) (by kernel_rfl) (by kernel_rfl) (fun _ _ _ h => h) (Or.inl ⟨by rfl, (by intro w hSw; go_simp; try with_reducible rfl)⟩) (by assumption) ?_
          simp only [Act.put, List.getElem_toArray, List.getElem_cons_zero, List.getElem_cons_succ, List.setIfInBounds_toArray, List.set_cons_zero, List.set_cons_succ]
          refine wpAnyH_take (i := 8) (v := ?_) rfl (by kernel_rfl) (by kernel_rfl) (by kernel_rfl) (fun _ _ _ h => h) (Or.inl ⟨by rfl, (by intro w hSw; have hc1 := (hSw.bel.cell (p := ⟨lb, lo + i, none⟩) hlb4).trans hlc4; go_simp; try with_reducible rfl)⟩) (by assumption) ?_
          simp only [Act.put, List.getElem_toArray, List.getElem_cons_zero, List.getElem_cons_succ, List.setIfInBounds_toArray, List.set_cons_zero, List.set_cons_succ]
          refine wpAnyH_take (i := 9) (v := ?_) rfl (by kernel_rfl) (by kernel_rfl) (by kernel_rfl) (fun _ _ _ h => h) (Or.inl ⟨by rfl, (by intro w hSw; go_simp; try with_reducible rfl)⟩) (by assumption) ?_
          simp only [Act.put, List.getElem_toArray, List.getElem_cons_zero, List.getElem_cons_succ, List.setIfInBounds_toArray, List.set_cons_zero, List.set_cons_succ]
          refine wpAnyH_take (i := 10) (v := ?_) rfl (by kernel_rfl) (by kernel_rfl) (by kernel_rfl) (fun _ _ _ h => h) (Or.inl ⟨by rfl, (by intro w hSw; have hc3 := (hSw.bel.cell (p := ⟨wr.heap.size, 0, none⟩) hbx4).trans hbox4; go_simp; try with_reducible rfl)⟩) (by assumption) ?_
          simp only [Act.put, List.getElem_toArray, List.getElem_cons_zero, List.getElem_cons_succ, List.setIfInBounds_toArray, List.set_cons_zero, List.set_cons_succ]
          refine wpAnyH_take (i := 11) (v := ?_) rfl (by kernel_rfl) (by kernel_rfl) (by kernel_rfl) (fun _ _ _ h => h) (Or.inl ⟨by rfl, (by intro w hSw; go_simp; try with_reducible rfl)⟩) (by assumption) ?_
          simp only [Act.put, List.getElem_toArray, List.getElem_cons_zero, List.getElem_cons_succ, List.setIfInBounds_toArray, List.set_cons_zero, List.set_cons_succ]
          refine wpAnyH_take (i := 12) (v := ?_) rfl (by kernel_rfl) (by kernel_rfl) (by kernel_rfl) (fun _ _ _ h => h) (Or.inl ⟨by rfl, (by intro w hSw; go_simp; try with_reducible rfl)⟩) (by assumption) ?_
          simp only [Act.put, List.getElem_toArray, List.getElem_cons_zero, List.getElem_cons_succ, List.setIfInBounds_toArray, List.set_cons_zero, List.set_cons_succ]
          refine wpAnyH_take (i := 13) (v := ?_) rfl (by kernel_rfl) (by kernel_rfl) (by kernel_rfl) (fun _ _ _ h => h) (Or.inl ⟨by rfl, (by intro w hSw; have hc4 := (hSw.bel.cell (p := ⟨b2, o2 + kk, none⟩) hb24).trans hz4; go_simp; try with_reducible rfl)⟩) (by assumption) ?_
          simp only [Act.put, List.getElem_toArray, List.getElem_cons_zero, List.getElem_cons_succ, List.setIfInBounds_toArray, List.set_cons_zero, List.set_cons_succ]
          refine wpAnyH_ready (rs := [14]) (by kernel_rfl) (by simp) ?_
          refine AllReadyH.cons rfl (fun K hK => ?_) AllReadyH.nil
          go_simp
          refine hK.out _ _ (hHeld.alloc _) (fun hHeld => ?_)
          clear hK K
          refine wpAnyH_take (i := 15) (v := ?_) rfl (by kernel_rfl) (by kernel_rfl) (by kernel_rfl) (fun _ _ _ h => h) (Or.inl ⟨by rfl, (by intro w hSw; go_simp; try with_reducible rfl)⟩) (by assumption) ?_
          simp only [Act.put, List.getElem_toArray, List.getElem_cons_zero, List.getElem_cons_succ, List.setIfInBounds_toArray, List.set_cons_zero, List.set_cons_succ]
          refine wpAnyH_ready (rs := [16]) (by kernel_rfl) (by simp) ?_
          refine AllReadyH.cons rfl (fun K hK => ?_) AllReadyH.nil
          go_simp
          go_at_call 30
          have hcn := new_text w4.drew (Grow (Grow F w1 wr) wr (w4.drew.alloc (.cells #[.string z] 9))) z (Or.inr ⟨Hz4.out, by simp⟩)
          refine (ref_set (hHeld.pcs.mono (fun _ h => Grow.old h)) (p := [z]) hcn Hkn.out Hn4.out).mono ?_
          rintro e w5 ⟨v5, rfl, hp5, hb5⟩
          obtain ⟨vA, vc, rfl⟩ := hp5.form
          have hp6 := hp5.mono (fun k hk => Grow.trans hk (Nat.le_trans Hz4.out (by simp)) hb5.size)
          have Hp5 := Lib.hid hp6
          clear hcn hp5 hp6
          refine hK.out _ _ (hHeld.below hb5) (fun hHeld5 => ?_)
          clear hK K
          refine wpAnyH_done (by kernel_rfl) ?_ _
          refine wpAny_of_held (S := fun _ => True) _ _ _ _ ?_
          have hHeld : True := trivial
          refine wpAnyH_take (i := 17) (v := ?_) rfl (by kernel_rfl) (by kernel_rfl) (by kernel_rfl) (fun _ _ _ h => h) (Or.inl ⟨by rfl, (by intro w hSw; go_simp; try with_reducible rfl)⟩) (by assumption) ?_
          simp only [Act.put, List.getElem_toArray, List.getElem_cons_zero, List.getElem_cons_succ, List.setIfInBounds_toArray, List.set_cons_zero, List.set_cons_succ]
          refine wpAnyH_take (i := 18) (v := ?_) rfl (by kernel_rfl) (by kernel_rfl) (by kernel_rfl) (fun _ _ _ h => h) (Or.inl ⟨by rfl, (by intro w hSw; go_simp; try with_reducible rfl)⟩) (by assumption) ?_
          simp only [Act.put, List.getElem_toArray, List.getElem_cons_zero, List.getElem_cons_succ, List.setIfInBounds_toArray, List.set_cons_zero, List.set_cons_succ]
          refine wpAnyH_ready (rs := [19]) (by kernel_rfl) (by simp) ?_
          refine AllReadyH.cons rfl (fun K hK => ?_) AllReadyH.nil
          obtain ⟨c0, -, -, -, f0, -, -, -⟩ := hHeld5.blk.facts
          go_simp
          refine hK.out _ _ trivial (fun hHeld => ?_)
          clear hK K
          refine wpAnyH_done (by kernel_rfl) ?_ _
          go_wp2_with fail
          refine ⟨⟨i + 1, by omega, rfl, ?_⟩, ?_⟩
          · have h6 : St wr b (Grow F w1 wr) (.slice (some ⟨b1, o1, none⟩) Si.length svc) dk w5 := ⟨hHeld5.blk, hHeld5.pcs, HS5.out.bel.trans (hHeld5.bel.mono HS5.out.bel.size)⟩
            exact next.out w5 _ h6 (by rw [hzp.out]; have h7 := Hp5.out; rw [List.length_set] at h7; exact h7)
          · show L.length - ((i : Int) + 1).toNat < L.length - (i : Int).toNat
            omega
      · have hik : ¬ i < ks.length := by assumption
        have hgd : Hid (ks.getD i 0 = 0) := Lib.hid (by rw [List.getD_eq_getElem?_getD, List.getElem?_eq_none (by omega)]; rfl)
        have hbx := ((Row.made wr 64 #[.slice (some ⟨b2, o2, none⟩) l.length cap2]).behindDraw).at 0
        have hbx : (wr.alloc (.cells #[.slice (some ⟨b2, o2, none⟩) l.length cap2] 64)).drew.cell? ⟨wr.heap.size, 0, none⟩ = some (.slice (some ⟨b2, o2, none⟩) l.length cap2) := hbx
        obtain ⟨hl1, hl2⟩ := Hp.out
        have hS4 := (Hst0.out.alloc (.cells #[.slice (some ⟨b2, o2, none⟩) l.length cap2] 64)).drew
        generalize (wr.alloc (.cells #[.slice (some ⟨b2, o2, none⟩) l.length cap2] 64)).drew = w3 at *
        obtain ⟨kk, hkk⟩ : ∃ kk : Nat, kk = 0 := ⟨0, rfl⟩
        have hkl : kk < l.length := by omega
        have hz : Hid (pick l 0 = l.getD kk ⟨#[]⟩) := Lib.hid (by unfold pick; rw [hkk]; simp)
        have hlp : (0 : Int) < (l.length : Int) := by omega
        have hlq : 0 < l.length := by omega
        obtain ⟨w4, hw4⟩ : ∃ w4 : World, w4 = w3 := ⟨_, rfl⟩
        rw [← hw4]
        have hS5 : St wr b (Grow F w1 wr) (.slice (some ⟨b1, o1, none⟩) Si.length svc) dk w4 := by rw [hw4]; exact hS4
        have hbox4 : w4.cell? ⟨wr.heap.size, 0, none⟩ = some (.slice (some ⟨b2, o2, none⟩) l.length cap2) := by rw [hw4]; exact hbx
        clear hw4 hbx hS4
        have hlc4 : w4.cell? ⟨lb, lo + i, none⟩ = some (.int .i64 (at0 : Int)) := (hS5.bel.cell (p := ⟨lb, lo + i, none⟩) hlb).trans hlc
        have hlb4 : lb < w4.heap.size := Nat.lt_of_lt_of_le hlb hS5.bel.size
        have hbx4 : wr.heap.size < w4.heap.size := World.block_lt_of_cell? w4 _ hbox4
        have hb24 : b2 < w4.heap.size := Nat.lt_of_lt_of_le hb2 hS5.bel.size
        obtain ⟨z, hzz⟩ : ∃ z, l[kk]? = some z := ⟨_, List.getElem?_eq_getElem hkl⟩
        have hz4 : w4.cell? ⟨b2, o2, none⟩ = some (.string z) := (hS5.bel.cell (p := ⟨b2, o2, none⟩) hb2).trans (by have := Ht.out kk z hzz; rw [hkk] at this; exact this)
        have hzp : Hid (pick l (ks.getD i 0) = z) := Lib.hid (by rw [hgd.out, hz.out, List.getD_eq_getElem?_getD, hzz]; rfl)
        have Hst4 : Hid (St w4 b (Grow F w1 wr) (.slice (some ⟨b1, o1, none⟩) Si.length svc) dk w4.drew) := Lib.hid (St.start hS5.blk hS5.pcs).drew
        have Hz4 : Hid (wr.heap.size ≤ w4.heap.size) := Lib.hid hS5.bel.size
        have HS5 := Lib.hid hS5
        clear hzz hS5
        refine wp_region_tail (n := 17) (S := St (w4) b (Grow F w1 wr) (.slice (some ⟨b1, o1, none⟩) Si.length svc) dk) (by kernel_rfl) (by kernel_rfl) (by rfl) (Hst4.out) (fun hHeld => ?_)
        refine wpAnyH_take (i := 0) (v := ?_) rfl (by kernel_rfl) (by kernel_rfl) (by kernel_rfl) (fun _ _ _ h => h) (Or.inl ⟨by rfl, (by intro w hSw; go_simp; try with_reducible rfl)⟩) (by assumption) ?_
        simp only [Act.put, List.getElem_toArray, List.getElem_cons_zero, List.getElem_cons_succ, List.setIfInBounds_toArray, List.set_cons_zero, List.set_cons_succ]
        refine wpAnyH_take (i := 1) (v := ?_) rfl (by kernel_rfl) (by kernel_rfl) (by kernel_rfl) (fun _ _ _ h => h) (Or.inl ⟨by rfl, (by intro w hSw; go_simp; try with_reducible rfl)⟩) (by assumption) ?_
        simp only [Act.put, List.getElem_toArray, List.getElem_cons_zero, List.getElem_cons_succ, List.setIfInBounds_toArray, List.set_cons_zero, List.set_cons_succ]
        refine wpAnyH_take (i := 2) (v := ?_) rfl (by kernel_rfl) (by kernel_rfl) (by kernel_rfl) (fun _ _ _ h => h) (Or.inl ⟨by rfl, (by intro w hSw; go_simp; try with_reducible rfl)⟩) (by assumption) ?_
        simp only [Act.put, List.getElem_toArray, List.getElem_cons_zero, List.getElem_cons_succ, List.setIfInBounds_toArray, List.set_cons_zero, List.set_cons_succ]
        refine wpAnyH_take (i := 3) (v := ?_) rfl (by kernel_rfl) (by kernel_rfl) (by kernel_rfl) (fun _ _ _ h => h) (Or.inl ⟨by rfl, (by intro w hSw; go_simp; try with_reducible rfl)⟩) (by assumption) ?_
        simp only [Act.put, List.getElem_toArray, List.getElem_cons_zero, List.getElem_cons_succ, List.setIfInBounds_toArray, List.set_cons_zero, List.set_cons_succ]
        refine wpAnyH_take (i := 4) (v := ?_) rfl (by kernel_rfl) (by kernel_rfl) (by kernel_rfl) (fun _ _ _ h => h) (Or.inl ⟨by rfl, (by intro w hSw; have hc0 := hSw.blk.facts.1; go_simp; try with_reducible rfl)⟩) (by assumption) ?_
        simp only [Act.put, List.getElem_toArray, List.getElem_cons_zero, List.getElem_cons_succ, List.setIfInBounds_toArray, List.set_cons_zero, List.set_cons_succ]
        refine wpAnyH_take (i := 5) (v := ?_) rfl (by kernel_rfl) (by kernel_rfl) (by kernel_rfl) (fun _ _ _ h => h) (Or.inl ⟨by rfl, (by intro w hSw; go_simp; try with_reducible rfl)⟩) (by assumption) ?_
        simp only [Act.put, List.getElem_toArray, List.getElem_cons_zero, List.getElem_cons_succ, List.setIfInBounds_toArray, List.set_cons_zero, List.set_cons_succ]
        refine wpAnyH_take (i := 6) (v := ?_) rfl (by kernel_rfl) (by kernel_rfl) (by kernel_rfl) (fun _ _ _ h => h) (Or.inl ⟨by rfl, (by intro w hSw; go_simp; try with_reducible rfl)⟩) (by assumption) ?_
        simp only [Act.put, List.getElem_toArray, List.getElem_cons_zero, List.getElem_cons_succ, List.setIfInBounds_toArray, List.set_cons_zero, List.set_cons_succ]
        refine wpAnyH_take (i := 7) (v := ?_) rfl (by kernel_rfl) (by kernel_rfl) (by kernel_rfl) (fun _ _ _ h => h) (Or.inl ⟨by rfl, (by intro w hSw; go_simp; try with_reducible rfl)⟩) (by assumption) ?_
        simp only [Act.put, List.getElem_toArray, List.getElem_cons_zero, List.getElem_cons_succ, List.setIfInBounds_toArray, List.set_cons_zero, List.set_cons_succ]
        refine wpAnyH_take (i := 8) (v := ?_) rfl (by kernel_rfl) (by kernel_rfl) (by kernel_rfl) (fun _ _ _ h => h) (Or.inl ⟨by rfl, (by intro w hSw; have hc1 := (hSw.bel.cell (p := ⟨lb, lo + i, none⟩) hlb4).trans hlc4; go_simp; try with_reducible rfl)⟩) (by assumption) ?_
        simp only [Act.put, List.getElem_toArray, List.getElem_cons_zero, List.getElem_cons_succ, List.setIfInBounds_toArray, List.set_cons_zero, List.set_cons_succ]
        refine wpAnyH_take (i := 9) (v := ?_) rfl (by kernel_rfl) (by kernel_rfl) (by kernel_rfl) (fun _ _ _ h => h) (Or.inl ⟨by rfl, (by intro w hSw; go_simp; try with_reducible rfl)⟩) (by assumption) ?_
        simp only [Act.put, List.getElem_toArray, List.getElem_cons_zero, List.getElem_cons_succ, List.setIfInBounds_toArray, List.set_cons_zero, List.set_cons_succ]
        refine wpAnyH_take (i := 10) (v := ?_) rfl (by kernel_rfl) (by kernel_rfl) (by kernel_rfl) (fun _ _ _ h => h) (Or.inl ⟨by rfl, (by intro w hSw; have hc3 := (hSw.bel.cell (p := ⟨wr.heap.size, 0, none⟩) hbx4).trans hbox4; go_simp; try with_reducible rfl)⟩) (by assumption) ?_
        simp only [Act.put, List.getElem_toArray, List.getElem_cons_zero, List.getElem_cons_succ, List.setIfInBounds_toArray, List.set_cons_zero, List.set_cons_succ]
        refine wpAnyH_take (i := 11) (v := ?_) rfl (by kernel_rfl) (by kernel_rfl) (by kernel_rfl) (fun _ _ _ h => h) (Or.inl ⟨by rfl, (by intro w hSw; go_simp; try with_reducible rfl)⟩) (by assumption) ?_
        simp only [Act.put, List.getElem_toArray, List.getElem_cons_zero, List.getElem_cons_succ, List.setIfInBounds_toArray, List.set_cons_zero, List.set_cons_succ]
        refine wpAnyH_take (i := 12) (v := ?_) rfl (by kernel_rfl) (by kernel_rfl) (by kernel_rfl) (fun _ _ _ h => h) (Or.inl ⟨by rfl, (by intro w hSw; go_simp; try with_reducible rfl)⟩) (by assumption) ?_
        simp only [Act.put, List.getElem_toArray, List.getElem_cons_zero, List.getElem_cons_succ, List.setIfInBounds_toArray, List.set_cons_zero, List.set_cons_succ]
        refine wpAnyH_take (i := 13) (v := ?_) rfl (by kernel_rfl) (by kernel_rfl) (by kernel_rfl) (fun _ _ _ h => h) (Or.inl ⟨by rfl, (by intro w hSw; have hc4 := (hSw.bel.cell (p := ⟨b2, o2, none⟩) hb24).trans hz4; go_simp; try with_reducible rfl)⟩) (by assumption) ?_
        simp only [Act.put, List.getElem_toArray, List.getElem_cons_zero, List.getElem_cons_succ, List.setIfInBounds_toArray, List.set_cons_zero, List.set_cons_succ]
        refine wpAnyH_ready (rs := [14]) (by kernel_rfl) (by simp) ?_
        refine AllReadyH.cons rfl (fun K hK => ?_) AllReadyH.nil
        go_simp
        refine hK.out _ _ (hHeld.alloc _) (fun hHeld => ?_)
        clear hK K
        refine wpAnyH_take (i := 15) (v := ?_) rfl (by kernel_rfl) (by kernel_rfl) (by kernel_rfl) (fun _ _ _ h => h) (Or.inl ⟨by rfl, (by intro w hSw; go_simp; try with_reducible rfl)⟩) (by assumption) ?_
        simp only [Act.put, List.getElem_toArray, List.getElem_cons_zero, List.getElem_cons_succ, List.setIfInBounds_toArray, List.set_cons_zero, List.set_cons_succ]
        refine wpAnyH_ready (rs := [16]) (by kernel_rfl) (by simp) ?_
        refine AllReadyH.cons rfl (fun K hK => ?_) AllReadyH.nil
        go_simp
        go_at_call 30
        have hcn := new_text w4.drew (Grow (Grow F w1 wr) wr (w4.drew.alloc (.cells #[.string z] 9))) z (Or.inr ⟨Hz4.out, by simp⟩)
        refine (ref_set (hHeld.pcs.mono (fun _ h => Grow.old h)) (p := [z]) hcn Hkn.out Hn4.out).mono ?_
        rintro e w5 ⟨v5, rfl, hp5, hb5⟩
        obtain ⟨vA, vc, rfl⟩ := hp5.form
        have hp6 := hp5.mono (fun k hk => Grow.trans hk (Nat.le_trans Hz4.out (by simp)) hb5.size)
        have Hp5 := Lib.hid hp6
        clear hcn hp5 hp6
        refine hK.out _ _ (hHeld.below hb5) (fun hHeld5 => ?_)
        clear hK K
        refine wpAnyH_done (by kernel_rfl) ?_ _
        refine wpAny_of_held (S := fun _ => True) _ _ _ _ ?_
        have hHeld : True := trivial
        refine wpAnyH_take (i := 17) (v := ?_) rfl (by kernel_rfl) (by kernel_rfl) (by kernel_rfl) (fun _ _ _ h => h) (Or.inl ⟨by rfl, (by intro w hSw; go_simp; try with_reducible rfl)⟩) (by assumption) ?_
        simp only [Act.put, List.getElem_toArray, List.getElem_cons_zero, List.getElem_cons_succ, List.setIfInBounds_toArray, List.set_cons_zero, List.set_cons_succ]
        refine wpAnyH_take (i := 18) (v := ?_) rfl (by kernel_rfl) (by kernel_rfl) (by kernel_rfl) (fun _ _ _ h => h) (Or.inl ⟨by rfl, (by intro w hSw; go_simp; try with_reducible rfl)⟩) (by assumption) ?_
        simp only [Act.put, List.getElem_toArray, List.getElem_cons_zero, List.getElem_cons_succ, List.setIfInBounds_toArray, List.set_cons_zero, List.set_cons_succ]
        refine wpAnyH_ready (rs := [19]) (by kernel_rfl) (by simp) ?_
        refine AllReadyH.cons rfl (fun K hK => ?_) AllReadyH.nil
        obtain ⟨c0, -, -, -, f0, -, -, -⟩ := hHeld5.blk.facts
        go_simp
        refine hK.out _ _ trivial (fun hHeld => ?_)
        clear hK K
        refine wpAnyH_done (by kernel_rfl) ?_ _
        go_wp2_with fail
        refine ⟨⟨i + 1, by omega, rfl, ?_⟩, ?_⟩
        · have h6 : St wr b (Grow F w1 wr) (.slice (some ⟨b1, o1, none⟩) Si.length svc) dk w5 := ⟨hHeld5.blk, hHeld5.pcs, HS5.out.bel.trans (hHeld5.bel.mono HS5.out.bel.size)⟩
          exact next.out w5 _ h6 (by rw [hzp.out]; have h7 := Hp5.out; rw [List.length_set] at h7; exact h7)
        · show L.length - ((i : Int) + 1).toNat < L.length - (i : Int).toNat
          omega
    · obtain rfl : i = L.length := by omega
      have hend := Lib.hid (hfinal.out wr ⟨sv', hrb, hrp, hrg⟩)
      obtain ⟨c0, c1, c2, c3, f0, f1, f2, f3⟩ := hrb.facts
      clear hrp hrg hfinal hrb
      go_wp2_with fail
      go_end0
      exact ⟨rfl, hend.out⟩
end Go.Proofs.Ytdagdmfockibfaa
