/- The landed disk: a copy. -/
import Derived.Test.YtdagdmfockibfaaDiskFlush
set_option linter.unusedSimpArgs false
set_option linter.unusedVariables false
namespace Go.Proofs.Ytdagdmfockibfaa
open Go.RowKit Dsk

section
variable {w : World} {F : Nat → Prop} {b bm : Nat} {sv : Value} {N : Nat} {M : DataW Value} {pv : Nat → Value} {d : D}

/-- While the pending ones are copied. -/
structure Cp (w : World) (F : Nat → Prop) (b bm : Nat) (sv : Value) (N : Nat) (M : DataW Value) (pv : Nat → Value) (d : D) (b2 bm2 : Nat) (sv2 : Value) (r cnt : Nat) (left : Lit → Bool) (N2 : Nat) (M2 : DataW Value) (pv2 : Nat → Value) (S2 : List (List ByteArray)) (wr : World) : Prop where
  rng : wr.ranges Try.prog 3 rawElem bm r N M left cnt
  sub : ∀ kl, left kl = true → Maps.has M kl = true
  cpy : DAt wr (New w wr) b2 bm2 sv2 N2 M2 pv2 ⟨S2, d.calls, d.armed, d.down⟩
  big : N2 + cnt ≤ d.calls
  len : S2.length = d.S.length
  got : ∀ (k : Nat) (l : List ByteArray), d.S[k]? = some l → S2[k]? = some (if left (key k) = true then [l.headD ⟨#[]⟩] else l)
  orig : DAt wr F b bm sv N M pv d
  bel : Below w.heap.size w wr

theorem Cp.done {b2 bm2 r N2 : Nat} {sv2 : Value} {left : Lit → Bool} {M2 : DataW Value} {pv2 : Nat → Value} {S2 : List (List ByteArray)} {wr : World} (h : Cp w F b bm sv N M pv d b2 bm2 sv2 r 0 left N2 M2 pv2 S2 wr) (hl0 : ∀ kl, left kl = false) (hF : ∀ i, F i → i < w.heap.size) :
    ∃ u F1 F2, Ending.returned (.pointer (some ⟨b2, 0, none⟩)) = .returned u ∧ At wr F1 (.pointer (some ⟨b, 0, none⟩)) d ∧ At wr F2 u d ∧ (∀ k, F1 k → Grow F w wr k) ∧ (∀ k, F2 k → New w wr k) ∧ (∀ k, F1 k → ¬ F2 k) ∧ (∀ k, F1 k → F k) ∧ Kept F w wr := by
  obtain ⟨-, -, h3, -, h5, h6, h7, h8⟩ := h
  have e : S2 = d.S := by
    apply List.ext_getElem?
    intro k
    by_cases hk : k < d.S.length
    · have hl := List.getElem?_eq_getElem hk
      have := h6 k _ hl
      rw [hl0, if_neg (by decide)] at this
      rw [this, hl]
    · have hle : d.S.length ≤ k := Nat.le_of_not_lt hk
      rw [List.getElem?_eq_none (show S2.length ≤ k by rw [h5]; exact hle), List.getElem?_eq_none hle]
  subst e
  exact ⟨_, F, New w wr, rfl, ⟨b, bm, sv, N, M, pv, rfl, h7⟩, ⟨b2, bm2, sv2, N2, M2, pv2, rfl, h3⟩, fun k hk => Or.inl hk, fun k hk => hk, fun k h1 h2 => by have := hF k h1; have := h2.1; omega, fun k hk => hk, Kept.ofBelow h8 _⟩

/-- What comes up next. -/
theorem Cp.next {b2 bm2 r cnt cnt' N2 : Nat} {sv2 : Value} {left : Lit → Bool} {M2 : DataW Value} {pv2 : Nat → Value} {S2 : List (List ByteArray)} {wr wq : World} {x : Int} {v : Value} {kl : Lit} {y1 : DataW Value} {y2 : List MemPlace}
    (h : Cp w F b bm sv N M pv d b2 bm2 sv2 r cnt left N2 M2 pv2 S2 wr) (hr : w.heap.size ≤ r) (hkey : keyOf Try.prog 3 (.int .i64 x) = some kl) (hlk : left kl = true) (hv : rawElem v = some (y1, y2)) (hat : ∀ zd, M.atKey kl zd = y1)
    (hrg : wq.ranges Try.prog 3 rawElem bm r N M (fun z => left z && !z.sameKey kl) cnt') (hlt : cnt' < cnt) (hgr : wr.grownBy wq (some r)) :
    ∃ (k : Nat) (s0 : ByteArray) (t : List ByteArray), x = (k : Int) ∧ kl = key k ∧ d.S[k]? = some (s0 :: t) ∧ 0 < t.length ∧ OwnS wq v t ∧ S2[k]? = some [s0] ∧
      wq.ranges Try.prog 3 rawElem bm r N M (fun z => left z && !z.sameKey (key k)) cnt' ∧ DAt wq (New w wq) b2 bm2 sv2 N2 M2 pv2 ⟨S2, d.calls, d.armed, d.down⟩ ∧ DAt wq F b bm sv N M pv d ∧ Below w.heap.size w wq := by
  obtain ⟨h1, h2, h3, h4, h5, h6, h7, h8⟩ := h
  obtain ⟨k, hk, rfl⟩ := h7.keys kl (h2 kl hlk)
  obtain ⟨x', e1, e2, -⟩ := Maps.keyOf_int_inv Try.underlying3 hkey
  have ex : x = (k : Int) := by
    have e3 : x = x' := by injection e1
    have e4 : (k : Int) = x' := by unfold key at e2; injection e2
    omega
  have hl := List.getElem?_eq_getElem hk
  have hh := h7.has k _ hl
  rw [h2 _ hlk] at hh
  have hp : 1 < d.S[k].length := of_decide_eq_true hh.symm
  obtain ⟨s0, t, hst⟩ : ∃ s0 t, d.S[k] = s0 :: t := by
    cases e : d.S[k] with
    | nil => rw [e] at hp; cases hp
    | cons a q => exact ⟨a, q, rfl⟩
  rw [hst] at hl hp
  obtain ⟨p1, p2⟩ := h7.val k _ hl hp
  have ev : v = pv k := by
    have a1 := hat .nil
    rw [p1] at a1
    have a2 : y1 = .held v := by unfold rawElem at hv; injection hv with hv; injection hv with hv; exact hv.symm
    rw [a2] at a1
    injection a1 with a1
    exact a1.symm
  subst ev
  have hrr : ∃ since c0 seen bi, wr.heap[r]? = some (.mapIter bi since seen c0) := by
    obtain ⟨es, clock, since, seen, c0, _, _, _, _, hr', _⟩ := h1
    exact ⟨_, _, _, _, hr'⟩
  obtain ⟨since, c0, seen, bi, hr'⟩ := hrr
  have h7' := h7.iter hr' hgr
  have h3' := h3.iter hr' hgr
  have hs2 := h6 k _ hl
  rw [if_pos hlk] at hs2
  refine ⟨k, s0, t, ex, rfl, hl, by simp at hp; exact hp, (h7'.val k _ hl hp).2, hs2, hrg, h3'.mono (fun i hi => ⟨hi.1, Nat.lt_of_lt_of_le hi.2 hgr.size⟩), h7', ?_⟩
  exact ⟨hgr.os.trans h8.os, hgr.tape.trans h8.tape, hgr.output.trans h8.output, Nat.le_trans h8.size hgr.size, fun i hi => (hgr.block i (Nat.lt_of_lt_of_le hi h8.size) (fun e => by injection e with e; omega)).trans (h8.block i hi)⟩

/-- One list is copied. -/
theorem Cp.step {b2 bm2 r cnt cnt' N2 g3 cap3 k : Nat} {sv2 : Value} {left : Lit → Bool} {M2 : DataW Value} {pv2 : Nat → Value} {S2 : List (List ByteArray)} {wr wq w2 w6 : World} {s0 : ByteArray} {t : List ByteArray}
    (h : Cp w F b bm sv N M pv d b2 bm2 sv2 r cnt left N2 M2 pv2 S2 wr) (hF : ∀ i, F i → i < w.heap.size) (hlt : cnt' < cnt) (hlk : left (key k) = true) (hl : d.S[k]? = some (s0 :: t)) (ht : 0 < t.length) (hS2 : S2[k]? = some [s0])
    (hrg : wq.ranges Try.prog 3 rawElem bm r N M (fun z => left z && !z.sameKey (key k)) cnt') (hc : DAt wq (New w wq) b2 bm2 sv2 N2 M2 pv2 ⟨S2, d.calls, d.armed, d.down⟩) (ho : DAt wq F b bm sv N M pv d) (hb : Below w.heap.size w wq)
    (hown : OwnS w2 (.slice (some ⟨g3, 0, none⟩) t.length cap3) t) (hg3 : wq.heap.size ≤ g3) (hlt3 : g3 < w2.heap.size) (hb2 : Below wq.heap.size wq w2)
    (hm6 : w6.ownsMap Try.prog 3 rawElem bm2 (N2 + 1) (M2.put (key k) (.held (.slice (some ⟨g3, 0, none⟩) t.length cap3)))) (hg6 : w2.grownBy w6 (some bm2)) :
    ∃ left' M2' pv2' S2', Cp w F b bm sv N M pv d b2 bm2 sv2 r cnt' left' (N2 + 1) M2' pv2' S2' w6 := by
  have hnb : bm ≠ bm2 := fun e => by have := hF bm ho.inM; have := hc.inM.1; omega
  have hrb : r ≠ bm2 := by
    intro e
    obtain ⟨es, clock, since, seen, c0, _, _, _, _, hr', _⟩ := hrg
    obtain ⟨es2, clock2, hb', _⟩ := hc.map
    rw [e, hb'] at hr'; cases hr'
  have hb26 : Below w.heap.size w w6 := by
    have q1 := hb.trans (hb2.mono hb.size)
    exact ⟨hg6.os.trans q1.os, hg6.tape.trans q1.tape, hg6.output.trans q1.output, Nat.le_trans q1.size hg6.size, fun i hi => (hg6.block i (Nat.lt_of_lt_of_le hi q1.size) (fun e => by injection e with e; have := hc.inM.1; omega)).trans (q1.block i hi)⟩
  have hsz6 : wq.heap.size ≤ w6.heap.size := Nat.le_trans hb2.size hg6.size
  have hno : Maps.has M2 (key k) = false := by rw [hc.has k _ hS2]; rfl
  obtain ⟨v0, hv0, -, -, hvn⟩ := hc.held hS2
  have : v0 = .slice none 0 0 := hvn (by simp)
  subst this
  have h64 := ho.all64 _ (List.mem_of_getElem? hl)
  have hput := hc.putList (k := k) (m1 := s0 :: t) hS2 rfl (by simp; exact ht) h64 hv0 (w1 := w2) (w2 := w6) hown (Kept.ofBelow hb2 _) (Or.inr hg3) hlt3 hm6 hg6 (c := d.calls) (a := d.armed) (q := d.down) hc.blk (by have := h.big; omega)
  refine ⟨fun z => left z && !z.sameKey (key k), _, _, _, ⟨?_, ?_, hput.mono (fun i hi => ?_), by have := h.big; omega, ?_, fun j l hj => ?_, ?_, hb26⟩⟩
  · refine World.ranges.kept ?_ hg6 (by simpa using hnb) (by simpa using hrb)
    obtain ⟨es, clock, since, seen, c0, e1, e2, e3, e4, e5, e6⟩ := hrg
    exact ⟨es, clock, since, seen, c0, (hb2.block bm (lt_of_block e1)).trans e1, e2, e3, e4, (hb2.block r (lt_of_block e5)).trans e5, e6⟩
  · intro kl hkl
    simp only [Bool.and_eq_true] at hkl
    exact h.sub kl hkl.1
  · rcases hi with hi | hi
    · exact ⟨hi.1, Nat.lt_of_lt_of_le hi.2 hsz6⟩
    · exact ⟨Nat.le_trans hb.size hi.1, hi.2⟩
  · show (S2.set k _).length = _
    rw [List.length_set]; exact h.len
  · have hkl : k < S2.length := (List.getElem?_eq_some_iff.1 hS2).1
    show (S2.set k (s0 :: t))[j]? = _
    by_cases e : j = k
    · subst e
      rw [hl] at hj
      cases hj
      rw [List.getElem?_set_self hkl, WideAt.sameKey_self (key_lit j)]
      simp
    · rw [List.getElem?_set_ne (fun e' => e e'.symm), h.got j l hj]
      have : (key j).sameKey (key k) = false := Maps.sameKey_ne (fun e' => e (key_inj e'))
      simp [this]
  · have q1 := ho.kept (Kept.ofBelow hb2 (fun _ => False)) (fun _ _ h => h)
    exact q1.kept (Kept.ofGrown (F := fun i => i = bm2) hg6 (fun i e => by injection e with e; exact e.symm)) (fun i hi e => by have := hF i hi; have := hc.inM.1; omega)

/-- Ahead of the loop: the copy has all sectors' safe ones. -/
theorem Cp.start {b2 bm2 r : Nat} {sv2 : Value} {w1 w2 : World} (h : DAt w F b bm sv N M pv d) (hb : Below w.heap.size w w1) (hr : w2.ranges Try.prog 3 rawElem bm r N M (Maps.has M) (Maps.size M)) (hg : w1.grownBy w2 none)
    (hblk : Row w1 b2 61 (dcells sv2 bm2 d)) (hsafe : OwnS w1 sv2 (heads d.S)) (hmap : w1.ownsMap Try.prog 3 rawElem bm2 0 (.map [])) (n1 : w.heap.size ≤ b2) (n2 : w.heap.size ≤ bm2) (n3 : ∀ g, sv2.ownBlock = some g → w.heap.size ≤ g ∧ g ≠ b2) :
    Cp w F b bm sv N M pv d b2 bm2 sv2 r (Maps.size M) (Maps.has M) 0 (.map []) (fun _ => .slice none 0 0) (d.S.map fun l => [l.headD ⟨#[]⟩]) w2 := by
  have kb : Kept (fun _ => False) w1 w2 := Kept.ofGrown hg (fun i e => by cases e)
  have hb2 : Below w.heap.size w w2 := ⟨hg.os.trans hb.os, hg.tape.trans hb.tape, hg.output.trans hb.output, Nat.le_trans hb.size hg.size, fun i hi => (hg.block i (Nat.lt_of_lt_of_le hi hb.size) (by simp)).trans (hb.block i hi)⟩
  have hone : ∀ (k : Nat) (l : List ByteArray), (d.S.map fun l => [l.headD ⟨#[]⟩])[k]? = some l → ∃ l0, d.S[k]? = some l0 ∧ l = [l0.headD ⟨#[]⟩] := fun k l hl => by
    rw [List.getElem?_map] at hl
    cases e : d.S[k]? with
    | none => rw [e] at hl; cases hl
    | some l0 => rw [e] at hl; cases hl; exact ⟨l0, rfl, rfl⟩
  have hhd : heads (d.S.map fun l => [l.headD ⟨#[]⟩]) = heads d.S := by simp [heads, List.map_map, Function.comp_def]
  refine ⟨hr, fun _ h => h, ?_, ?_, List.length_map _, fun k l hl => ?_, h.kept (Kept.ofBelow hb2 (fun _ => False)) (fun _ _ h => h), hb2⟩
  · refine
      { blk := hblk.kept kb (fun h => h), safe := ?_, pos := ?_, few := ?_, map := ownsMap_kept hmap kb (fun h => h), big := Nat.zero_le _, keys := (fun kl h => by cases h), has := fun k l hl => ?_, val := fun k l hl hp => ?_, full := fun l hl => ?_, all64 := fun l hl => ?_
        apart := fun j k l m g hl hp => ?_, inB := ⟨n1, Nat.lt_of_lt_of_le hblk.inHeap hg.size⟩, inM := ⟨n2, Nat.lt_of_lt_of_le hmap.lt hg.size⟩, inS := fun g hg' => ?_, inP := fun k l g hl hp => ?_ }
    · show OwnS w2 sv2 (heads (d.S.map fun l => [l.headD ⟨#[]⟩]))
      rw [hhd]
      exact hsafe.kept kb (fun _ _ h => h)
    · show 0 < (d.S.map _).length
      rw [List.length_map]; exact h.pos
    · show (d.S.map _).length ≤ 4096
      rw [List.length_map]; exact h.few
    · obtain ⟨l0, -, rfl⟩ := hone k l hl
      rfl
    · obtain ⟨l0, -, rfl⟩ := hone k l hl
      simp at hp
    · obtain ⟨l0, -, rfl⟩ := List.mem_map.1 hl
      exact Nat.zero_lt_one
    · obtain ⟨l0, hl0, rfl⟩ := List.mem_map.1 hl
      intro s hs
      rw [List.mem_singleton.1 hs]
      have hf := h.full l0 hl0
      cases l0 with
      | nil => cases hf
      | cons a q => exact h.all64 _ hl0 a (by simp)
    · obtain ⟨l0, -, rfl⟩ := hone j l hl
      simp at hp
    · obtain ⟨q1, q2⟩ := n3 g hg'
      obtain ⟨cur, hc⟩ := ownS_block hsafe hg'
      exact ⟨⟨q1, Nat.lt_of_lt_of_le (lt_of_block hc) hg.size⟩, q2⟩
    · obtain ⟨l0, -, rfl⟩ := hone k l hl
      simp at hp
  · have := h.map.size_le
    have := h.big
    omega
  · rw [List.getElem?_map, hl]
    by_cases hp : 1 < l.length
    · rw [if_pos (by rw [h.has k l hl]; exact decide_eq_true hp)]; rfl
    · have hf := h.full l (List.mem_of_getElem? hl)
      obtain ⟨x, hx⟩ : ∃ x, l = [x] := List.length_eq_one_iff.1 (Nat.le_antisymm (Nat.le_of_not_lt hp) hf)
      subst hx
      simp

set_option maxRecDepth 100000 in
set_option maxHeartbeats 4000000 in
theorem copy_ok (h : DAt w F b bm sv N M pv d) (hF : ∀ i, F i → i < w.heap.size) (hc : d.calls ≤ 1000000) (hmx : ∀ l ∈ d.S, l.length ≤ 1001) :
    Calls Try.prog 23 #[.pointer (some ⟨b, 0, none⟩)] w fun e w' => ∃ u F1 F2, e = .returned u ∧ At w' F1 (.pointer (some ⟨b, 0, none⟩)) d ∧ At w' F2 u d ∧ (∀ k, F1 k → Grow F w w' k) ∧ (∀ k, F2 k → New w w' k) ∧ (∀ k, F1 k → ¬ F2 k) ∧ (∀ k, F1 k → F k) ∧ Kept F w w' := by
  obtain ⟨g, cap, rfl, hg⟩ := h.safeForm
  obtain ⟨c0, c1, c2, c3, c4, -, -, -⟩ := h.facts
  have hmm := @run_makeMap Try.prog
  have hcl : ∀ w', Below w.heap.size w w' → Calls Try.prog 35 #[.slice (some ⟨g, 0, none⟩) d.S.length cap] w' fun e w2 => ∃ g cap, e = .returned (.slice (some ⟨g, 0, none⟩) d.S.length cap) ∧ OwnS w2 (.slice (some ⟨g, 0, none⟩) d.S.length cap) (heads d.S) ∧ w'.heap.size ≤ g ∧ g < w2.heap.size ∧ Below w'.heap.size w' w2 := fun w' hb => by
    have h' := h.kept (Kept.ofBelow hb (fun _ => False)) (fun _ _ h => h)
    have := clone_any h'.safe (by rw [heads_len]; exact h.pos) (by rw [heads_len]; have := h.few; omega)
    rw [heads_len] at this
    exact this
  have hb1 : Below w.heap.size w (w.alloc (.cells (dcells (.slice (some ⟨g, 0, none⟩) d.S.length cap) bm d) 61)) := (Below.refl _ _).alloc (Nat.le_refl _) _
  have Hcl := Lib.hid (hcl _ hb1)
  have H := Lib.hid h
  have HF := Lib.hid hF
  have Hmx0 := Lib.hid hmx
  have Hb1 := Lib.hid hb1
  have hbw := h.lt
  have e0 : ∀ o, (w.alloc o).cell? ⟨b, 0, none⟩ = some (.slice (some ⟨g, 0, none⟩) d.S.length cap) := fun o => (World.cell?_alloc_lt _ _ _ hbw).trans c0
  clear hcl hb1 h hF hmx
  go_enter Try.func23, Try.ntmps23
  go_wp2_with fail
  refine Hcl.out.mono ?_
  rintro e wB ⟨g2, cap2, rfl, ho2, hg2, hlt2, hb2⟩
  have hrB : Row wB w.heap.size 61 (dcells (.slice (some ⟨g, 0, none⟩) d.S.length cap) bm d) := (Row.made w _ _).below hb2 (by simp)
  have q0 : wB.cell? ⟨w.heap.size, 0, none⟩ = some (.slice (some ⟨g, 0, none⟩) d.S.length cap) := hrB.at 0
  have q1 : wB.cell? ⟨w.heap.size, 1, none⟩ = some (.map (some bm)) := hrB.at 1
  have f0 := hrB.free 0
  have f1 := hrB.free 1
  have hbB : Below w.heap.size w wB := Hb1.out.trans (hb2.mono Hb1.out.size)
  have cB : wB.cell? ⟨b, 1, none⟩ = some (.map (some bm)) := (hbB.cell (p := ⟨b, 1, none⟩) hbw).trans c1
  have cD : ∀ v o u, (((wB.setCell ⟨w.heap.size, 0, none⟩ v).alloc o).setCell ⟨w.heap.size, 1, none⟩ u).cell? ⟨b, 1, none⟩ = some (.map (some bm)) := fun v o u => by
    rw [World.cell?_setCell_other _ _ _ _ (fun e => by injection e with e; omega), World.cell?_alloc_lt _ _ _ (by simp [World.setCell]; have := hbB.size; omega), World.cell?_setCell_other _ _ _ _ (fun e => by injection e with e; omega)]
    exact cB
  have q1D : ∀ v o, ((wB.setCell ⟨w.heap.size, 0, none⟩ v).alloc o).cell? ⟨w.heap.size, 1, none⟩ = some (.map (some bm)) := fun v o => ((hrB.stored 0 v).behindNew o).at 1
  have f1D : ∀ v o, ((wB.setCell ⟨w.heap.size, 0, none⟩ v).alloc o).frozen? ⟨w.heap.size, 1, none⟩ = false := fun v o => ((hrB.stored 0 v).behindNew o).free 1
  have HbB := Lib.hid hbB
  have HrB := Lib.hid hrB
  have Ho2 := Lib.hid ho2
  have hg2' : w.heap.size + 1 ≤ g2 := by simpa using hg2
  clear hb2 hbB hrB ho2 hg2 cB
  -- the world at the loop
  have hmD : Hid (∀ v2 u, (((wB.setCell ⟨w.heap.size, 0, none⟩ v2).alloc (.map #[] 0)).setCell ⟨w.heap.size, 1, none⟩ u).ownsMap Try.prog 3 rawElem bm N M) := Lib.hid (fun v2 u => by
    have k1 : Kept (fun i => i = w.heap.size) wB (((wB.setCell ⟨w.heap.size, 0, none⟩ v2).alloc (.map #[] 0)).setCell ⟨w.heap.size, 1, none⟩ u) := (((Kept.refl (fun i => i = w.heap.size) _).stored (p := ⟨w.heap.size, 0, none⟩) (Or.inl rfl) _).alloc _).stored (p := ⟨w.heap.size, 1, none⟩) (Or.inl rfl) _
    have h0 := H.out.map
    exact ownsMap_kept (ownsMap_kept h0 (Kept.ofBelow HbB.out (fun _ => False)) (fun h => h)) k1 (by have := h0.lt; omega))
  have hrg := hmD.out
  have Hstart : Hid (∀ w2 r, w2.ranges Try.prog 3 rawElem bm r N M (Maps.has M) (Maps.size M) → (((wB.setCell ⟨w.heap.size, 0, none⟩ (.slice (some ⟨g2, 0, none⟩) d.S.length cap2)).alloc (.map #[] 0)).setCell ⟨w.heap.size, 1, none⟩ (.map (some wB.heap.size))).grownBy w2 none →
      Cp w F b bm (.slice (some ⟨g, 0, none⟩) d.S.length cap) N M pv d w.heap.size wB.heap.size (.slice (some ⟨g2, 0, none⟩) d.S.length cap2) r (Maps.size M) (Maps.has M) 0 (.map []) (fun _ => .slice none 0 0) (d.S.map fun l => [l.headD ⟨#[]⟩]) w2) := Lib.hid (fun w2 r hr hg => by
    have esz : (wB.setCell ⟨w.heap.size, 0, none⟩ (.slice (some ⟨g2, 0, none⟩) d.S.length cap2)).heap.size = wB.heap.size := by simp [World.setCell]
    have k1 : Kept (fun i => i = w.heap.size) wB (((wB.setCell ⟨w.heap.size, 0, none⟩ (.slice (some ⟨g2, 0, none⟩) d.S.length cap2)).alloc (.map #[] 0)).setCell ⟨w.heap.size, 1, none⟩ (.map (some wB.heap.size))) := (((Kept.refl (fun i => i = w.heap.size) _).stored (p := ⟨w.heap.size, 0, none⟩) (Or.inl rfl) _).alloc _).stored (p := ⟨w.heap.size, 1, none⟩) (Or.inl rfl) _
    refine Cp.start H.out ?_ hr hg ?_ ?_ ?_ (Nat.le_refl _) HbB.out.size (fun i hi => ?_)
    · exact ((HbB.out.setCell (p := ⟨w.heap.size, 0, none⟩) (Nat.le_refl _) _).alloc (by rw [esz]; exact HbB.out.size) _).setCell (p := ⟨w.heap.size, 1, none⟩) (Nat.le_refl _) _
    · exact ((HrB.out.stored 0 _).behindNew _).stored 1 _
    · exact Ho2.out.kept k1 (fun i hi => by
        have : g2 = i := by injection hi
        omega)
    · have := World.ownsMap_made (wB.setCell ⟨w.heap.size, 0, none⟩ (.slice (some ⟨g2, 0, none⟩) d.S.length cap2)) Try.prog 3 rawElem
      rw [esz] at this
      exact ownsMap_kept this ((Kept.refl (fun i => i = w.heap.size) _).stored (p := ⟨w.heap.size, 1, none⟩) (Or.inl rfl) _) (by have := HrB.out.inHeap; omega)
    · have : g2 = i := by injection hi
      omega)
  go_wp2_with (at_range; refine wpList_range_own _ rfl _ 59 rfl 3 58 intKeyed Try.underlying59 rawElem bm N M rfl (hmD.out _ _) ?_; intro w2 hrg2 hg2 hs2)
  have hr' : (((wB.setCell ⟨w.heap.size, 0, none⟩ (.slice (some ⟨g2, 0, none⟩) d.S.length cap2)).alloc (.map #[] 0)).setCell ⟨w.heap.size, 1, none⟩ (.map (some wB.heap.size))).heap.size = wB.heap.size + 1 := by simp [World.setCell]
  rw [hr'] at hrg2 ⊢
  have hcp := Hstart.out w2 _ hrg2 hg2
  have hrw : w.heap.size ≤ wB.heap.size + 1 := Nat.le_succ_of_le HbB.out.size
  have Hrw := Lib.hid hrw
  clear hrg2 hg2 hs2 hr' hrg cD q1D f1D q0 q1 f0 f1 c0 c1 c2 c3 c4 e0 hrw hmm
  go_frame
  go_loopw [4, 5] (fun _ _ wr => ∃ cnt left N2 M2 pv2 S2, Cp w F b bm (.slice (some ⟨g, 0, none⟩) d.S.length cap) N M pv d w.heap.size wB.heap.size (.slice (some ⟨g2, 0, none⟩) d.S.length cap2) (wB.heap.size + 1) cnt left N2 M2 pv2 S2 wr) (fun _ _ wr => wr.rangeLeft bm (wB.heap.size + 1))
  case atStart => exact ⟨_, _, _, _, _, _, hcp⟩
  case round =>
    clear hcp
    obtain ⟨cnt, left, N2, M2, pv2, S2, hcp⟩ := hrel
    have Hcp := Lib.hid hcp
    have hrg := hcp.rng
    have hleft : Hid (wr.rangeLeft bm (wB.heap.size + 1) = cnt) := Lib.hid hrg.left_eq
    clear hcp
    go_wp2_with (at_next; refine wpList_next_ranges wr rfl _ rfl 3 intKeyed rawElem (fun x : Int => Value.int .i64 x) (fun v : Value => v) (fun key kl hkey => by obtain ⟨x, rfl, _⟩ := Maps.keyOf_int_inv Try.underlying3 hkey; exact ⟨x, rfl⟩) (fun v _ _ => ⟨v, rfl⟩) bm (wB.heap.size + 1) N M _ cnt rfl hrg ?_ ?_)
    · intro h0 hl0
      subst h0
      have hfin := Hcp.out.done hl0 HF.out
      have Hfin := Lib.hid hfin
      clear hfin hl0 hrg
      go_wp2_with fail
      go_ret
      exact Hfin.out
    · intro x v kl y1 y2 wq cnt' hkey hlk hv hat hrgq hlt hgr hsz hen
      obtain ⟨k, s0, t, rfl, rfl, hl, ht, hov, hs2, hrq, hcq, hoq, hbq⟩ := Cp.next Hcp.out Hrw.out hkey hlk hv hat hrgq hlt hgr
      have Hl := Lib.hid hl
      have Hlk := Lib.hid hlk
      have Hs2 := Lib.hid hs2
      have Hrq := Lib.hid hrq
      have Hcq := Lib.hid hcq
      have Hoq := Lib.hid hoq
      have Hbq := Lib.hid hbq
      have Hpos := Lib.hid ht
      have Hlt := Lib.hid hlt
      have Hk6 : Hid (k ≤ 1000000) := Lib.hid (H.out.small hl)
      have Hmx : Hid (t.length ≤ 1000000) := Lib.hid (by
        have := Hmx0.out _ (List.mem_of_getElem? hl)
        rw [List.length_cons] at this; omega)
      have Hn2 : Hid (N2 < maxLen) := Lib.hid (by have := Hcp.out.big; unfold maxLen; omega)
      have How : Hid (∀ w', Below wq.heap.size wq w' → OwnS w' v t) := Lib.hid (fun w' hb => hov.kept (Kept.ofBelow hb (fun _ => False)) (fun _ _ h => h))
      have Hc1 : Hid (∀ w', Below wq.heap.size wq w' → w'.cell? ⟨w.heap.size, 1, none⟩ = some (.map (some wB.heap.size))) := Lib.hid (fun w' hb => (hcq.kept (Kept.ofBelow hb (fun _ => False)) (fun _ _ h => h)).facts.2.1)
      have Hm2 : Hid (∀ w', Below wq.heap.size wq w' → w'.ownsMap Try.prog 3 rawElem wB.heap.size N2 M2) := Lib.hid (fun w' hb => ownsMap_kept hcq.map (Kept.ofBelow hb (fun _ => False)) (fun h => h))
      obtain ⟨vA, vc, hvf⟩ := hov.any
      have hcl4 := hrq.left_eq
      clear hkey hlk hv hat hrgq hgr hsz hrg hl ht hov hs2 hrq hcq hoq hbq hlt hvf hcl4
      go_wp2_with fail
      clear hen
      refine wp_region_tail (n := 5) (S := (Below wq.heap.size wq)) (by kernel_rfl) (by kernel_rfl) (by rfl) (Below.drew (Below.refl _ _)) (fun hHeld => ?_)
      refine wpAnyH_take (i := 0) (v := ?_) rfl (by kernel_rfl) (by kernel_rfl) (by kernel_rfl) (fun _ _ _ h => h) (Or.inl ⟨by rfl, (by intro w hSw; go_simp; try with_reducible rfl)⟩) (by assumption) ?_
      simp only [Act.put, List.getElem_toArray, List.getElem_cons_zero, List.getElem_cons_succ, List.setIfInBounds_toArray, List.set_cons_zero, List.set_cons_succ]
      refine wpAnyH_take (i := 1) (v := ?_) rfl (by kernel_rfl) (by kernel_rfl) (by kernel_rfl) (fun _ _ _ h => h) (Or.inl ⟨by rfl, (by intro w hSw; have c1 := Hc1.out w hSw; go_simp; try with_reducible rfl)⟩) (by assumption) ?_
      simp only [Act.put, List.getElem_toArray, List.getElem_cons_zero, List.getElem_cons_succ, List.setIfInBounds_toArray, List.set_cons_zero, List.set_cons_succ]
      refine wpAnyH_take (i := 2) (v := ?_) rfl (by kernel_rfl) (by kernel_rfl) (by kernel_rfl) (fun _ _ _ h => h) (Or.inl ⟨by rfl, (by intro w hSw; go_simp; try with_reducible rfl)⟩) (by assumption) ?_
      simp only [Act.put, List.getElem_toArray, List.getElem_cons_zero, List.getElem_cons_succ, List.setIfInBounds_toArray, List.set_cons_zero, List.set_cons_succ]
      refine wpAnyH_take (i := 3) (v := ?_) rfl (by kernel_rfl) (by kernel_rfl) (by kernel_rfl) (fun _ _ _ h => h) (Or.inl ⟨by rfl, (by intro w hSw; go_simp; try with_reducible rfl)⟩) (by assumption) ?_
      simp only [Act.put, List.getElem_toArray, List.getElem_cons_zero, List.getElem_cons_succ, List.setIfInBounds_toArray, List.set_cons_zero, List.set_cons_succ]
      refine wpAnyH_ready (rs := [4]) (by kernel_rfl) (by simp) ?_
      refine AllReadyH.cons rfl (fun K hK => ?_) AllReadyH.nil
      go_simp
      go_at_call 35
      have hl2 := clone_any (How.out _ hHeld) Hpos.out Hmx.out
      with_reducible refine hl2.mono ?_
      clear hl2
      rintro e w2 ⟨g3, cap3, rfl, ho3, hg3, hlt3, hb3⟩
      have hB2 := hHeld.trans (hb3.mono hHeld.size)
      refine hK.out _ _ hB2 (fun hHeld2 => ?_)
      clear hK K
      refine wpAnyH_done (by kernel_rfl) ?_ _
      refine wpAny_of_held (S := fun _ => True) _ _ _ _ ?_
      have hHeld : True := trivial
      refine wpAnyH_ready (rs := [5]) (by kernel_rfl) (by simp) ?_
      refine AllReadyH.cons rfl (fun K hK => ?_) AllReadyH.nil
      obtain ⟨w6, hrun6, hm6, hturn6⟩ := (Hm2.out w2 hHeld2).store (t := 59) intKeyed Try.underlying59 Hn2.out (key_of Hk6.out) (val := .slice (some ⟨g3, 0, none⟩) t.length cap3) (ps := []) rfl
      go_simp
      refine hK.out _ _ trivial (fun hHeld => ?_)
      clear hK K
      refine wpAnyH_done (by kernel_rfl) ?_ _
      have hstep := Cp.step Hcp.out HF.out Hlt.out Hlk.out Hl.out Hpos.out Hs2.out Hrq.out Hcq.out Hoq.out Hbq.out ho3 hg3 hlt3 hHeld2 hm6 hturn6.grown
      obtain ⟨left', M2', pv2', S2', hcp'⟩ := hstep
      have hl4 : w6.rangeLeft bm (wB.heap.size + 1) = cnt' := hcp'.rng.left_eq
      have Hl4 := Lib.hid hl4
      clear hm6 hturn6 hl4 ho3 hg3 hlt3 hb3 hHeld hHeld2 hrun6
      go_wp2_with fail
      go_roundw
      case rel => exact ⟨cnt', left', _, M2', pv2', S2', hcp'⟩
      case measure => rw [Hl4.out, hleft.out]; exact Hlt.out
end
end Go.Proofs.Ytdagdmfockibfaa
