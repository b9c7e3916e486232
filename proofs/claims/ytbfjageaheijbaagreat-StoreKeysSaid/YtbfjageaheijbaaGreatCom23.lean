/- The landed disk: a copy. -/
import Derived.Test.YtbfjageaheijbaaGreatCom22
import Derived.ChangeAlike
set_option linter.unusedSimpArgs false
set_option linter.unusedVariables false
namespace Go.Proofs.YtbfjageaheijbaaGreat
open Go.RowKit Dsk

section
variable {w : World} {F : Nat → Prop} {b bm : Nat} {sv : Value} {N : Nat} {M : DataW Value} {pv : Nat → Value} {d : D}

/-- While the pending ones are copied. -/
structure Cp (w : World) (F : Nat → Prop) (b bm : Nat) (sv : Value) (N : Nat) (M : DataW Value) (pv : Nat → Value) (d : D) (b2 bm2 : Nat) (sv2 : Value) (r cnt : Nat) (left : Lit → Bool) (N2 : Nat) (M2 : DataW Value) (pv2 : Nat → Value) (S2 : List (List ByteArray)) (wr : World) : Prop where
  rng : wr.ranges Tryz.prog 3 rawElem bm r N M left cnt
  sub : ∀ kl, left kl = true → Maps.has M kl = true
  cpy : DAt wr (New w wr) b2 bm2 sv2 N2 M2 pv2 ⟨S2, d.calls, d.armed, d.down⟩
  big : N2 + cnt ≤ d.calls
  len : S2.length = d.S.length
  got : ∀ (k : Nat) (l : List ByteArray), d.S[k]? = some l → S2[k]? = some (if left (key k) = true then [l.headD ⟨#[]⟩] else l)
  orig : DAt wr F b bm sv N M pv d
  bel : Below w.heap.size w wr

set_option maxRecDepth 100000 in
theorem Cp.done {b2 bm2 r N2 : Nat} {sv2 : Value} {left : Lit → Bool} {M2 : DataW Value} {pv2 : Nat → Value} {S2 : List (List ByteArray)} {wr : World} (h : Cp w F b bm sv N M pv d b2 bm2 sv2 r 0 left N2 M2 pv2 S2 wr) (hl0 : ∀ kl, left kl = false) (hF : ∀ i, F i → i < w.heap.size) :
    ∃ u F1 F2, Ending.returned (.pointer (some ⟨b2, 0, none⟩)) = .returned u ∧ At wr F1 (.pointer (some ⟨b, 0, none⟩)) d ∧ At wr F2 u d ∧ (∀ k, F1 k → Grow F w wr k) ∧ (∀ k, F2 k → New w wr k) ∧ (∀ k, F1 k → ¬ F2 k) ∧ (∀ k, F1 k → F k) ∧ Kept F w wr := by
  obtain ⟨-, -, h3, -, h5, h6, h7, h8⟩ := h
  have e : S2 = d.S := by
    apply List.ext_getElem?
    intro k
    by_cases hk : k < d.S.length
    · have hl := List.getElem?_eq_getElem hk
      have := h6 k _ hl
      rw [hl0, if_neg (by decide)] at this
      rw [this, hl]
    · have hle : d.S.length ≤ k := Nat.le_of_not_lt hk
      rw [List.getElem?_eq_none (show S2.length ≤ k by rw [h5]; exact hle), List.getElem?_eq_none hle]
  subst e
  exact ⟨_, F, New w wr, rfl, ⟨b, bm, sv, N, M, pv, rfl, h7⟩, ⟨b2, bm2, sv2, N2, M2, pv2, rfl, h3⟩, fun k hk => Or.inl hk, fun k hk => hk, fun k h1 h2 => by have := hF k h1; have := h2.1; omega, fun k hk => hk, Kept.ofBelow h8 _⟩

set_option maxRecDepth 100000 in
/-- What comes up next. -/
theorem Cp.next {b2 bm2 r cnt cnt' N2 : Nat} {sv2 : Value} {left : Lit → Bool} {M2 : DataW Value} {pv2 : Nat → Value} {S2 : List (List ByteArray)} {wr wq : World} {x : Int} {v : Value} {kl : Lit} {y1 : DataW Value} {y2 : List MemPlace}
    (h : Cp w F b bm sv N M pv d b2 bm2 sv2 r cnt left N2 M2 pv2 S2 wr) (hr : w.heap.size ≤ r) (hkey : keyOf Tryz.prog 3 (.int .i64 x) = some kl) (hlk : left kl = true) (hv : rawElem v = some (y1, y2)) (hat : ∀ zd, M.atKey kl zd = y1)
    (hrg : wq.ranges Tryz.prog 3 rawElem bm r N M (fun z => left z && !z.sameKey kl) cnt') (hlt : cnt' < cnt) (hgr : wr.grownBy wq (some r)) :
    ∃ (k : Nat) (s0 : ByteArray) (t : List ByteArray), x = (k : Int) ∧ kl = key k ∧ d.S[k]? = some (s0 :: t) ∧ 0 < t.length ∧ OwnS wq v t ∧ S2[k]? = some [s0] ∧
      wq.ranges Tryz.prog 3 rawElem bm r N M (fun z => left z && !z.sameKey (key k)) cnt' ∧ DAt wq (New w wq) b2 bm2 sv2 N2 M2 pv2 ⟨S2, d.calls, d.armed, d.down⟩ ∧ DAt wq F b bm sv N M pv d ∧ Below w.heap.size w wq := by
  obtain ⟨h1, h2, h3, h4, h5, h6, h7, h8⟩ := h
  obtain ⟨k, hk, rfl⟩ := h7.keys kl (h2 kl hlk)
  obtain ⟨x', e1, e2, -⟩ := Maps.keyOf_int_inv Tryz.underlying3 hkey
  have ex : x = (k : Int) := by
    have e3 : x = x' := by injection e1
    have e4 : (k : Int) = x' := by unfold key at e2; injection e2
    omega
  have hl := List.getElem?_eq_getElem hk
  have hh := h7.has k _ hl
  rw [h2 _ hlk] at hh
  have hp : 1 < d.S[k].length := of_decide_eq_true hh.symm
  obtain ⟨s0, t, hst⟩ : ∃ s0 t, d.S[k] = s0 :: t := by
    cases e : d.S[k] with
    | nil => rw [e] at hp; cases hp
    | cons a q => exact ⟨a, q, rfl⟩
  rw [hst] at hl hp
  obtain ⟨p1, p2⟩ := h7.val k _ hl hp
  have ev : v = pv k := by
    have a1 := hat .nil
    rw [p1] at a1
    have a2 : y1 = .held v := by unfold rawElem at hv; injection hv with hv; injection hv with hv; exact hv.symm
    rw [a2] at a1
    injection a1 with a1
    exact a1.symm
  subst ev
  have hrr : ∃ since c0 seen bi, wr.heap[r]? = some (.mapIter bi since seen c0) := by
    obtain ⟨es, clock, since, seen, c0, _, _, _, _, hr', _⟩ := h1
    exact ⟨_, _, _, _, hr'⟩
  obtain ⟨since, c0, seen, bi, hr'⟩ := hrr
  have h7' := h7.iter hr' hgr
  have h3' := h3.iter hr' hgr
  have hs2 := h6 k _ hl
  rw [if_pos hlk] at hs2
  refine ⟨k, s0, t, ex, rfl, hl, by simp at hp; exact hp, (h7'.val k _ hl hp).2, hs2, hrg, h3'.mono (fun i hi => ⟨hi.1, Nat.lt_of_lt_of_le hi.2 hgr.size⟩), h7', ?_⟩
  exact ⟨hgr.os.trans h8.os, hgr.tape.trans h8.tape, hgr.output.trans h8.output, Nat.le_trans h8.size hgr.size, fun i hi => (hgr.block i (Nat.lt_of_lt_of_le hi h8.size) (fun e => by injection e with e; omega)).trans (h8.block i hi)⟩

set_option maxRecDepth 100000 in
/-- One list is copied. -/
theorem Cp.step {b2 bm2 r cnt cnt' N2 g3 cap3 k : Nat} {sv2 : Value} {left : Lit → Bool} {M2 : DataW Value} {pv2 : Nat → Value} {S2 : List (List ByteArray)} {wr wq w2 w6 : World} {s0 : ByteArray} {t : List ByteArray}
    (h : Cp w F b bm sv N M pv d b2 bm2 sv2 r cnt left N2 M2 pv2 S2 wr) (hF : ∀ i, F i → i < w.heap.size) (hlt : cnt' < cnt) (hlk : left (key k) = true) (hl : d.S[k]? = some (s0 :: t)) (ht : 0 < t.length) (hS2 : S2[k]? = some [s0])
    (hrg : wq.ranges Tryz.prog 3 rawElem bm r N M (fun z => left z && !z.sameKey (key k)) cnt') (hc : DAt wq (New w wq) b2 bm2 sv2 N2 M2 pv2 ⟨S2, d.calls, d.armed, d.down⟩) (ho : DAt wq F b bm sv N M pv d) (hb : Below w.heap.size w wq)
    (hown : OwnS w2 (.slice (some ⟨g3, 0, none⟩) t.length cap3) t) (hg3 : wq.heap.size ≤ g3) (hlt3 : g3 < w2.heap.size) (hb2 : Below wq.heap.size wq w2)
    (hm6 : w6.ownsMap Tryz.prog 3 rawElem bm2 (N2 + 1) (M2.put (key k) (.held (.slice (some ⟨g3, 0, none⟩) t.length cap3)))) (hg6 : w2.grownBy w6 (some bm2)) :
    ∃ left' M2' pv2' S2', Cp w F b bm sv N M pv d b2 bm2 sv2 r cnt' left' (N2 + 1) M2' pv2' S2' w6 := by
  have hnb : bm ≠ bm2 := fun e => by have := hF bm ho.inM; have := hc.inM.1; omega
  have hrb : r ≠ bm2 := by
    intro e
    obtain ⟨es, clock, since, seen, c0, _, _, _, _, hr', _⟩ := hrg
    obtain ⟨es2, clock2, hb', _⟩ := hc.map
    rw [e, hb'] at hr'; cases hr'
  have hb26 : Below w.heap.size w w6 := by
    have q1 := hb.trans (hb2.mono hb.size)
    exact ⟨hg6.os.trans q1.os, hg6.tape.trans q1.tape, hg6.output.trans q1.output, Nat.le_trans q1.size hg6.size, fun i hi => (hg6.block i (Nat.lt_of_lt_of_le hi q1.size) (fun e => by injection e with e; have := hc.inM.1; omega)).trans (q1.block i hi)⟩
  have hsz6 : wq.heap.size ≤ w6.heap.size := Nat.le_trans hb2.size hg6.size
  have hno : Maps.has M2 (key k) = false := by rw [hc.has k _ hS2]; rfl
  obtain ⟨v0, hv0, -, -, hvn⟩ := hc.held hS2
  have : v0 = .slice none 0 0 := hvn (by simp)
  subst this
  have h64 := ho.all64 _ (List.mem_of_getElem? hl)
  have hput := hc.putList (k := k) (m1 := s0 :: t) hS2 rfl (by simp; exact ht) h64 hv0 (w1 := w2) (w2 := w6) hown (Kept.ofBelow hb2 _) (Or.inr hg3) hlt3 hm6 hg6 (c := d.calls) (a := d.armed) (q := d.down) hc.blk (by have := h.big; omega)
  refine ⟨fun z => left z && !z.sameKey (key k), _, _, _, ⟨?_, ?_, hput.mono (fun i hi => ?_), by have := h.big; omega, ?_, fun j l hj => ?_, ?_, hb26⟩⟩
  · refine World.ranges.kept ?_ hg6 (by simpa using hnb) (by simpa using hrb)
    obtain ⟨es, clock, since, seen, c0, e1, e2, e3, e4, e5, e6⟩ := hrg
    exact ⟨es, clock, since, seen, c0, (hb2.block bm (lt_of_block e1)).trans e1, e2, e3, e4, (hb2.block r (lt_of_block e5)).trans e5, e6⟩
  · intro kl hkl
    simp only [Bool.and_eq_true] at hkl
    exact h.sub kl hkl.1
  · rcases hi with hi | hi
    · exact ⟨hi.1, Nat.lt_of_lt_of_le hi.2 hsz6⟩
    · exact ⟨Nat.le_trans hb.size hi.1, hi.2⟩
  · show (S2.set k _).length = _
    rw [List.length_set]; exact h.len
  · have hkl : k < S2.length := (List.getElem?_eq_some_iff.1 hS2).1
    show (S2.set k (s0 :: t))[j]? = _
    by_cases e : j = k
    · subst e
      rw [hl] at hj
      cases hj
      rw [List.getElem?_set_self hkl, WideAt.sameKey_self (key_lit j)]
      simp
    · rw [List.getElem?_set_ne (fun e' => e e'.symm), h.got j l hj]
      have : (key j).sameKey (key k) = false := Maps.sameKey_ne (fun e' => e (key_inj e'))
      simp [this]
  · have q1 := ho.kept (Kept.ofBelow hb2 (fun _ => False)) (fun _ _ h => h)
    exact q1.kept (Kept.ofGrown (F := fun i => i = bm2) hg6 (fun i e => by injection e with e; exact e.symm)) (fun i hi e => by have := hF i hi; have := hc.inM.1; omega)

set_option maxRecDepth 100000 in
/-- Ahead of the loop: the copy has all sectors' safe ones. -/
theorem Cp.start {b2 bm2 r : Nat} {sv2 : Value} {w1 w2 : World} (h : DAt w F b bm sv N M pv d) (hb : Below w.heap.size w w1) (hr : w2.ranges Tryz.prog 3 rawElem bm r N M (Maps.has M) (Maps.size M)) (hg : w1.grownBy w2 none)
    (hblk : Row w1 b2 73 (dcells sv2 bm2 d)) (hsafe : OwnS w1 sv2 (heads d.S)) (hmap : w1.ownsMap Tryz.prog 3 rawElem bm2 0 (.map [])) (n1 : w.heap.size ≤ b2) (n2 : w.heap.size ≤ bm2) (n3 : ∀ g, sv2.ownBlock = some g → w.heap.size ≤ g ∧ g ≠ b2) :
    Cp w F b bm sv N M pv d b2 bm2 sv2 r (Maps.size M) (Maps.has M) 0 (.map []) (fun _ => .slice none 0 0) (d.S.map fun l => [l.headD ⟨#[]⟩]) w2 := by
  have kb : Kept (fun _ => False) w1 w2 := Kept.ofGrown hg (fun i e => by cases e)
  have hb2 : Below w.heap.size w w2 := ⟨hg.os.trans hb.os, hg.tape.trans hb.tape, hg.output.trans hb.output, Nat.le_trans hb.size hg.size, fun i hi => (hg.block i (Nat.lt_of_lt_of_le hi hb.size) (by simp)).trans (hb.block i hi)⟩
  have hone : ∀ (k : Nat) (l : List ByteArray), (d.S.map fun l => [l.headD ⟨#[]⟩])[k]? = some l → ∃ l0, d.S[k]? = some l0 ∧ l = [l0.headD ⟨#[]⟩] := fun k l hl => by
    rw [List.getElem?_map] at hl
    cases e : d.S[k]? with
    | none => rw [e] at hl; cases hl
    | some l0 => rw [e] at hl; cases hl; exact ⟨l0, rfl, rfl⟩
  have hhd : heads (d.S.map fun l => [l.headD ⟨#[]⟩]) = heads d.S := by simp [heads, List.map_map, Function.comp_def]
  refine ⟨hr, fun _ h => h, ?_, ?_, List.length_map _, fun k l hl => ?_, h.kept (Kept.ofBelow hb2 (fun _ => False)) (fun _ _ h => h), hb2⟩
  · refine
      { blk := hblk.kept kb (fun h => h), safe := ?_, pos := ?_, few := ?_, map := ownsMap_kept hmap kb (fun h => h), big := Nat.zero_le _, keys := (fun kl h => by cases h), has := fun k l hl => ?_, val := fun k l hl hp => ?_, full := fun l hl => ?_, all64 := fun l hl => ?_
        apart := fun j k l m g hl hp => ?_, inB := ⟨n1, Nat.lt_of_lt_of_le hblk.inHeap hg.size⟩, inM := ⟨n2, Nat.lt_of_lt_of_le hmap.lt hg.size⟩, inS := fun g hg' => ?_, inP := fun k l g hl hp => ?_ }
    · show OwnS w2 sv2 (heads (d.S.map fun l => [l.headD ⟨#[]⟩]))
      rw [hhd]
      exact hsafe.kept kb (fun _ _ h => h)
    · show 0 < (d.S.map _).length
      rw [List.length_map]; exact h.pos
    · show (d.S.map _).length ≤ 4096
      rw [List.length_map]; exact h.few
    · obtain ⟨l0, -, rfl⟩ := hone k l hl
      rfl
    · obtain ⟨l0, -, rfl⟩ := hone k l hl
      simp at hp
    · obtain ⟨l0, -, rfl⟩ := List.mem_map.1 hl
      exact Nat.zero_lt_one
    · obtain ⟨l0, hl0, rfl⟩ := List.mem_map.1 hl
      intro s hs
      rw [List.mem_singleton.1 hs]
      have hf := h.full l0 hl0
      cases l0 with
      | nil => cases hf
      | cons a q => exact h.all64 _ hl0 a (by simp)
    · obtain ⟨l0, -, rfl⟩ := hone j l hl
      simp at hp
    · obtain ⟨q1, q2⟩ := n3 g hg'
      obtain ⟨cur, hc⟩ := ownS_block hsafe hg'
      exact ⟨⟨q1, Nat.lt_of_lt_of_le (lt_of_block hc) hg.size⟩, q2⟩
    · obtain ⟨l0, -, rfl⟩ := hone k l hl
      simp at hp
  · have := h.map.size_le
    have := h.big
    omega
  · rw [List.getElem?_map, hl]
    by_cases hp : 1 < l.length
    · rw [if_pos (by rw [h.has k l hl]; exact decide_eq_true hp)]; rfl
    · have hf := h.full l (List.mem_of_getElem? hl)
      obtain ⟨x, hx⟩ : ∃ x, l = [x] := List.length_eq_one_iff.1 (Nat.le_antisymm (Nat.le_of_not_lt hp) hf)
      subst hx
      simp

end
end Go.Proofs.YtbfjageaheijbaaGreat
/- The landed disk: what a crash keeps of one sector after the other. -/
set_option linter.unusedSimpArgs false
set_option linter.unusedVariables false
namespace Go.Proofs.YtbfjageaheijbaaGreat
open Go.RowKit Dsk

set_option maxRecDepth 100000 in
theorem keeper_any {w : World} {kv : Value} {A : Option Addr} {n c : Nat} (h : kv = .slice A n c) : Calls Tryz.prog 44 #[kv] w fun e w' => e = .returned (.func (.func 70) #[] #[.pointer (some ⟨w.heap.size, 0, none⟩)]) ∧ w' = w.alloc (.cells #[kv] 34) := by
  subst h
  go_enter Tryz.func44, Tryz.ntmps44
  go_wp2_with fail
  go_ret
  exact ⟨rfl, rfl⟩

/-- What the closure answers, and the numbers that are left. -/
def KeptPost (x : ByteArray) (bk kb ko n cap : Nat) (w : World) (e : Ending) (w' : World) : Prop :=
  e = .returned (.agg (secV x).toArray) ∧ (∃ A, Row w' bk 34 #[.slice A n (cap - 1)] ∧ (0 < n → A = some ⟨kb, ko, none⟩)) ∧ w.grownBy w' (some bk)

set_option maxRecDepth 100000 in
theorem gb_row {a w : World} {bk g : Nat} (h : a.grownBy w (some bk)) (hg : a.heap.size ≤ g) (c : Array Value) : a.grownBy (w.setRow g c) (some bk) :=
  ⟨h.os, h.tape, h.output, by simpa using h.size, fun k hk hn => (setRow_other w g k c (by omega)).trans (h.block k hk hn)⟩

set_option maxRecDepth 100000 in
theorem pick_zero {s0 : ByteArray} {t : List ByteArray} {k : Int} (h : k.tmod (1 + (t.length : Int)) = 0) : pick (s0 :: t) k = s0 := by
  unfold pick
  rw [List.length_cons, show ((t.length + 1 : Nat) : Int) = 1 + (t.length : Int) by omega, h]
  rfl

set_option maxRecDepth 100000 in
theorem pick_succ {s0 x : ByteArray} {t : List ByteArray} {k : Int} {j : Nat} (h : (k.tmod (1 + (t.length : Int))).natAbs = j + 1) (hx : t[j]? = some x) : pick (s0 :: t) k = x := by
  unfold pick
  rw [List.length_cons, show ((t.length + 1 : Nat) : Int) = 1 + (t.length : Int) by omega, h]
  simp [hx]

set_option maxRecDepth 100000 in
theorem tmod_bound (k : Int) (n : Nat) : -(n : Int) ≤ k.tmod (1 + (n : Int)) ∧ k.tmod (1 + (n : Int)) ≤ n := by
  have h1 := Int.tmod_lt_of_pos k (show (0 : Int) < 1 + n by omega)
  have h2 := Int.lt_tmod_of_pos k (show (0 : Int) < 1 + n by omega)
  omega

set_option maxRecDepth 100000 in
set_option maxHeartbeats 1600000 in
theorem keep_next {w : World} {v : Value} {s0 : ByteArray} {t : List ByteArray} {bk kb ko n cap : Nat} {k : Int} (hs : s0.size = 64) (h : OwnS w v t) (hm : t.length ≤ 100000) (hr : Row w bk 34 #[.slice (some ⟨kb, ko, none⟩) (n + 1) cap])
    (hvb : v.ownBlock ≠ some bk) (hkb : kb < w.heap.size) (hk : w.cell? ⟨kb, ko, none⟩ = some (.int .i64 k)) (hk1 : -9223372036854775808 ≤ k) (hk2 : k ≤ 9223372036854775807) (hn : n + 1 ≤ cap) (hcap : n + 1 ≤ 9223372036854775807) :
    Calls Tryz.prog 70 #[.agg (secV s0).toArray, v, .pointer (some ⟨bk, 0, none⟩)] w (KeptPost (pick (s0 :: t) k) bk kb (ko + 1) n cap w) := by
  have hz := (zero_of_info secZero).1
  have hbk := hr.inHeap
  have hx : ∃ x : ByteArray, pick (s0 :: t) k = x ∧ x.size = 64 ∧ ((k.tmod (1 + (t.length : Int)) = 0 ∧ x = s0) ∨ ∃ j, (k.tmod (1 + (t.length : Int))).natAbs = j + 1 ∧ j < t.length ∧ t[j]? = some x) := by
    have hb := tmod_bound k t.length
    by_cases e : k.tmod (1 + (t.length : Int)) = 0
    · exact ⟨s0, pick_zero e, hs, Or.inl ⟨e, rfl⟩⟩
    · obtain ⟨j, hj⟩ : ∃ j, (k.tmod (1 + (t.length : Int))).natAbs = j + 1 := ⟨(k.tmod (1 + (t.length : Int))).natAbs - 1, by omega⟩
      have hjl : j < t.length := by omega
      have hx := List.getElem?_eq_getElem hjl
      exact ⟨t[j], pick_succ hj hx, h.2 _ (List.getElem_mem hjl), Or.inr ⟨j, hj, hjl, hx⟩⟩
  obtain ⟨x, hpx, hx64, hcase⟩ := hx
  rw [hpx]
  have hb := tmod_bound k t.length
  have c1 : ((w.alloc (.cells (secV s0).toArray 93)).alloc (.cells (secV (fill ⟨#[]⟩)).toArray 93)).cell? ⟨bk, 0, none⟩ = some (.slice (some ⟨kb, ko, none⟩) (n + 1) cap) := ((hr.behindNew _).behindNew _).at 0
  have f1 : ((w.alloc (.cells (secV s0).toArray 93)).alloc (.cells (secV (fill ⟨#[]⟩)).toArray 93)).frozen? ⟨bk, 0, none⟩ = false := ((hr.behindNew _).behindNew _).free 0
  have c2 : ((w.alloc (.cells (secV s0).toArray 93)).alloc (.cells (secV (fill ⟨#[]⟩)).toArray 93)).cell? ⟨kb, ko, none⟩ = some (.int .i64 k) := by
    rw [World.cell?_alloc_lt _ _ _ (Nat.lt_of_lt_of_le hkb (by simp)), World.cell?_alloc_lt _ _ _ hkb]; exact hk
  have hA0 : ((w.alloc (.cells (secV s0).toArray 93)).alloc (.cells (secV (fill ⟨#[]⟩)).toArray 93)).heap[w.heap.size]? = some (.cells (secV s0).toArray 93 (0, 0)) := heap_alloc2_old w _ _
  have hA1 : ((w.alloc (.cells (secV s0).toArray 93)).alloc (.cells (secV (fill ⟨#[]⟩)).toArray 93)).heap[w.heap.size + 1]? = some (.cells (secV (fill ⟨#[]⟩)).toArray 93 (0, 0)) := heap_alloc2_new w _ _
  have hown : OwnS ((w.alloc (.cells (secV s0).toArray 93)).alloc (.cells (secV (fill ⟨#[]⟩)).toArray 93)) v t := h.kept (F := fun _ => False) (((Kept.refl _ w).alloc _).alloc _) (fun _ _ h => h)
  have hgb : w.grownBy ((w.alloc (.cells (secV s0).toArray 93)).alloc (.cells (secV (fill ⟨#[]⟩)).toArray 93)) (some bk) := gb_new (gb_new (gb_refl _ _) _) _
  have hrow := (hr.behindNew (.cells (secV s0).toArray 93)).behindNew (.cells (secV (fill ⟨#[]⟩)).toArray 93)
  have hn0 : decide ((0 : Int) < (n : Int) + 1) = true := decide_eq_true (by omega)
  generalize hW2 : (w.alloc (.cells (secV s0).toArray 93)).alloc (.cells (secV (fill ⟨#[]⟩)).toArray 93) = W2 at *
  have hn2 : (1 : Int) ≤ (n : Int) + 1 := by omega
  have hnc : ((n + 1 : Nat) : Int) ≤ (cap : Int) := by omega
  have htl : (t.length : Int) ≤ 100000 := by omega
  have hob := h.any
  obtain ⟨vA, vc, hvf⟩ := hob
  -- what the blocks are behind the numbers' store
  have hfar : ∀ u i, i ≠ bk → ((W2.setCell ⟨bk, 0, none⟩ u).drew).heap[i]? = W2.heap[i]? := fun u i hi => Below.heap_setCell W2 ⟨bk, 0, none⟩ u i hi
  have HA0 : Hid (∀ u, ((W2.setCell ⟨bk, 0, none⟩ u).drew).rangeAt w.heap.size 0 (secV s0)) := Lib.hid (fun u j y hy => by
    rw [Nat.zero_add, cell_of_row _ w.heap.size j _ _ (0, 0) ((hfar u _ (by omega)).trans hA0), List.getElem?_toArray]
    exact hy)
  have HA1 : Hid (∀ u, ((W2.setCell ⟨bk, 0, none⟩ u).drew).heap[w.heap.size + 1]? = some (.cells (secV (fill ⟨#[]⟩)).toArray 93 (0, 0))) := Lib.hid (fun u => (hfar u _ (by omega)).trans hA1)
  have HP : Hid (∀ j y, t[j]? = some y → ∃ g, vA = some ⟨g, 0, none⟩ ∧ ∀ u, ((W2.setCell ⟨bk, 0, none⟩ u).drew).rangeAt g (j * 64) (secV y)) := Lib.hid (fun j y hy => by
    have hjl := (List.getElem?_eq_some_iff.1 hy).1
    obtain ⟨g, cap', e, hg⟩ := hown.form (by omega)
    rw [hvf] at e
    injection e with e1 e2 e3
    refine ⟨g, e1, fun u => ?_⟩
    have ho2 : OwnS ((W2.setCell ⟨bk, 0, none⟩ u).drew) v t := by
      rw [hvf, e1] at hown hvb ⊢
      exact hown.same (hfar u g (fun e => hvb (by rw [e]; rfl)))
    rw [hvf, e1, e3] at ho2
    exact ho2.range hy)
  have fin : Hid (∀ (A : Option Addr), (0 < n → A = some ⟨kb, ko + 1, none⟩) → KeptPost x bk kb (ko + 1) n cap w (.returned (.agg (secV x).toArray)) ((((W2.setCell ⟨bk, 0, none⟩ (.slice A n (cap - 1))).drew).setRow (w.heap.size + 1) (secV x).toArray))) := Lib.hid (fun A hA => by
    refine ⟨rfl, ⟨A, ?_, hA⟩, gb_row (gb_draw (gb_store hgb 0 _)) (by omega) _⟩
    have h1 : Row ((W2.setCell ⟨bk, 0, none⟩ (.slice A n (cap - 1))).drew) bk 34 #[.slice A n (cap - 1)] := hrow.stored 0 _
    exact (setRow_other _ _ bk _ (by omega)).trans h1)
  have Hsz := Lib.hid (sec_size hx64)
  have Hsl : Hid ((Tryz.prog.info? 93).map (·.size) = some (secV x).length) := Lib.hid (by rw [secV_len, hx64]; exact secInfo)
  have Hx64 := Lib.hid hx64
  have HW2 := Lib.hid hW2
  clear hz h hr hk hA0 hA1 hown hgb hrow hfar hW2 hpx hs hx64 hvb
  rw [hvf]
  clear hvf
  have hz := (zero_of_info secZero).1
  have c0 := c1
  rw [← HW2.out] at c0
  have Hc1 := Lib.hid c1
  clear c1
  rcases hcase with ⟨hq, rfl⟩ | ⟨j, hj, hjl, hjx⟩
  · clear hb
    go_enter Tryz.func70, Tryz.ntmps70
    go_wp2_with fail
    clear c0
    have c1 := Hc1.out
    rw [HW2.out]
    go_region
    clear c1 c2 f1
    all_goals
      go_wp2_with (first | refine wpList_load_mid rfl 93 (.tmp 3) (by rfl) w.heap.size 0 (by rfl) (secV x) _ (HA0.out _) Tryz.underlying93 rfl Hsl.out ?_ | refine wpList_store_row rfl 93 (.tmp 5) (.tmp 26) (by rfl) (w.heap.size + 1) _ (by rfl) (by rfl) 93 _ (HA1.out _) Hsz.out (by rw [List.size_toArray, List.size_toArray, secV_len, secV_len, fill_nil, Hx64.out]) (all_oneCell_toArray (secV_one _)) ?_)
      all_goals
        refine bodyPost_ret (v := .agg (secV x).toArray) (results_cell_row (by rfl) _ _ (w.heap.size + 1) 93 _ (0, 0) _ (by rfl) (setRow_heap _ _ _ _ _ _ (HA1.out _)) Tryz.underlying93 rfl Hsz.out) rfl ?_
        first
          | (have hc1 : cap = 1 := by assumption
             have f := fin.out (some ⟨kb, ko, none⟩) (fun h => by omega)
             rw [hc1] at f
             exact f)
          | exact fin.out (some ⟨kb, ko + 1, none⟩) (fun _ => rfl)
  · obtain ⟨g, rfl, hgr⟩ := HP.out j x hjx
    have Hgr := Lib.hid hgr
    clear hgr hjx
    generalize hqq : k.tmod (1 + (t.length : Int)) = q at *
    by_cases hneg : q < 0
    · have i1 : (-q - 1).toNat = j := by omega
      have i2 : (0 : Int) ≤ -q - 1 := by omega
      have i3 : -q - 1 < (t.length : Int) := by omega
      have i4 : (-q == 0) = false := by rw [beq_eq_false_iff_ne]; omega
      have i5 : IntKind.i64.wrap (-q - 1) = -q - 1 := IntWalk.i64_in _ ⟨by omega, by omega⟩
      clear hj hjl
      go_enter Tryz.func70, Tryz.ntmps70
      go_wp2_with fail
      clear c0
      have c1 := Hc1.out
      rw [HW2.out]
      go_region
      clear c1 c2 f1
      all_goals
        go_wp2_with (first | refine wpList_load_mid rfl 93 (.tmp 30) (by rfl) g (j * 64) (by rfl) (secV x) _ (Hgr.out _) Tryz.underlying93 rfl Hsl.out ?_ | refine wpList_store_row rfl 93 (.tmp 5) (.tmp 31) (by rfl) (w.heap.size + 1) _ (by rfl) (by rfl) 93 _ (HA1.out _) Hsz.out (by rw [List.size_toArray, List.size_toArray, secV_len, secV_len, fill_nil, Hx64.out]) (all_oneCell_toArray (secV_one _)) ?_)
        all_goals
          refine bodyPost_ret (v := .agg (secV x).toArray) (results_cell_row (by rfl) _ _ (w.heap.size + 1) 93 _ (0, 0) _ (by rfl) (setRow_heap _ _ _ _ _ _ (HA1.out _)) Tryz.underlying93 rfl Hsz.out) rfl ?_
          first
            | (have hc1 : cap = 1 := by assumption
               have f := fin.out (some ⟨kb, ko, none⟩) (fun h => by omega)
               rw [hc1] at f
               exact f)
            | exact fin.out (some ⟨kb, ko + 1, none⟩) (fun _ => rfl)
    · have i1 : (q - 1).toNat = j := by omega
      have i2 : (0 : Int) ≤ q - 1 := by omega
      have i3 : q - 1 < (t.length : Int) := by omega
      have i4 : (q == 0) = false := by rw [beq_eq_false_iff_ne]; omega
      have i5 : IntKind.i64.wrap (q - 1) = q - 1 := IntWalk.i64_in _ ⟨by omega, by omega⟩
      have i6 : decide (q < 0) = false := by simpa using hneg
      have i7 : 1 ≤ q := by omega
      clear hj hjl hneg
      go_enter Tryz.func70, Tryz.ntmps70
      go_wp2_with fail
      clear c0
      have c1 := Hc1.out
      rw [HW2.out]
      go_region
      clear c1 c2 f1
      all_goals
        go_wp2_with (first | refine wpList_load_mid rfl 93 (.tmp 30) (by rfl) g (j * 64) (by rfl) (secV x) _ (Hgr.out _) Tryz.underlying93 rfl Hsl.out ?_ | refine wpList_store_row rfl 93 (.tmp 5) (.tmp 31) (by rfl) (w.heap.size + 1) _ (by rfl) (by rfl) 93 _ (HA1.out _) Hsz.out (by rw [List.size_toArray, List.size_toArray, secV_len, secV_len, fill_nil, Hx64.out]) (all_oneCell_toArray (secV_one _)) ?_)
        all_goals
          refine bodyPost_ret (v := .agg (secV x).toArray) (results_cell_row (by rfl) _ _ (w.heap.size + 1) 93 _ (0, 0) _ (by rfl) (setRow_heap _ _ _ _ _ _ (HA1.out _)) Tryz.underlying93 rfl Hsz.out) rfl ?_
          first
            | (have hc1 : cap = 1 := by assumption
               have f := fin.out (some ⟨kb, ko, none⟩) (fun h => by omega)
               rw [hc1] at f
               exact f)
            | exact fin.out (some ⟨kb, ko + 1, none⟩) (fun _ => rfl)

set_option maxRecDepth 100000 in
set_option maxHeartbeats 1000000 in
theorem keep_none {w : World} {v : Value} {s0 : ByteArray} {t : List ByteArray} {bk cap : Nat} {A : Option Addr} (hs : s0.size = 64) (h : OwnS w v t) (hm : t.length ≤ 100000) (hr : Row w bk 34 #[.slice A 0 cap]) :
    Calls Tryz.prog 70 #[.agg (secV s0).toArray, v, .pointer (some ⟨bk, 0, none⟩)] w fun e w' => e = .returned (.agg (secV s0).toArray) ∧ Row w' bk 34 #[.slice A 0 cap] ∧ w.grownBy w' (some bk) := by
  have hz := (zero_of_info secZero).1
  have hbk := hr.inHeap
  have c1 : ((w.alloc (.cells (secV s0).toArray 93)).alloc (.cells (secV (fill ⟨#[]⟩)).toArray 93)).cell? ⟨bk, 0, none⟩ = some (.slice A 0 cap) := ((hr.behindNew _).behindNew _).at 0
  have hA0 : ((w.alloc (.cells (secV s0).toArray 93)).alloc (.cells (secV (fill ⟨#[]⟩)).toArray 93)).rangeAt w.heap.size 0 (secV s0) := fun j y hy => by
    rw [Nat.zero_add, cell_of_row _ w.heap.size j _ _ (0, 0) (heap_alloc2_old w _ _), List.getElem?_toArray]
    exact hy
  have hgb : w.grownBy ((w.alloc (.cells (secV s0).toArray 93)).alloc (.cells (secV (fill ⟨#[]⟩)).toArray 93)) (some bk) := gb_new (gb_new (gb_refl _ _) _) _
  have hrow := (hr.behindNew (.cells (secV s0).toArray 93)).behindNew (.cells (secV (fill ⟨#[]⟩)).toArray 93)
  have fin : Hid (Row (((w.alloc (.cells (secV s0).toArray 93)).alloc (.cells (secV (fill ⟨#[]⟩)).toArray 93)).setRow (w.heap.size + 1) (secV s0).toArray) bk 34 #[.slice A 0 cap] ∧ w.grownBy (((w.alloc (.cells (secV s0).toArray 93)).alloc (.cells (secV (fill ⟨#[]⟩)).toArray 93)).setRow (w.heap.size + 1) (secV s0).toArray) (some bk)) := Lib.hid
    ⟨(setRow_other _ _ bk _ (by omega)).trans hrow, gb_row hgb (by omega) _⟩
  have htl : (t.length : Int) ≤ 100000 := by omega
  obtain ⟨vA, vc, rfl⟩ := h.any
  have HA0 := Lib.hid hA0
  have Hs := Lib.hid hs
  have Hsz := Lib.hid (sec_size hs)
  have Hsl : Hid ((Tryz.prog.info? 93).map (·.size) = some (secV s0).length) := Lib.hid (by rw [secV_len, hs]; exact secInfo)
  clear h hr hA0 hgb hrow hs
  go_enter Tryz.func70, Tryz.ntmps70
  go_wp2_with (first | refine wpList_load_mid rfl 93 (.tmp 3) (by rfl) w.heap.size 0 (by rfl) (secV s0) _ HA0.out Tryz.underlying93 rfl Hsl.out ?_ | refine wpList_store_row rfl 93 (.tmp 5) (.tmp 26) (by rfl) (w.heap.size + 1) _ (by rfl) (by rfl) 93 _ (heap_alloc2_new w _ _) Hsz.out (by rw [List.size_toArray, List.size_toArray, secV_len, secV_len, fill_nil, Hs.out]) (all_oneCell_toArray (secV_one _)) ?_)
  refine bodyPost_ret (v := .agg (secV s0).toArray) (results_cell_row (by rfl) _ _ (w.heap.size + 1) 93 _ (0, 0) _ (by rfl) (setRow_heap _ _ _ _ _ _ (heap_alloc2_new w _ _)) Tryz.underlying93 rfl Hsz.out) rfl ?_
  exact ⟨rfl, fin.out⟩
end Go.Proofs.YtbfjageaheijbaaGreat
