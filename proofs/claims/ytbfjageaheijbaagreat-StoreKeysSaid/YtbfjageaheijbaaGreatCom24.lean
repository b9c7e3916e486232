/- The landed disk: a crash. -/
import Derived.Test.YtbfjageaheijbaaGreatCom23
import Derived.Test.YtbfjageaheijbaaGreatCom22
import Derived.Test.YtbfjageaheijbaaGreatCom9
set_option linter.unusedSimpArgs false
set_option linter.unusedVariables false
namespace Go.Proofs.YtbfjageaheijbaaGreat
open Go.RowKit Dsk

/-- The numbers that are left to the closure. -/
def Nums (w : World) (bk kb ko : Nat) (ks : List Int) (i : Nat) : Prop :=
  ∃ A c, Row w bk 34 #[.slice A (ks.length - i) c] ∧ ks.length - i ≤ c ∧ ks.length ≤ 9223372036854775807 ∧ (0 < ks.length - i → A = some ⟨kb, ko + i, none⟩)

section
variable {w : World} {F : Nat → Prop} {b bm : Nat} {sv : Value} {N : Nat} {M : DataW Value} {pv : Nat → Value} {d : D}

/-- While the sectors are gone through. -/
structure Cr (w : World) (F : Nat → Prop) (b bm bk kb ko : Nat) (sv : Value) (N : Nat) (pv : Nat → Value) (d : D) (ks : List Int) (j : Nat) (ok : Bool) (wr : World) : Prop where
  out : ∃ M : DataW Value, DAt wr F b bm sv N M pv ⟨crashOn ks (dirtyFrom 0 (d.S.take j)) 0 d.S, d.calls, d.armed, d.down⟩
  same : ∀ i, j ≤ i → (crashOn ks (dirtyFrom 0 (d.S.take j)) 0 d.S)[i]? = d.S[i]?
  nums : Nums wr bk kb ko ks (dirtyFrom 0 (d.S.take j)).length
  le : j ≤ d.S.length
  yes : ok = true → j < d.S.length ∧ ∀ l, d.S[j]? = some l → 1 < l.length
  no : ok = false → j = d.S.length
  kept : Kept F w wr
  new : w.heap.size ≤ bk

set_option maxRecDepth 100000 in
theorem Cr.skip {bk kb ko : Nat} {ks : List Int} {j : Nat} {wr : World} {e : Ending} {w' : World} (out : ∃ M : DataW Value, DAt wr F b bm sv N M pv ⟨crashOn ks (dirtyFrom 0 (d.S.take j)) 0 d.S, d.calls, d.armed, d.down⟩)
    (same : ∀ i, j ≤ i → (crashOn ks (dirtyFrom 0 (d.S.take j)) 0 d.S)[i]? = d.S[i]?) (nums : Nums wr bk kb ko ks (dirtyFrom 0 (d.S.take j)).length) (kept : Kept F w wr) (new : w.heap.size ≤ bk) 
    (h : Nxt (crashOn ks (dirtyFrom 0 (d.S.take j)) 0 d.S) j e wr w') :
    ∃ (j' : Nat) (ok : Bool), e = .returned (.tuple #[.int .i64 (j' : Int), .bool ok]) ∧ Cr w F b bm bk kb ko sv N pv d ks j' ok wr ∧ j ≤ j' ∧ wr = w' := by
  obtain ⟨⟨j', ok, e1, h1, h2, h3, h4, h5⟩, e2⟩ := h
  rw [crashOn_len] at h2 h4 h5
  have hsk : dirtyFrom 0 (d.S.take j') = dirtyFrom 0 (d.S.take j) := dirtyFrom_skip h1 h2 (fun i l q1 q2 q3 => h3 i l q1 q2 (by rw [same i q1]; exact q3))
  refine ⟨j', ok, e1, ⟨by rw [hsk]; exact out, fun i hi => by rw [hsk]; exact same i (by omega), by rw [hsk]; exact nums, h2, fun ho => ⟨(h4 ho).1, fun l hl => (h4 ho).2 l (by rw [same j' h1]; exact hl)⟩, h5, kept, new⟩, h1, e2⟩

/-- What the round at a sector finds. -/
structure At1 (F : Nat → Prop) (b bm bk g cap : Nat) (n : Nat) (v : Value) (s0 : ByteArray) (t : List ByteArray) (j : Nat) (wr w' : World) : Prop where
  c0 : w'.cell? ⟨b, 0, none⟩ = some (.slice (some ⟨g, 0, none⟩) n cap)
  c1 : w'.cell? ⟨b, 1, none⟩ = some (.map (some bm))
  lk : (Instr.lookup 71 (.map (some bm)) (.int .i64 (j : Int)) false).run Tryz.prog w' = .ok v w'
  rg : w'.rangeAt g (j * 64) (secV s0)
  th : w'.there g (j * 64) 64
  own : OwnS w' v t

set_option maxRecDepth 100000 in
theorem Cr.at1 {bk kb ko g cap : Nat} {ks : List Int} {j : Nat} {wr : World} (h : Cr w F b bm bk kb ko (.slice (some ⟨g, 0, none⟩) d.S.length cap) N pv d ks j true wr) (hF : ∀ i, F i → i < bk) :
    ∃ (s0 : ByteArray) (t : List ByteArray) (v : Value), d.S[j]? = some (s0 :: t) ∧ All64 (s0 :: t) ∧ v.ownBlock ≠ some bk ∧ ∀ w', Kept (fun i => i = bk) wr w' → At1 F b bm bk g cap d.S.length v s0 t j wr w' := by
  obtain ⟨⟨M, h1⟩, same, -, -, yes, -, -, new⟩ := h
  obtain ⟨hlt, hp⟩ := yes rfl
  have hl0 := List.getElem?_eq_getElem hlt
  have hl := same j (Nat.le_refl _)
  rw [hl0] at hl
  obtain ⟨s0, t, hst⟩ : ∃ s0 t, d.S[j] = s0 :: t := by
    cases e : d.S[j] with
    | nil => have := hp _ hl0; rw [e] at this; cases this
    | cons a q => exact ⟨a, q, rfl⟩
  rw [hst] at hl hl0
  obtain ⟨v, hv, hvo, hvp, -⟩ := h1.held hl
  have hp2 := hp _ hl0
  have hFb : ∀ i, F i → i ≠ bk := fun i hi e => by have := hF i hi; omega
  refine ⟨s0, t, v, hl0, h1.all64 _ (List.mem_of_getElem? hl), fun e => ?_, fun w' hk => ?_⟩
  · rw [hvp hp2] at e
    exact hFb _ (h1.inP j _ bk hl hp2 e).1 rfl
  · have h2 := h1.kept hk (fun i hi => hFb i hi)
    have hs := h2.safe
    have hln : (heads (crashOn ks (dirtyFrom 0 (d.S.take j)) 0 d.S)).length = d.S.length := by rw [heads_len, crashOn_len]
    rw [← hln] at hs
    have hg := heads_get hl
    refine ⟨h2.facts.1, h2.facts.2.1, look_at h2.map (h2.small hl) hv, hs.range hg, hs.there (by rw [hln]; exact hlt), hvo.kept hk (fun i hi => ?_)⟩
    rw [hvp hp2] at hi
    exact hFb _ (h1.inP j _ i hl hp2 hi).1

set_option maxRecDepth 100000 in
/-- The closure's answer: what is kept, and the numbers that are left. -/
theorem keep_any {w0 : World} {v : Value} {s0 : ByteArray} {t : List ByteArray} {bk kb ko i : Nat} {ks : List Int} (hs : s0.size = 64) (h : OwnS w v t) (hm : t.length ≤ 100000) (hr : Nums w bk kb ko ks i) (hvb : v.ownBlock ≠ some bk) 
    (hkb : i < ks.length → kb < w.heap.size ∧ ∀ u, ks[i]? = some u → w.cell? ⟨kb, ko + i, none⟩ = some (.int .i64 u)) (hks : ∀ x ∈ ks, -9223372036854775808 ≤ x ∧ x ≤ 9223372036854775807) (hk0 : Kept (fun i => i = bk) w0 w) :
    Calls Tryz.prog 70 #[.agg (secV s0).toArray, v, .pointer (some ⟨bk, 0, none⟩)] w fun e w' => e = .returned (.agg (secV (pick (s0 :: t) (ks.getD i 0))).toArray) ∧ Kept (fun i => i = bk) w0 w' ∧ Nums w' bk kb ko ks (i + 1) := by
  obtain ⟨A, c, hrow, hc1, hc2, hA⟩ := hr
  by_cases hi : i < ks.length
  · obtain ⟨p1, p2⟩ := hkb hi
    have hki := List.getElem?_eq_getElem hi
    have hgd : ks.getD i 0 = ks[i] := by rw [List.getD_eq_getElem?_getD, hki]; rfl
    rw [hgd]
    have e1 : ks.length - i = (ks.length - (i + 1)) + 1 := by omega
    have hA' := hA (by omega)
    subst hA'
    rw [e1] at hrow hc1
    have hb := hks _ (List.getElem_mem hi)
    refine (keep_next hs h hm hrow hvb p1 (p2 _ hki) hb.1 hb.2 hc1 (by omega)).mono ?_
    rintro e w' ⟨rfl, ⟨A', q1, q2⟩, q3⟩
    refine ⟨rfl, hk0.trans (Kept.ofGrown q3 (fun i e => by injection e with e; exact e.symm)) (fun _ _ h => h), A', c - 1, q1, by omega, by omega, fun h => ?_⟩
    rw [q2 h, Nat.add_assoc]
  · have hgd : ks.getD i 0 = 0 := by rw [List.getD_eq_getElem?_getD, List.getElem?_eq_none (by omega)]; rfl
    rw [hgd]
    have e0 : pick (s0 :: t) 0 = s0 := pick_zero (Int.zero_tmod _)
    rw [e0]
    have e1 : ks.length - i = 0 := by omega
    have e2 : ks.length - (i + 1) = 0 := by omega
    rw [e1] at hrow
    refine (keep_none hs h hm hrow).mono ?_
    rintro e w' ⟨rfl, q1, q3⟩
    refine ⟨rfl, hk0.trans (Kept.ofGrown q3 (fun i e => by injection e with e; exact e.symm)) (fun _ _ h => h), A, c, by rw [e2]; exact q1, by omega, hc2, fun h => by omega⟩

set_option maxRecDepth 100000 in
/-- A sector is done. w3: behind the store, w4: behind the delete. -/
theorem Cr.round {bk kb ko g cap : Nat} {ks : List Int} {j : Nat} {s0 : ByteArray} {t : List ByteArray} {wr w2 : World} (h : Cr w F b bm bk kb ko (.slice (some ⟨g, 0, none⟩) d.S.length cap) N pv d ks j true wr) (hF : ∀ i, F i → i < bk)
    (hl : d.S[j]? = some (s0 :: t)) (h64 : All64 (s0 :: t)) (hk : Kept (fun i => i = bk) wr w2) (hn : Nums w2 bk kb ko ks ((dirtyFrom 0 (d.S.take j)).length + 1)) {x : ByteArray} (hx : x = pick (s0 :: t) (ks.getD (dirtyFrom 0 (d.S.take j)).length 0)) (hx64 : x.size = 64) :
    ∃ M : DataW Value, (w2.setCells g (j * 64) (secV x)).ownsMap Tryz.prog 3 rawElem bm N M ∧ (w2.setCells g (j * 64) (secV x)).cell? ⟨b, 1, none⟩ = some (.map (some bm)) ∧
      ∀ w4 : World, w4.ownsMap Tryz.prog 3 rawElem bm N (M.del (key j)) → (w2.setCells g (j * 64) (secV x)).mapTurned w4 bm →
        (∃ M' : DataW Value, DAt w4 F b bm (.slice (some ⟨g, 0, none⟩) d.S.length cap) N M' pv ⟨crashOn ks (dirtyFrom 0 (d.S.take (j + 1))) 0 d.S, d.calls, d.armed, d.down⟩) ∧
        (∀ i, j + 1 ≤ i → (crashOn ks (dirtyFrom 0 (d.S.take (j + 1))) 0 d.S)[i]? = d.S[i]?) ∧ Nums w4 bk kb ko ks (dirtyFrom 0 (d.S.take (j + 1))).length ∧ Kept F w w4 ∧ j + 1 ≤ d.S.length := by
  obtain ⟨⟨M, h1⟩, same, -, -, yes, -, kept, new⟩ := h
  obtain ⟨hlt, hp⟩ := yes rfl
  have hp2 := hp _ hl
  have hl2 := same j (Nat.le_refl _)
  rw [hl] at hl2
  have hFb : ∀ i, F i → i ≠ bk := fun i hi e => by have := hF i hi; omega
  have h2 := h1.kept hk (fun i hi => hFb i hi)
  have hs := h2.safe
  have hln : (heads (crashOn ks (dirtyFrom 0 (d.S.take j)) 0 d.S)).length = d.S.length := by rw [heads_len, crashOn_len]
  rw [← hln] at hs
  have hst := hs.store (i := j) (s := x) (by rw [hln]; exact hlt) hx64
  rw [hln] at hst
  have hgr := grown_setCells g (secV x) (j * 64) w2
  have hbg : b ≠ g := fun e => (h1.inS g rfl).2 e.symm
  have hmg : bm ≠ g := fun e => (h1.ne.2.1 g rfl) e.symm
  have hk1 : Kept (fun i => (Value.slice (some ⟨g, 0, none⟩) d.S.length cap).ownBlock = some i) w2 (w2.setCells g (j * 64) (secV x)) := Kept.ofGrown hgr (fun i e => e)
  have hmp := ownsMap_kept h2.map hk1 (fun e => hmg (by injection e with e; exact e.symm))
  refine ⟨M, hmp, (World.cell?_of_block (w := w2) (hgr.block b h2.lt (by simpa using hbg))).trans h2.facts.2.1, fun w4 hm4 hturn => ?_⟩
  have hk2 : Kept (fun i => i = bm) (w2.setCells g (j * 64) (secV x)) w4 := Kept.ofGrown hturn.grown (fun i e => by injection e with e; exact e.symm)
  have h5 := h2.lay (k := j) hl2 hx64 hk1 hst hk2 hm4
  have hdt : dirtyFrom 0 (d.S.take (j + 1)) = dirtyFrom 0 (d.S.take j) ++ [j] := by rw [dirty_take hl, if_pos hp2]
  have hcr : crashOn ks (dirtyFrom 0 (d.S.take (j + 1))) 0 d.S = (crashOn ks (dirtyFrom 0 (d.S.take j)) 0 d.S).set j [x] := by
    rw [hdt, crashOn_snoc, Nat.zero_add, List.getD_eq_getElem?_getD, hl2, hx]
    rfl
  rw [hcr, hdt, List.length_append]
  refine ⟨⟨_, h5⟩, fun i hi => ?_, ?_, ?_, hlt⟩
  · rw [List.getElem?_set_ne (by omega)]
    exact same i (by omega)
  · obtain ⟨A, c, q1, q2⟩ := hn
    have gk : bk ≠ g := fun e => hFb g (h1.inS g rfl).1 e.symm
    have mk : bk ≠ bm := fun e => hFb bm h1.inM e.symm
    exact ⟨A, c, Row.kept (Row.kept q1 hk1 (fun e => gk (by injection e with e; exact e.symm))) hk2 mk, q2⟩
  · have q1 : Kept F w w2 := kept.trans (hk.mono (G := fun i => F i ∨ i = bk) (fun i hi => Or.inr hi)) (fun i hi e => by
      rcases e with e | e
      · exact e
      · omega)
    have q2 : Kept F w2 (w2.setCells g (j * 64) (secV x)) := hk1.mono (fun i hi => (h1.inS i hi).1)
    have q3 : Kept F (w2.setCells g (j * 64) (secV x)) w4 := hk2.mono (fun i hi => by subst hi; exact h1.inM)
    exact (q1.trans q2 (fun _ _ h => h)).trans q3 (fun _ _ h => h)

set_option maxRecDepth 100000 in
theorem Cr.finish {bk kb ko : Nat} {ks : List Int} {wr w' : World} (h : Cr w F b bm bk kb ko sv N pv d ks d.S.length false wr) (hr : ∀ M : DataW Value, DAt wr F b bm sv N M pv ⟨(d.crash ks).S, d.calls, d.armed, d.down⟩ → Row w' b 73 (dcells sv bm (d.crash ks))) (hg : wr.grownBy w' (some b)) :
    Does At w F (.pointer (some ⟨b, 0, none⟩)) (d.crash ks) w' := by
  obtain ⟨⟨M, h1⟩, -, -, -, -, -, kept, -⟩ := h
  rw [List.take_length] at h1
  have h2 := h1.turn (c := d.calls) (a := 0) (q := false) (hr M h1) hg (Nat.le_refl _)
  refine ⟨⟨b, bm, sv, N, M, pv, rfl, h2.mono (fun _ hi => Or.inl hi)⟩, kept.trans (Kept.ofGrown (F := F) hg (fun i e => by injection e with e; subst e; exact h1.inB)) (fun _ _ h => h)⟩

set_option maxRecDepth 100000 in
set_option maxHeartbeats 4000000 in
theorem crash_ok {kv : Value} {G : Nat → Prop} {ks : List Int} (h : DAt w F b bm sv N M pv d) (hF : ∀ i, F i → i < w.heap.size) (hkv : Cells w G kv (ks.map (Value.int .i64))) (hG : ∀ i, G i → ¬ F i) (hks : Ints64 ks) (hmx : ∀ l ∈ d.S, l.length ≤ 100001) :
    Calls Tryz.prog 21 #[.pointer (some ⟨b, 0, none⟩), kv] w fun e w' => e = .returned (.tuple #[]) ∧ Does At w F (.pointer (some ⟨b, 0, none⟩)) (d.crash ks) w' := by
  obtain ⟨g, cap, rfl, hg⟩ := h.safeForm
  obtain ⟨A, kc, hkvf, hkc, hkat⟩ := hkv
  rw [List.length_map] at hkvf hkc hkat
  -- where the numbers lie
  have hK : ∃ kb ko, (0 < ks.length → A = some ⟨kb, ko, none⟩) ∧ (0 < ks.length → ¬ F kb ∧ kb < w.heap.size ∧ ∀ i u, ks[i]? = some u → w.cell? ⟨kb, ko + i, none⟩ = some (.int .i64 u)) := by
    by_cases hp : 0 < ks.length
    · obtain ⟨kb, ko, e, h1, h2, h3⟩ := hkat hp
      exact ⟨kb, ko, fun _ => e, fun _ => ⟨hG kb h1, h2, fun i u hu => h3 i _ (by rw [List.getElem?_map, hu]; rfl)⟩⟩
    · exact ⟨0, 0, fun h => absurd h hp, fun h => absurd h hp⟩
  obtain ⟨kb, ko, hA, hKat⟩ := hK
  have hkc2 := hks.2
  have start : Hid (Cr w F b bm w.heap.size kb ko (.slice (some ⟨g, 0, none⟩) d.S.length cap) N pv d ks 0 false (w.alloc (.cells #[.slice A ks.length kc] 34)) → True) := Lib.hid (fun _ => trivial)
  have start0 : ∀ e w', Nxt d.S 0 e (w.alloc (.cells #[.slice A ks.length kc] 34)) w' → ∃ (j' : Nat) (ok : Bool), e = .returned (.tuple #[.int .i64 (j' : Int), .bool ok]) ∧ Cr w F b bm w.heap.size kb ko (.slice (some ⟨g, 0, none⟩) d.S.length cap) N pv d ks j' ok (w.alloc (.cells #[.slice A ks.length kc] 34)) ∧ 0 ≤ j' ∧ (w.alloc (.cells #[.slice A ks.length kc] 34)) = w' := fun e w' hn => by
    refine Cr.skip (j := 0) (N := N) ⟨M, ?_⟩ (fun i _ => rfl) ?_ ((Kept.refl F w).alloc _) (Nat.le_refl _) hn
    · exact h.kept ((Kept.refl (fun _ => False) w).alloc _) (fun _ _ h => h)
    · exact ⟨A, kc, Row.made w _ _, hkc, hkc2, hA⟩
  have nx0 := next_any (h.kept ((Kept.refl (fun _ => False) w).alloc (.cells #[.slice A ks.length kc] 34)) (fun _ _ h => h)) (Nat.zero_le _)
  have Nx0 := Lib.hid nx0
  have Start := Lib.hid start0
  have Hkp0 := Lib.hid (keeper_any (w := w) hkvf)
  have HF := Lib.hid hF
  have Hmx := Lib.hid hmx
  have HKat : Hid (0 < ks.length → ∀ wr, Kept F w wr → kb < wr.heap.size ∧ ∀ i u, ks[i]? = some u → wr.cell? ⟨kb, ko + i, none⟩ = some (.int .i64 u)) := Lib.hid (fun hp wr hk => by
    obtain ⟨q1, q2, q3⟩ := hKat hp
    exact ⟨Nat.lt_of_lt_of_le q2 hk.size, fun i u hu => (hk.cell (p := ⟨kb, ko + i, none⟩) q2 q1).trans (q3 i u hu)⟩)
  have Hks := Lib.hid hks.1
  have Hlen : Hid (d.S.length ≤ 4096) := Lib.hid h.few
  clear nx0 start0 start hmx hF hG hKat hks hA hkat h hkc hkc2
  subst hkvf
  go_enter Tryz.func21, Tryz.ntmps21
  go_wp2_with (go_at_call 44; with_reducible refine Hkp0.out.mono ?_; rintro e w' ⟨rfl, rfl⟩)
  refine Nx0.out.mono ?_
  intro e w' hN
  obtain ⟨j, ok, rfl, hC, -, rfl⟩ := Start.out _ _ hN
  clear hN
  generalize w.heap.size = bk at *
  go_wp2_with fail
  go_loopw [5, 6] (fun a o wr => ∃ (j : Nat) (ok : Bool), a = .int .i64 (j : Int) ∧ o = .bool ok ∧ Cr w F b bm bk kb ko (.slice (some ⟨g, 0, none⟩) d.S.length cap) N pv d ks j ok wr) (fun a _ _ => d.S.length - (intOf a).toNat)
  case atStart => exact ⟨j, ok, rfl, rfl, hC⟩
  case round =>
    clear hC
    obtain ⟨j, ok, rfl, rfl, hC⟩ := hrel
    cases ok
    · have hj : j = d.S.length := hC.no rfl
      subst hj
      have HC := Lib.hid hC
      have hfacts : wr.cell? ⟨b, 3, none⟩ = some (.int .i64 (d.armed : Int)) ∧ wr.cell? ⟨b, 4, none⟩ = some (.bool d.down) ∧ wr.frozen? ⟨b, 3, none⟩ = false ∧ wr.frozen? ⟨b, 4, none⟩ = false := by
        obtain ⟨M', h1⟩ := hC.out
        obtain ⟨-, -, -, f3, f4, -, f5, f6⟩ := h1.facts
        exact ⟨f3, f4, f5, f6⟩
      obtain ⟨f3, f4, f5, f6⟩ := hfacts
      have fin : Hid (Does At w F (.pointer (some ⟨b, 0, none⟩)) (d.crash ks) ((wr.setCell ⟨b, 3, none⟩ (.int .i64 0)).setCell ⟨b, 4, none⟩ (.bool false))) := Lib.hid (hC.finish (fun M' h1 => (h1.blk.stored 3 _).stored 4 _) (gb_store (gb_store (gb_refl _ _) 3 _) 4 _))
      clear hC
      go_wp2_with fail
      go_end0
      exact ⟨rfl, fin.out⟩
    · have hlt : j < d.S.length := (hC.yes rfl).1
      obtain ⟨s0, t, v, hl, h64, hvb, hat⟩ := hC.at1 HF.out
      have HC := Lib.hid hC
      have Hl := Lib.hid hl
      have H64 := Lib.hid h64
      have Hat := Lib.hid hat
      have hj0 : (0 : Int) ≤ (j : Int) := by omega
      have hj1 : (j : Int) < (d.S.length : Int) := by omega
      have hj4 : (d.S.length : Int) ≤ 4096 := by have := Hlen.out; omega
      have Hs0 : Hid (s0.size = 64) := Lib.hid (h64 s0 (by simp))
      have Hj6 : Hid (j ≤ 1000000) := Lib.hid (by have := Hlen.out; omega)
      have Hkp : Hid (Calls Tryz.prog 70 #[.agg (secV s0).toArray, v, .pointer (some ⟨bk, 0, none⟩)] wr.drew fun e w2 => e = .returned (.agg (secV (pick (s0 :: t) (ks.getD (dirtyFrom 0 (d.S.take j)).length 0))).toArray) ∧ Kept (fun i => i = bk) wr w2 ∧ Nums w2 bk kb ko ks ((dirtyFrom 0 (d.S.take j)).length + 1)) := Lib.hid (by
        refine keep_any Hs0.out (hat _ (Kept.refl _ wr).drew).own ?_ hC.nums hvb (fun hi => ?_) Hks.out (Kept.refl _ wr).drew
        · have := Hmx.out _ (List.mem_of_getElem? hl)
          rw [List.length_cons] at this; omega
        · obtain ⟨q1, q2⟩ := HKat.out (by omega) wr hC.kept
          exact ⟨q1, fun u hu => q2 _ u hu⟩)
      have hxx : ∃ x, x = pick (s0 :: t) (ks.getD (dirtyFrom 0 (d.S.take j)).length 0) ∧ x.size = 64 := by
        refine ⟨_, rfl, ?_⟩
        generalize ks.getD (dirtyFrom 0 (d.S.take j)).length 0 = k0
        have hb := tmod_bound k0 t.length
        by_cases e : k0.tmod (1 + (t.length : Int)) = 0
        · rw [pick_zero e]; exact Hs0.out
        · obtain ⟨i, hi⟩ : ∃ i, (k0.tmod (1 + (t.length : Int))).natAbs = i + 1 := ⟨(k0.tmod (1 + (t.length : Int))).natAbs - 1, by omega⟩
          have hil : i < t.length := by omega
          rw [pick_succ hi (List.getElem?_eq_getElem hil)]
          exact h64 _ (List.mem_cons_of_mem _ (List.getElem_mem hil))
      obtain ⟨x, hx, hx64⟩ := hxx
      rw [← hx] at Hkp
      have Hx := Lib.hid hx
      have Hx64 := Lib.hid hx64
      have Hc0 : Hid (∀ w', Kept (fun i => i = bk) wr w' → w'.cell? ⟨b, 0, none⟩ = some (.slice (some ⟨g, 0, none⟩) d.S.length cap)) := Lib.hid (fun w' hk => (hat w' hk).c0)
      have Hc1 : Hid (∀ w', Kept (fun i => i = bk) wr w' → w'.cell? ⟨b, 1, none⟩ = some (.map (some bm))) := Lib.hid (fun w' hk => (hat w' hk).c1)
      have Hlk : Hid (∀ w', Kept (fun i => i = bk) wr w' → (Instr.lookup 71 (.map (some bm)) (.int .i64 (j : Int)) false).run Tryz.prog w' = .ok v w') := Lib.hid (fun w' hk => (hat w' hk).lk)
      have Hrg : Hid (∀ w', Kept (fun i => i = bk) wr w' → w'.rangeAt g (j * 64) (secV s0)) := Lib.hid (fun w' hk => (hat w' hk).rg)
      have Hth : Hid (∀ w', Kept (fun i => i = bk) wr w' → w'.there g (j * 64) 64) := Lib.hid (fun w' hk => (hat w' hk).th)
      clear hC hl h64 hat hx hx64
      go_wp2_with fail
      refine wp_region_tail (n := 20) (S := (Kept (fun i => i = bk) wr)) (by kernel_rfl) (by kernel_rfl) (by rfl) ((Kept.refl _ wr).drew) (fun hHeld => ?_)
      refine wpAnyH_take (i := 0) (v := ?_) rfl (by kernel_rfl) (by kernel_rfl) (by kernel_rfl) (fun _ _ _ h => h) (Or.inl ⟨by rfl, (by intro w hSw; go_simp; try with_reducible rfl)⟩) (by assumption) ?_
      simp only [Act.put, List.getElem_toArray, List.getElem_cons_zero, List.getElem_cons_succ, List.setIfInBounds_toArray, List.set_cons_zero, List.set_cons_succ]
      refine wpAnyH_take (i := 1) (v := ?_) rfl (by kernel_rfl) (by kernel_rfl) (by kernel_rfl) (fun _ _ _ h => h) (Or.inl ⟨by rfl, (by intro w hSw; go_simp; try with_reducible rfl)⟩) (by assumption) ?_
      simp only [Act.put, List.getElem_toArray, List.getElem_cons_zero, List.getElem_cons_succ, List.setIfInBounds_toArray, List.set_cons_zero, List.set_cons_succ]
      refine wpAnyH_take (i := 2) (v := ?_) rfl (by kernel_rfl) (by kernel_rfl) (by kernel_rfl) (fun _ _ _ h => h) (Or.inl ⟨by rfl, (by intro w hSw; go_simp; try with_reducible rfl)⟩) (by assumption) ?_
      simp only [Act.put, List.getElem_toArray, List.getElem_cons_zero, List.getElem_cons_succ, List.setIfInBounds_toArray, List.set_cons_zero, List.set_cons_succ]
      refine wpAnyH_take (i := 3) (v := ?_) rfl (by kernel_rfl) (by kernel_rfl) (by kernel_rfl) (fun _ _ _ h => h) (Or.inl ⟨by rfl, (by intro w hSw; have c0 := Hc0.out w hSw; go_simp; try with_reducible rfl)⟩) (by assumption) ?_
      simp only [Act.put, List.getElem_toArray, List.getElem_cons_zero, List.getElem_cons_succ, List.setIfInBounds_toArray, List.set_cons_zero, List.set_cons_succ]
      refine wpAnyH_take (i := 4) (v := ?_) rfl (by kernel_rfl) (by kernel_rfl) (by kernel_rfl) (fun _ _ _ h => h) (Or.inl ⟨by rfl, (by intro w hSw; go_simp; try with_reducible rfl)⟩) (by assumption) ?_
      simp only [Act.put, List.getElem_toArray, List.getElem_cons_zero, List.getElem_cons_succ, List.setIfInBounds_toArray, List.set_cons_zero, List.set_cons_succ]
      refine wpAnyH_take (i := 5) (v := ?_) rfl (by kernel_rfl) (by kernel_rfl) (by kernel_rfl) (fun _ _ _ h => h) (Or.inl ⟨by rfl, (by intro w hSw; go_simp; try with_reducible rfl)⟩) (by assumption) ?_
      simp only [Act.put, List.getElem_toArray, List.getElem_cons_zero, List.getElem_cons_succ, List.setIfInBounds_toArray, List.set_cons_zero, List.set_cons_succ]
      refine wpAnyH_take (i := 6) (v := ?_) rfl (by kernel_rfl) (by kernel_rfl) (by kernel_rfl) (fun _ _ _ h => h) (Or.inl ⟨by rfl, (by intro w hSw; go_simp; try with_reducible rfl)⟩) (by assumption) ?_
      simp only [Act.put, List.getElem_toArray, List.getElem_cons_zero, List.getElem_cons_succ, List.setIfInBounds_toArray, List.set_cons_zero, List.set_cons_succ]
      refine wpAnyH_take (i := 7) (v := ?_) rfl (by kernel_rfl) (by kernel_rfl) (by kernel_rfl) (fun _ _ _ h => h) (Or.inl ⟨by rfl, (by intro w hSw; go_simp; try with_reducible rfl)⟩) (by assumption) ?_
      simp only [Act.put, List.getElem_toArray, List.getElem_cons_zero, List.getElem_cons_succ, List.setIfInBounds_toArray, List.set_cons_zero, List.set_cons_succ]
      refine wpAnyH_take (i := 8) (v := ?_) rfl (by kernel_rfl) (by kernel_rfl) (by kernel_rfl) (fun _ _ _ h => h) (Or.inl ⟨by rfl, (by intro w hSw; go_simp; try with_reducible rfl)⟩) (by assumption) ?_
      simp only [Act.put, List.getElem_toArray, List.getElem_cons_zero, List.getElem_cons_succ, List.setIfInBounds_toArray, List.set_cons_zero, List.set_cons_succ]
      refine wpAnyH_take (i := 9) (v := ?_) rfl (by kernel_rfl) (by kernel_rfl) (by kernel_rfl) (fun _ _ _ h => h) (Or.inl ⟨by rfl, (by intro w hSw; have c0 := Hc0.out w hSw; go_simp; try with_reducible rfl)⟩) (by assumption) ?_
      simp only [Act.put, List.getElem_toArray, List.getElem_cons_zero, List.getElem_cons_succ, List.setIfInBounds_toArray, List.set_cons_zero, List.set_cons_succ]
      refine wpAnyH_take (i := 10) (v := ?_) rfl (by kernel_rfl) (by kernel_rfl) (by kernel_rfl) (fun _ _ _ h => h) (Or.inl ⟨by rfl, (by intro w hSw; go_simp; try with_reducible rfl)⟩) (by assumption) ?_
      simp only [Act.put, List.getElem_toArray, List.getElem_cons_zero, List.getElem_cons_succ, List.setIfInBounds_toArray, List.set_cons_zero, List.set_cons_succ]
      refine wpAnyH_take (i := 11) (v := ?_) rfl (by kernel_rfl) (by kernel_rfl) (by kernel_rfl) (fun _ _ _ h => h) (Or.inl ⟨by rfl, (by intro w hSw; go_simp; try with_reducible rfl)⟩) (by assumption) ?_
      simp only [Act.put, List.getElem_toArray, List.getElem_cons_zero, List.getElem_cons_succ, List.setIfInBounds_toArray, List.set_cons_zero, List.set_cons_succ]
      refine wpAnyH_take (i := 12) (v := .agg (secV s0).toArray) rfl (by kernel_rfl) (by kernel_rfl) (by kernel_rfl) (fun _ _ _ h => h) (Or.inl ⟨by rfl, (by intro w hSw; refine exec_load (x := .tmp 35) (g := g) (o := j * 64) (by rfl) (by go_simp; try with_reducible rfl) (Hrg.out w hSw) Hs0.out)⟩) (by assumption) ?_
      simp only [Act.put, List.getElem_toArray, List.getElem_cons_zero, List.getElem_cons_succ, List.setIfInBounds_toArray, List.set_cons_zero, List.set_cons_succ]
      refine wpAnyH_take (i := 13) (v := ?_) rfl (by kernel_rfl) (by kernel_rfl) (by kernel_rfl) (fun _ _ _ h => h) (Or.inl ⟨by rfl, (by intro w hSw; go_simp; try with_reducible rfl)⟩) (by assumption) ?_
      simp only [Act.put, List.getElem_toArray, List.getElem_cons_zero, List.getElem_cons_succ, List.setIfInBounds_toArray, List.set_cons_zero, List.set_cons_succ]
      refine wpAnyH_take (i := 14) (v := ?_) rfl (by kernel_rfl) (by kernel_rfl) (by kernel_rfl) (fun _ _ _ h => h) (Or.inl ⟨by rfl, (by intro w hSw; go_simp; try with_reducible rfl)⟩) (by assumption) ?_
      simp only [Act.put, List.getElem_toArray, List.getElem_cons_zero, List.getElem_cons_succ, List.setIfInBounds_toArray, List.set_cons_zero, List.set_cons_succ]
      refine wpAnyH_take (i := 15) (v := ?_) rfl (by kernel_rfl) (by kernel_rfl) (by kernel_rfl) (fun _ _ _ h => h) (Or.inl ⟨by rfl, (by intro w hSw; go_simp; try with_reducible rfl)⟩) (by assumption) ?_
      simp only [Act.put, List.getElem_toArray, List.getElem_cons_zero, List.getElem_cons_succ, List.setIfInBounds_toArray, List.set_cons_zero, List.set_cons_succ]
      refine wpAnyH_take (i := 16) (v := ?_) rfl (by kernel_rfl) (by kernel_rfl) (by kernel_rfl) (fun _ _ _ h => h) (Or.inl ⟨by rfl, (by intro w hSw; have c1 := Hc1.out w hSw; go_simp; try with_reducible rfl)⟩) (by assumption) ?_
      simp only [Act.put, List.getElem_toArray, List.getElem_cons_zero, List.getElem_cons_succ, List.setIfInBounds_toArray, List.set_cons_zero, List.set_cons_succ]
      refine wpAnyH_take (i := 17) (v := ?_) rfl (by kernel_rfl) (by kernel_rfl) (by kernel_rfl) (fun _ _ _ h => h) (Or.inl ⟨by rfl, (by intro w hSw; go_simp; try with_reducible rfl)⟩) (by assumption) ?_
      simp only [Act.put, List.getElem_toArray, List.getElem_cons_zero, List.getElem_cons_succ, List.setIfInBounds_toArray, List.set_cons_zero, List.set_cons_succ]
      refine wpAnyH_take (i := 18) (v := ?_) rfl (by kernel_rfl) (by kernel_rfl) (by kernel_rfl) (fun _ _ _ h => h) (Or.inl ⟨by rfl, (by intro w hSw; have lk := Hlk.out w hSw; go_simp; try with_reducible rfl)⟩) (by assumption) ?_
      simp only [Act.put, List.getElem_toArray, List.getElem_cons_zero, List.getElem_cons_succ, List.setIfInBounds_toArray, List.set_cons_zero, List.set_cons_succ]
      refine wpAnyH_ready (rs := [19]) (by kernel_rfl) (by simp) ?_
      refine AllReadyH.cons rfl (fun K hK => ?_) AllReadyH.nil
      go_simp
      go_at_call 70
      have hl2 := Hkp.out
      with_reducible refine hl2.mono ?_
      clear hl2
      rintro e w2 ⟨rfl, hk2⟩
      refine hK.out _ _ hk2.1 (fun hHeld2 => ?_)
      clear hK K
      refine wpAnyH_done (by kernel_rfl) ?_ _
      refine wpAny_of_held (S := fun _ => True) _ _ _ _ ?_
      have hHeld : True := trivial
      refine wpAnyH_take (i := 20) (v := ?_) rfl (by kernel_rfl) (by kernel_rfl) (by kernel_rfl) (fun _ _ _ h => h) (Or.inl ⟨by rfl, (by intro w hSw; go_simp; try with_reducible rfl)⟩) (by assumption) ?_
      simp only [Act.put, List.getElem_toArray, List.getElem_cons_zero, List.getElem_cons_succ, List.setIfInBounds_toArray, List.set_cons_zero, List.set_cons_succ]
      refine wpAnyH_ready (rs := [21]) (by kernel_rfl) (by simp) ?_
      refine AllReadyH.cons rfl (fun K hK => ?_) AllReadyH.nil
      refine step_mid (.tmp 44) (.tmp 43) (x := x) rfl (by rfl) (by go_simp; try with_reducible rfl) (g := g) (q0 := j * 64) (by go_simp; try with_reducible rfl) Hx64.out (Hth.out _ hHeld2) ?_
      refine hK.out _ _ trivial (fun hHeld => ?_)
      clear hK K
      refine wpAnyH_done (by kernel_rfl) ?_ _
      obtain ⟨M2, hm2, c1, hnext⟩ := HC.out.round HF.out Hl.out H64.out hk2.1 hk2.2 Hx.out Hx64.out
      have Hnext := Lib.hid hnext
      have Hkey : Hid (keyOf Tryz.prog 3 (.int .i64 (j : Int)) = some (key j)) := Lib.hid (key_of Hj6.out)
      clear hnext hHeld hHeld2 hk2
      generalize w2.setCells g (j * 64) (secV x) = w3 at *
      go_wp2_with (at_delete; refine wpList_delete_own _ rfl _ _ 71 3 rfl 70 intKeyed Tryz.underlying71 rawElem bm N M2 rfl hm2 _ (key j) rfl Hkey.out ?_; intro w4 hm4 hturn4)
      obtain ⟨⟨M4, h4⟩, hsame4, hnum4, hkept4, hjle⟩ := Hnext.out w4 hm4 hturn4
      have nx4 := next_any h4 (k := j + 1) (by show j + 1 ≤ (crashOn _ _ _ _).length; rw [crashOn_len]; exact hjle)
      have Nx4 := Lib.hid nx4
      have Sk4 : Hid (∀ e w', Nxt (crashOn ks (dirtyFrom 0 (d.S.take (j + 1))) 0 d.S) (j + 1) e w4 w' → ∃ (j' : Nat) (ok : Bool), e = .returned (.tuple #[.int .i64 (j' : Int), .bool ok]) ∧ Cr w F b bm bk kb ko (.slice (some ⟨g, 0, none⟩) d.S.length cap) N pv d ks j' ok w4 ∧ j + 1 ≤ j' ∧ w4 = w') := Lib.hid (fun e w' hn =>
        Cr.skip ⟨M4, h4⟩ hsame4 hnum4 hkept4 HC.out.new hn)
      clear h4 hsame4 hnum4 hkept4 nx4 hm4 hturn4 c1 hm2
      go_wp2_with fail
      refine Nx4.out.mono ?_
      intro e w' hN
      obtain ⟨j', ok', rfl, hC', hjj, rfl⟩ := Sk4.out _ _ hN
      clear hN
      go_wp2_with fail
      go_roundw
      case rel => exact ⟨j', ok', rfl, rfl, hC'⟩
      case measure => simp [intOf]; omega
end
end Go.Proofs.YtbfjageaheijbaaGreat
/- The package disk as it landed: its calls, one by one. -/
set_option linter.unusedSimpArgs false
set_option linter.unusedVariables false
namespace Go.Proofs.YtbfjageaheijbaaGreat
open Go.RowKit Dsk

/-- The disk in memory, all its blocks there. -/
def AtL (w : World) (F : Nat → Prop) (v : Value) (d : D) : Prop := At w F v d ∧ ∀ k, F k → k < w.heap.size

set_option maxRecDepth 100000 in
theorem does_lift {w w' : World} {F : Nat → Prop} {v : Value} {d : D} (hF : ∀ k, F k → k < w.heap.size) (h : Does At w F v d w') : Does AtL w F v d w' :=
  ⟨⟨h.1, fun _ hk => Grow.lt hk hF h.2.size⟩, h.2⟩

set_option maxRecDepth 100000 in
theorem atl_kept : ∀ {w w' F G v d}, AtL w F v d → Kept G w w' → (∀ i, F i → ¬ G i) → AtL w' F v d :=
  fun h k hd => ⟨by
    obtain ⟨⟨b, bm, sv, N, M, pv, e, h⟩, -⟩ := h
    exact ⟨b, bm, sv, N, M, pv, e, h.kept k hd⟩, fun i hi => Nat.lt_of_lt_of_le (h.2 i hi) k.size⟩

set_option maxRecDepth 100000 in
theorem atl_lt : ∀ {w F v d}, AtL w F v d → ∀ k, F k → k < w.heap.size :=
  fun h k hk => h.2 k hk

set_option maxRecDepth 100000 in
theorem atl_ptr : ∀ {w F v d}, AtL w F v d → ∃ p, v = .pointer (some p) :=
  fun h => by
    obtain ⟨⟨b, bm, sv, N, M, pv, e, -⟩, -⟩ := h
    exact ⟨_, e⟩

set_option maxRecDepth 100000 in
theorem atl_new_ok : ∀ (n : Nat) (w : World), 1 ≤ n → n ≤ 4096 → Calls Tryz.prog 7 #[.int .i64 (n : Int)] w fun e w' => ∃ v, e = .returned (.tuple #[v, .int .i64 0]) ∧ AtL w' (New w w') v (Dsk.new n) ∧ Below w.heap.size w w' :=
  fun n w h1 h2 => (new_ok n w h1 h2).mono (by
    rintro e w' ⟨v, rfl, h, hb⟩
    exact ⟨v, rfl, ⟨h, fun k hk => hk.2⟩, hb⟩)

set_option maxRecDepth 100000 in
theorem atl_new_no : ∀ (n : Int) (w : World), n < 1 ∨ 4096 < n → Calls Tryz.prog 7 #[.int .i64 n] w fun e w' => e = .returned (.tuple #[.pointer none, .int .i64 2]) ∧ Below w.heap.size w w' :=
  fun n w h => new_no n w h

set_option maxRecDepth 100000 in
theorem atl_write : ∀ {w F v d N}, AtL w F v d → d.Fine N → N ≤ 100000 → ∀ (i : Int) (s : ByteArray), -9223372036854775808 ≤ i → i ≤ 9223372036854775807 → s.size ≤ 9223372036854775807 →
    Calls Tryz.prog 56 #[v, .int .i64 i, .string s] w fun e w' => e = .returned (.int .i64 (d.write i s).1) ∧ Does AtL w F v (d.write i s).2 w' :=
  fun {w F v d N} h hf hN i s _ _ hs => by
    refine Calls.mono (R := fun e w' => e = .returned (.int .i64 (d.write i s).1) ∧ Does At w F v (d.write i s).2 w') ?_ (fun e w' he => ⟨he.1, does_lift h.2 he.2⟩)
    by_cases hd : ¬ d.down = true → ¬ (i < 0 ∨ (d.S.length : Int) ≤ i) → 64 < s.size
    · exact write_no h.1 i s hs hd
    · have h1 : ¬ d.down = true := fun e => hd (fun h' => absurd e h')
      have h2 : ¬ (i < 0 ∨ (d.S.length : Int) ≤ i) := fun e => hd (fun _ h' => absurd e h')
      have h3 : ¬ 64 < s.size := fun e => hd (fun _ _ => e)
      obtain ⟨k, rfl⟩ : ∃ k : Nat, i = (k : Int) := ⟨i.toNat, by omega⟩
      have hk : k < d.S.length := by omega
      obtain ⟨⟨b, bm, sv, N', M, pv, rfl, h0⟩, -⟩ := h
      have h4 := (hf.at hk).2.2
      exact write_ok h0 hk s (by omega) (by have := hf.calls; omega) hf.armed (by simpa using h1) (by omega)

set_option maxRecDepth 100000 in
theorem atl_read : ∀ {w F v d N}, AtL w F v d → d.Fine N → N ≤ 100000 → ∀ (i : Int), -9223372036854775808 ≤ i → i ≤ 9223372036854775807 →
    Calls Tryz.prog 76 #[v, .int .i64 i] w fun e w' => e = .returned (.tuple #[.string (d.read i).1, .int .i64 (d.read i).2]) ∧ Does AtL w F v d w' :=
  fun {w F v d N} h hf hN i _ _ => by
    refine Calls.mono (R := fun e w' => e = .returned (.tuple #[.string (d.read i).1, .int .i64 (d.read i).2]) ∧ Does At w F v d w') ?_ (fun e w' he => ⟨he.1, does_lift h.2 he.2⟩)
    by_cases hd : openE d i = 0
    · have h1 : ¬ d.down = true := fun e => by unfold openE at hd; rw [if_pos e] at hd; cases hd
      have h2 : ¬ (i < 0 ∨ (d.S.length : Int) ≤ i) := fun e => by unfold openE at hd; rw [if_neg h1, if_pos e] at hd; cases hd
      obtain ⟨k, rfl⟩ : ∃ k : Nat, i = (k : Int) := ⟨i.toNat, by omega⟩
      have hk : k < d.S.length := by omega
      obtain ⟨⟨b, bm, sv, N', M, pv, rfl, h0⟩, -⟩ := h
      obtain ⟨e1, e2, e3⟩ := hf.at hk
      obtain ⟨s0, t, hst⟩ : ∃ s0 t, d.at k = s0 :: t := by
        cases e : d.at k with
        | nil => rw [e] at e2; cases e2
        | cons a r => exact ⟨a, r, rfl⟩
      have hr : d.read (k : Int) = (last (s0 :: t), 0) := by
        unfold D.read
        rw [if_neg h1, if_neg h2, Int.toNat_natCast, hst]
      rw [hr]
      rw [hst] at e1 e3
      refine (read_ok h0 e1 (by simpa using h1) (by rw [List.length_cons] at e3; omega)).mono ?_
      rintro e w' ⟨rfl, hb⟩
      exact ⟨rfl, ⟨b, bm, sv, N', M, pv, rfl, (h0.kept (Kept.ofBelow hb (fun _ => False)) (fun _ _ h => h)).mono (fun _ hi => Or.inl hi)⟩, Kept.ofBelow hb _⟩
    · exact read_no h.1 i hd

set_option maxRecDepth 100000 in
theorem atl_flush : ∀ {w F v d N}, AtL w F v d → d.Fine N → N ≤ 100000 → Calls Tryz.prog 86 #[v] w fun e w' => e = .returned (.int .i64 d.flush.1) ∧ Does AtL w F v d.flush.2 w' :=
  fun {w F v d N} h hf hN => by
    refine Calls.mono (R := fun e w' => e = .returned (.int .i64 d.flush.1) ∧ Does At w F v d.flush.2 w') ?_ (fun e w' he => ⟨he.1, does_lift h.2 he.2⟩)
    have hc := hf.calls
    by_cases hq : d.down = true ∨ d.call.down = true
    · exact flush_no h.1 (by omega) hf.armed hq
    · have h1 : ¬ d.down = true := fun e => hq (Or.inl e)
      have h2 : ¬ d.call.down = true := fun e => hq (Or.inr e)
      obtain ⟨⟨b, bm, sv, N', M, pv, rfl, h0⟩, hF⟩ := h
      have e : d.flush = (0, ⟨d.call.S.map fun l => [last l], d.call.calls, d.call.armed, d.call.down⟩) := by
        unfold D.flush
        rw [if_neg h1, if_neg h2]
        rfl
      rw [e]
      exact flush_ok h0 hF (by omega) hf.armed (by simpa using h1) (by simpa using h2) (fun l hl => by have := (hf.each l hl).2; omega)

set_option maxRecDepth 100000 in
theorem atl_arm : ∀ {w F v d N}, AtL w F v d → d.Fine N → N ≤ 100000 → ∀ (n : Int), -9223372036854775808 ≤ n → n ≤ 9223372036854775807 →
    Calls Tryz.prog 16 #[v, .int .i64 n] w fun e w' => e = .returned (.tuple #[]) ∧ Does AtL w F v (d.arm n) w' :=
  fun {w F v d N} h hf hN n h1 h2 => (arm_any h.1 n h1 h2).mono (fun e w' he => ⟨he.1, does_lift h.2 he.2⟩)

set_option maxRecDepth 100000 in
theorem atl_crash : ∀ {w F G v d N kv ks}, AtL w F v d → d.Fine N → N ≤ 100000 → Cells w G kv (ks.map (Value.int .i64)) → (∀ i, G i → ¬ F i) → Ints64 ks →
    Calls Tryz.prog 21 #[v, kv] w fun e w' => e = .returned (.tuple #[]) ∧ Does AtL w F v (d.crash ks) w' :=
  fun {w F G v d N kv ks} h hf hN hkv hG hks => by
    refine Calls.mono (R := fun e w' => e = .returned (.tuple #[]) ∧ Does At w F v (d.crash ks) w') ?_ (fun e w' he => ⟨he.1, does_lift h.2 he.2⟩)
    obtain ⟨⟨b, bm, sv, N', M, pv, rfl, h0⟩, hF⟩ := h
    exact crash_ok h0 hF hkv hG hks (fun l hl => by have := (hf.each l hl).2; omega)

set_option maxRecDepth 100000 in
theorem atl_len : ∀ {w F v d N}, AtL w F v d → d.Fine N → N ≤ 100000 → Calls Tryz.prog 75 #[v] w fun e w' => e = .returned (.int .i64 (d.S.length : Int)) ∧ Does AtL w F v d w' :=
  fun h hf hN => (len_any h.1).mono (fun e w' he => ⟨he.1, does_lift h.2 he.2⟩)

end Go.Proofs.YtbfjageaheijbaaGreat
/- The package disk as it landed answers as the layers above need it. -/
set_option linter.unusedSimpArgs false
set_option linter.unusedVariables false
namespace Go.Proofs.YtbfjageaheijbaaGreat
open Go.RowKit Dsk

set_option maxRecDepth 100000 in
theorem disk_use : DiskUse AtL where
  kept := atl_kept
  lt := atl_lt
  ptr := atl_ptr
  new_ok := atl_new_ok
  write := atl_write
  read := atl_read
  flush := atl_flush
  arm := atl_arm
  crash := fun h hf hN hk hG h1 h2 => atl_crash h hf hN hk hG ⟨h1, h2⟩
end Go.Proofs.YtbfjageaheijbaaGreat
