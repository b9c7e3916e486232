/- How the landed disk lies in memory. -/
import Derived.Test.YtbfjageaheijbaaGreatCom19
import Derived.RegionTactic
import Derived.WalkLawsBesides
import Derived.WalkMore
set_option linter.unusedSimpArgs false
set_option linter.unusedVariables false
namespace Go.Proofs.YtbfjageaheijbaaGreat
open Go.RowKit Dsk

def heads (S : List (List ByteArray)) : List ByteArray := S.map fun l => l.headD ⟨#[]⟩

set_option maxRecDepth 100000 in
theorem heads_len (S : List (List ByteArray)) : (heads S).length = S.length := by simp [heads]
set_option maxRecDepth 100000 in
theorem heads_get {S : List (List ByteArray)} {k : Nat} {l : List ByteArray} (h : S[k]? = some l) : (heads S)[k]? = some (l.headD ⟨#[]⟩) := by simp [heads, h]
set_option maxRecDepth 100000 in
theorem heads_set (S : List (List ByteArray)) (k : Nat) (s : ByteArray) : heads (S.set k [s]) = (heads S).set k s := by simp [heads, List.map_set]

def dcells (sv : Value) (bm : Nat) (d : D) : Array Value := #[sv, .map (some bm), .int .i64 (d.calls : Int), .int .i64 (d.armed : Int), .bool d.down]

structure DAt (w : World) (F : Nat → Prop) (b bm : Nat) (sv : Value) (N : Nat) (M : DataW Value) (pv : Nat → Value) (d : D) : Prop where
  blk : Row w b 73 (dcells sv bm d)
  safe : OwnS w sv (heads d.S)
  pos : 0 < d.S.length
  few : d.S.length ≤ 4096
  map : w.ownsMap Tryz.prog 3 rawElem bm N M
  big : N ≤ d.calls
  keys : ∀ kl, Maps.has M kl = true → ∃ k, k < d.S.length ∧ kl = key k
  has : ∀ k l, d.S[k]? = some l → Maps.has M (key k) = decide (1 < l.length)
  val : ∀ k l, d.S[k]? = some l → 1 < l.length → (∀ zd, M.atKey (key k) zd = .held (pv k)) ∧ OwnS w (pv k) l.tail
  full : ∀ l ∈ d.S, 0 < l.length
  all64 : ∀ l ∈ d.S, All64 l
  apart : ∀ j k l m g, d.S[j]? = some l → 1 < l.length → d.S[k]? = some m → 1 < m.length → j ≠ k → (pv j).ownBlock = some g → (pv k).ownBlock ≠ some g
  inB : F b
  inM : F bm
  inS : ∀ g, sv.ownBlock = some g → F g ∧ g ≠ b
  inP : ∀ k l g, d.S[k]? = some l → 1 < l.length → (pv k).ownBlock = some g → F g ∧ g ≠ b ∧ sv.ownBlock ≠ some g

def At (w : World) (F : Nat → Prop) (v : Value) (d : D) : Prop := ∃ b bm sv N M pv, v = .pointer (some ⟨b, 0, none⟩) ∧ DAt w F b bm sv N M pv d

set_option maxRecDepth 100000 in
theorem ownS_block {w : World} {v : Value} {L : List ByteArray} (h : OwnS w v L) {g : Nat} (hg : v.ownBlock = some g) : ∃ cur, w.heap[g]? = some (.cells cur 93 (0, 0)) := by
  rcases h.1.2 with ⟨rfl, _⟩ | ⟨g', cap, cur, rfl, _, h5, _⟩
  · cases hg
  · have : g' = g := by injection hg
    subst this
    exact ⟨cur, h5⟩

section
variable {w w' : World} {F G : Nat → Prop} {b bm : Nat} {sv : Value} {N : Nat} {M : DataW Value} {pv : Nat → Value} {d : D}

set_option maxRecDepth 100000 in
theorem DAt.lt (h : DAt w F b bm sv N M pv d) : b < w.heap.size := h.blk.inHeap

set_option maxRecDepth 100000 in
theorem ownsMap_kept {w w' : World} {bm N : Nat} {M : DataW Value} (h : w.ownsMap Tryz.prog 3 rawElem bm N M) (k : Kept G w w') (hd : ¬ G bm) : w'.ownsMap Tryz.prog 3 rawElem bm N M := by
  have hl := h.lt
  obtain ⟨es, clock, hb, r⟩ := h
  exact ⟨es, clock, (k.block bm hl hd).trans hb, r⟩

set_option maxRecDepth 100000 in
theorem DAt.kept (h : DAt w F b bm sv N M pv d) (k : Kept G w w') (hd : ∀ i, F i → ¬ G i) : DAt w' F b bm sv N M pv d where
  blk := h.blk.kept k (hd _ h.inB)
  safe := h.safe.kept k (fun g hg => hd _ (h.inS g hg).1)
  pos := h.pos
  few := h.few
  map := ownsMap_kept h.map k (hd _ h.inM)
  big := h.big
  keys := h.keys
  has := h.has
  val := fun j l hl hp => ⟨(h.val j l hl hp).1, (h.val j l hl hp).2.kept k (fun g hg => hd _ (h.inP j l g hl hp hg).1)⟩
  full := h.full
  all64 := h.all64
  apart := h.apart
  inB := h.inB
  inM := h.inM
  inS := h.inS
  inP := h.inP

set_option maxRecDepth 100000 in
theorem DAt.mono (h : DAt w F b bm sv N M pv d) (hF : ∀ i, F i → G i) : DAt w G b bm sv N M pv d :=
  { h with inB := hF _ h.inB, inM := hF _ h.inM, inS := fun g hg => ⟨hF _ (h.inS g hg).1, (h.inS g hg).2⟩, inP := fun k l g hl hp hg => ⟨hF _ (h.inP k l g hl hp hg).1, (h.inP k l g hl hp hg).2⟩ }

set_option maxRecDepth 100000 in
/-- Only the struct's own numbers have turned. -/
theorem DAt.turn (h : DAt w F b bm sv N M pv d) {c a : Nat} {q : Bool} (hr : Row w' b 73 (dcells sv bm ⟨d.S, c, a, q⟩)) (hg : w.grownBy w' (some b)) (hc : d.calls ≤ c) : DAt w' F b bm sv N M pv ⟨d.S, c, a, q⟩ := by
  have k : Kept (fun i => i = b) w w' := Kept.ofGrown hg (fun i e => by injection e with e; exact e.symm)
  have hne : bm ≠ b := by
    rintro rfl
    obtain ⟨es, clock, hb, _⟩ := h.map
    have := h.blk
    unfold Row at this
    rw [hb] at this; cases this
  exact { h with blk := hr, safe := h.safe.kept k (fun g hg => (h.inS g hg).2), map := ownsMap_kept h.map k hne, big := Nat.le_trans h.big hc,
                 val := fun j l hl hp => ⟨(h.val j l hl hp).1, (h.val j l hl hp).2.kept k (fun g hg => (h.inP j l g hl hp hg).2.1)⟩ }

set_option maxRecDepth 100000 in
theorem DAt.facts (h : DAt w F b bm sv N M pv d) :
    w.cell? ⟨b, 0, none⟩ = some sv ∧ w.cell? ⟨b, 1, none⟩ = some (.map (some bm)) ∧ w.cell? ⟨b, 2, none⟩ = some (.int .i64 (d.calls : Int)) ∧ w.cell? ⟨b, 3, none⟩ = some (.int .i64 (d.armed : Int)) ∧ w.cell? ⟨b, 4, none⟩ = some (.bool d.down) ∧
      w.frozen? ⟨b, 2, none⟩ = false ∧ w.frozen? ⟨b, 3, none⟩ = false ∧ w.frozen? ⟨b, 4, none⟩ = false :=
  ⟨h.blk.at 0, h.blk.at 1, h.blk.at 2, h.blk.at 3, h.blk.at 4, h.blk.free 2, h.blk.free 3, h.blk.free 4⟩

set_option maxRecDepth 100000 in
theorem DAt.safeForm (h : DAt w F b bm sv N M pv d) : ∃ g cap, sv = .slice (some ⟨g, 0, none⟩) d.S.length cap ∧ g < w.heap.size := by
  obtain ⟨g, cap, e, hl⟩ := h.safe.form (by rw [heads_len]; exact h.pos)
  rw [heads_len] at e
  exact ⟨g, cap, e, hl⟩

set_option maxRecDepth 100000 in
/-- What a look into the map gives. -/
theorem look_at {w : World} {bm N k : Nat} {M : DataW Value} {v : Value} (h : w.ownsMap Tryz.prog 3 rawElem bm N M) (hk : k ≤ 1000000) (hv : M.atKey (key k) (.held (.slice none 0 0)) = .held v) :
    (Instr.lookup 71 (.map (some bm)) (.int .i64 (k : Int)) false).run Tryz.prog w = .ok v w := by
  obtain ⟨v', ps, h1, h2⟩ := h.lookup intKeyed Tryz.underlying71 (sectorsZero w) (zd := .held (.slice none 0 0)) (zp := []) rfl (key_of hk)
  rw [hv] at h2
  have e : v' = v := by injection h2 with h2; injection h2 with h2; injection h2
  rw [← e]
  exact h1

set_option maxRecDepth 100000 in
theorem look_ok_at {w : World} {bm N k : Nat} {M : DataW Value} {v : Value} (h : w.ownsMap Tryz.prog 3 rawElem bm N M) (hk : k ≤ 1000000) (hv : M.atKey (key k) (.held (.slice none 0 0)) = .held v) :
    (Instr.lookup 71 (.map (some bm)) (.int .i64 (k : Int)) true).run Tryz.prog w = .ok (.tuple #[v, .bool (Maps.has M (key k))]) w := by
  obtain ⟨v', ps, h1, h2⟩ := h.look_ok intKeyed Tryz.underlying71 (sectorsZero w) (zd := .held (.slice none 0 0)) (zp := []) rfl (key_of hk)
  rw [hv] at h2
  have e : v' = v := by injection h2 with h2; injection h2 with h2; injection h2
  rw [← e]
  exact h1

set_option maxRecDepth 100000 in
theorem DAt.held (h : DAt w F b bm sv N M pv d) {k : Nat} {l : List ByteArray} (hl : d.S[k]? = some l) :
    ∃ v, M.atKey (key k) (.held (.slice none 0 0)) = .held v ∧ OwnS w v l.tail ∧ (1 < l.length → v = pv k) ∧ (¬ 1 < l.length → v = .slice none 0 0) := by
  by_cases hp : 1 < l.length
  · obtain ⟨p1, p2⟩ := h.val k l hl hp
    exact ⟨pv k, p1 _, p2, fun _ => rfl, fun hn => absurd hp hn⟩
  · have hn : Maps.has M (key k) = false := by rw [h.has k l hl]; simpa using hp
    obtain ⟨es, hM⟩ := h.map.isMap
    subst hM
    have hat : (DataW.map es).atKey (key k) (.held (.slice none 0 0)) = .held (.slice none 0 0) := by
      rw [Maps.has_eq] at hn
      have : es.find? (fun p => p.1.sameKey (key k)) = none := by
        rw [List.find?_eq_none]
        intro p hp
        have := List.any_eq_false.1 hn p hp
        exact this
      simp [DataW.atKey, this]
    have hl1 : l.tail = [] := by
      cases l with
      | nil => rfl
      | cons x l => simp at hp; simp [hp]
    rw [hl1]
    exact ⟨.slice none 0 0, hat, OwnS.nil w, fun hp' => absurd hp' hp, fun _ => rfl⟩

set_option maxRecDepth 100000 in
theorem DAt.small (h : DAt w F b bm sv N M pv d) {k : Nat} {l : List ByteArray} (hl : d.S[k]? = some l) : k ≤ 1000000 := by
  have := (List.getElem?_eq_some_iff.1 hl).1
  have := h.few
  omega

set_option maxRecDepth 100000 in
/-- A look into the map. -/
theorem DAt.look (h : DAt w F b bm sv N M pv d) {k : Nat} {l : List ByteArray} (hl : d.S[k]? = some l) :
    ∃ v, (Instr.lookup 71 (.map (some bm)) (.int .i64 (k : Int)) true).run Tryz.prog w = .ok (.tuple #[v, .bool (decide (1 < l.length))]) w ∧
      (Instr.lookup 71 (.map (some bm)) (.int .i64 (k : Int)) false).run Tryz.prog w = .ok v w ∧ OwnS w v l.tail ∧ (1 < l.length → v = pv k) ∧ (¬ 1 < l.length → v = .slice none 0 0) := by
  obtain ⟨v, h1, h2⟩ := h.held hl
  have h3 := look_ok_at h.map (h.small hl) h1
  rw [h.has k l hl] at h3
  exact ⟨v, h3, look_at h.map (h.small hl) h1, h2⟩

/-! What a store into one sector's list does. -/
set_option maxRecDepth 100000 in
theorem DAt.ne (h : DAt w F b bm sv N M pv d) : b ≠ bm ∧ (∀ g, sv.ownBlock = some g → g ≠ bm) ∧ (∀ k l g, d.S[k]? = some l → 1 < l.length → (pv k).ownBlock = some g → g ≠ bm) := by
  obtain ⟨es, clock, hb, _⟩ := h.map
  refine ⟨?_, fun g hg e => ?_, fun k l g hl hp hg e => ?_⟩
  · rintro rfl
    have := h.blk
    unfold Row at this
    rw [hb] at this; cases this
  · obtain ⟨cur, hc⟩ := ownS_block h.safe hg
    rw [e, hb] at hc; cases hc
  · obtain ⟨cur, hc⟩ := ownS_block (h.val k l hl hp).2 hg
    rw [e, hb] at hc; cases hc

set_option maxRecDepth 100000 in
theorem tail_snoc {l : List ByteArray} {x : ByteArray} (h : 0 < l.length) : (l ++ [x]).tail = l.tail ++ [x] := by
  cases l with
  | nil => cases h
  | cons y l => rfl

set_option maxRecDepth 100000 in
theorem heads_keep {S : List (List ByteArray)} {k : Nat} {l m1 : List ByteArray} (hl : S[k]? = some l) (e : m1.headD ⟨#[]⟩ = l.headD ⟨#[]⟩) : heads (S.set k m1) = heads S := by
  unfold heads
  rw [List.map_set, e]
  apply List.ext_getElem?
  intro i
  by_cases hi : k = i
  · subst hi
    have hk := (List.getElem?_eq_some_iff.1 hl).1
    rw [List.getElem?_set_self (by simpa using hk), List.getElem?_map, hl]; rfl
  · rw [List.getElem?_set_ne hi]

set_option maxRecDepth 100000 in
/-- A sector's list grows. w1: behind the append, w2: behind the store into the map. -/
theorem DAt.putList (h : DAt w F b bm sv N M pv d) {k q0 : Nat} {l m1 : List ByteArray} (hl : d.S[k]? = some l) (hh : m1.headD ⟨#[]⟩ = l.headD ⟨#[]⟩) (hm1 : 1 < m1.length) (hx : All64 m1) {v : Value} (hv : M.atKey (key k) (.held (.slice none 0 0)) = .held v)
    {w1 w2 : World} {g cap : Nat} (hown : OwnS w1 (.slice (some ⟨g, 0, none⟩) q0 cap) m1.tail) (hk1 : Kept (fun i => v.ownBlock = some i) w w1) (hat : v.ownBlock = some g ∨ w.heap.size ≤ g) (hlt : g < w1.heap.size)
    (hmap : w2.ownsMap Tryz.prog 3 rawElem bm (N + 1) (M.put (key k) (.held (.slice (some ⟨g, 0, none⟩) q0 cap)))) (hk2 : w1.grownBy w2 (some bm)) {c a : Nat} {q : Bool} (hblk : Row w b 73 (dcells sv bm ⟨d.S, c, a, q⟩)) (hc : N + 1 ≤ c) :
    DAt w2 (Grow F w w2) b bm sv (N + 1) (M.put (key k) (.held (.slice (some ⟨g, 0, none⟩) q0 cap))) (fun j => if j = k then .slice (some ⟨g, 0, none⟩) q0 cap else pv j) ⟨d.S.set k m1, c, a, q⟩ := by
  have hkl := (List.getElem?_eq_some_iff.1 hl).1
  obtain ⟨v', e1, hvo, hvp, hvn⟩ := h.held hl
  have : v' = v := by rw [hv] at e1; injection e1 with e1; exact e1.symm
  subst this
  obtain ⟨nb, ns, np⟩ := h.ne
  have hl0 := h.full l (List.mem_of_getElem? hl)
  -- whose block v's is
  have vIn : ∀ i, v'.ownBlock = some i → 1 < l.length ∧ (pv k).ownBlock = some i := fun i hi => by
    by_cases hp : 1 < l.length
    · rw [hvp hp] at hi; exact ⟨hp, hi⟩
    · rw [hvn hp] at hi; cases hi
  have vb : v'.ownBlock ≠ some b := fun e => by obtain ⟨p1, p2⟩ := vIn _ e; exact (h.inP k l b hl p1 p2).2.1 rfl
  have vm : v'.ownBlock ≠ some bm := fun e => by obtain ⟨p1, p2⟩ := vIn _ e; exact np k l bm hl p1 p2 rfl
  have vs : ∀ i, sv.ownBlock = some i → v'.ownBlock ≠ some i := fun i hi e => by obtain ⟨p1, p2⟩ := vIn _ e; exact (h.inP k l i hl p1 p2).2.2 hi
  have vj : ∀ j m i, j ≠ k → d.S[j]? = some m → 1 < m.length → (pv j).ownBlock = some i → v'.ownBlock ≠ some i := fun j m i hj hm hp hi e => by
    obtain ⟨p1, p2⟩ := vIn _ e
    exact h.apart j k m l i hm hp hl p1 hj hi p2
  have hk2' : Kept (fun i => i = bm) w1 w2 := Kept.ofGrown hk2 (fun i e => by injection e with e; exact e.symm)
  have hgm : g ≠ bm := by
    rcases hat with e | e
    · intro h'; rw [h'] at e; exact vm e
    · have := h.map.lt; omega
  have hsz : w.heap.size ≤ w2.heap.size := Nat.le_trans hk1.size hk2.size
  have gIn : Grow F w w2 g ∧ g ≠ b ∧ sv.ownBlock ≠ some g := by
    rcases hat with e | e
    · obtain ⟨p1, p2⟩ := vIn _ e
      obtain ⟨q1, q2, q3⟩ := h.inP k l g hl p1 p2
      exact ⟨Or.inl q1, q2, q3⟩
    · refine ⟨Or.inr ⟨e, Nat.lt_of_lt_of_le hlt hk2.size⟩, ?_, fun hs => ?_⟩
      · have := h.lt; omega
      · obtain ⟨cur, hc⟩ := ownS_block h.safe hs
        have := lt_of_block hc; omega
  have gAp : ∀ j m, j ≠ k → d.S[j]? = some m → 1 < m.length → (pv j).ownBlock ≠ some g := fun j m hj hm hp hg => by
    rcases hat with e | e
    · exact vj j m g hj hm hp hg e
    · obtain ⟨cur, hc⟩ := ownS_block (h.val j m hm hp).2 hg
      have := lt_of_block hc; omega
  have hset : ∀ j m, (d.S.set k m1)[j]? = some m → (j = k ∧ m = m1) ∨ (j ≠ k ∧ d.S[j]? = some m) := fun j m hm => by
    by_cases e : j = k
    · subst e
      rw [List.getElem?_set_self hkl] at hm
      cases hm
      exact Or.inl ⟨rfl, rfl⟩
    · rw [List.getElem?_set_ne (fun h' => e h'.symm)] at hm
      exact Or.inr ⟨e, hm⟩
  refine
    { blk := (Row.kept (Row.kept hblk hk1 vb) hk2' nb)
      safe := ?_, pos := ?_, few := ?_, map := hmap, big := hc, keys := ?_, has := ?_, val := ?_, full := ?_, all64 := ?_, apart := ?_, inB := Or.inl h.inB, inM := Or.inl h.inM, inS := ?_, inP := ?_ }
  · show OwnS w2 sv (heads (d.S.set k m1))
    rw [heads_keep hl hh]
    exact (h.safe.kept hk1 (fun i hi => vs i hi)).kept hk2' (fun i hi => ns i hi)
  · show 0 < (d.S.set k _).length
    rw [List.length_set]; exact h.pos
  · show (d.S.set k _).length ≤ 4096
    rw [List.length_set]; exact h.few
  · intro kl hkl'
    show ∃ j, j < (d.S.set k _).length ∧ kl = key j
    rw [List.length_set]
    by_cases e : kl = key k
    · exact ⟨k, hkl, e⟩
    · rw [Maps.has_put_other e] at hkl'
      exact h.keys kl hkl'
  · intro j m hm
    rcases hset j m hm with ⟨rfl, rfl⟩ | ⟨e, hm⟩
    · rw [Maps.has_put_same h.map.isMap (intKeyed.key (key_of (h.small hl)))]
      exact (decide_eq_true hm1).symm
    · rw [Maps.has_put_other (fun e' => e (key_inj e'))]
      exact h.has j m hm
  · intro j m hm hp
    rcases hset j m hm with ⟨rfl, rfl⟩ | ⟨e, hm⟩
    · refine ⟨fun zd => ?_, ?_⟩
      · show _ = DataW.held (if j = j then _ else _)
        rw [if_pos rfl]
        exact Maps.atKey_put_same h.map.isMap (intKeyed.key (key_of (h.small hl))) _ _
      · show OwnS w2 (if j = j then _ else _) m.tail
        rw [if_pos rfl]
        exact hown.kept hk2' (fun i hi => by have : g = i := by injection hi
                                             subst this; exact hgm)
    · show (∀ zd, _ = DataW.held (if j = k then _ else _)) ∧ OwnS w2 (if j = k then _ else _) m.tail
      rw [if_neg e]
      obtain ⟨p1, p2⟩ := h.val j m hm hp
      refine ⟨fun zd => ?_, (p2.kept hk1 (fun i hi => vj j m i e hm hp hi)).kept hk2' (fun i hi => np j m i hm hp hi)⟩
      rw [Maps.atKey_put_other (fun e' => e (key_inj e'))]
      exact p1 zd
  · intro m hm
    rcases List.mem_or_eq_of_mem_set hm with hm | hm
    · exact h.full m hm
    · rw [hm]; omega
  · intro m hm
    rcases List.mem_or_eq_of_mem_set hm with hm | hm
    · exact h.all64 m hm
    · rw [hm]; exact hx
  · intro j i m m' g' hm hp hm' hp' hji hg'
    show (if i = k then _ else pv i : Value).ownBlock ≠ some g'
    have hg2 : (if j = k then Value.slice (some ⟨g, 0, none⟩) q0 cap else pv j).ownBlock = some g' := hg'
    rcases hset j m hm with ⟨ej, _⟩ | ⟨ej, hmj⟩
    · rw [if_pos ej] at hg2
      have : g = g' := by injection hg2
      subst this
      rcases hset i m' hm' with ⟨ei, _⟩ | ⟨ei, hmi⟩
      · exact absurd (ej.trans ei.symm) hji
      · rw [if_neg ei]
        exact gAp i m' ei hmi hp'
    · rw [if_neg ej] at hg2
      rcases hset i m' hm' with ⟨ei, _⟩ | ⟨ei, hmi⟩
      · rw [if_pos ei]
        intro e
        have : g = g' := by injection e
        subst this
        exact gAp j m ej hmj hp hg2
      · rw [if_neg ei]
        exact h.apart j i m m' g' hmj hp hmi hp' hji hg2
  · intro i hi
    exact ⟨Or.inl (h.inS i hi).1, (h.inS i hi).2⟩
  · intro j m g' hm hp hg'
    have hg2 : (if j = k then Value.slice (some ⟨g, 0, none⟩) q0 cap else pv j).ownBlock = some g' := hg'
    rcases hset j m hm with ⟨ej, _⟩ | ⟨ej, hmj⟩
    · rw [if_pos ej] at hg2
      have : g = g' := by injection hg2
      subst this
      exact gIn
    · rw [if_neg ej] at hg2
      obtain ⟨q1, q2, q3⟩ := h.inP j m g' hmj hp hg2
      exact ⟨Or.inl q1, q2, q3⟩

set_option maxRecDepth 100000 in
/-- A sector's text is laid behind the others. -/
theorem DAt.put (h : DAt w F b bm sv N M pv d) {k : Nat} {l : List ByteArray} (hl : d.S[k]? = some l) {x : ByteArray} (hx : x.size = 64) {v : Value} (hv : M.atKey (key k) (.held (.slice none 0 0)) = .held v)
    {w1 w2 : World} {g cap : Nat} (hown : OwnS w1 (.slice (some ⟨g, 0, none⟩) l.length cap) (l.tail ++ [x])) (hk1 : Kept (fun i => v.ownBlock = some i) w w1) (hat : v.ownBlock = some g ∨ w.heap.size ≤ g) (hlt : g < w1.heap.size)
    (hmap : w2.ownsMap Tryz.prog 3 rawElem bm (N + 1) (M.put (key k) (.held (.slice (some ⟨g, 0, none⟩) l.length cap)))) (hk2 : w1.grownBy w2 (some bm)) {c a : Nat} {q : Bool} (hblk : Row w b 73 (dcells sv bm ⟨d.S, c, a, q⟩)) (hc : N + 1 ≤ c) :
    DAt w2 (Grow F w w2) b bm sv (N + 1) (M.put (key k) (.held (.slice (some ⟨g, 0, none⟩) l.length cap))) (fun j => if j = k then .slice (some ⟨g, 0, none⟩) l.length cap else pv j) ⟨d.S.set k (l ++ [x]), c, a, q⟩ := by
  have hl0 := h.full l (List.mem_of_getElem? hl)
  refine h.putList hl ?_ (by rw [List.length_append]; show 1 < l.length + 1; omega) (fun s hs => ?_) hv ?_ hk1 hat hlt hmap hk2 hblk hc
  · cases l with
    | nil => cases hl0
    | cons y l => rfl
  · rcases List.mem_append.1 hs with hs | hs
    · exact h.all64 l (List.mem_of_getElem? hl) s hs
    · rw [List.mem_singleton.1 hs]; exact hx
  · rw [tail_snoc hl0]; exact hown
end
end Go.Proofs.YtbfjageaheijbaaGreat
/- The landed disk: the calls that only look, Arm, the count of calls. -/
set_option linter.unusedSimpArgs false
set_option linter.unusedVariables false
namespace Go.Proofs.YtbfjageaheijbaaGreat
open Go.RowKit Dsk

set_option maxRecDepth 100000 in
theorem does_same {w : World} {F : Nat → Prop} {v : Value} {d : D} (h : At w F v d) : Does At w F v d w := by
  obtain ⟨b, bm, sv, N, M, pv, e, h⟩ := h
  exact ⟨⟨b, bm, sv, N, M, pv, e, h.mono (fun _ hi => Or.inl hi)⟩, Kept.refl _ _⟩

section
variable {w : World} {F : Nat → Prop} {b bm : Nat} {sv : Value} {N : Nat} {M : DataW Value} {pv : Nat → Value} {d : D}

set_option maxRecDepth 100000 in
theorem up_any (h : w.cell? ⟨b, 4, none⟩ = some (.bool d.down)) : Calls Tryz.prog 108 #[.pointer (some ⟨b, 0, none⟩)] w fun e w' => e = .returned (.int .i64 (if d.down = true then 12 else 0)) ∧ w = w' := by
  cases hd : d.down
  all_goals
    rw [hd] at h
    go_enter Tryz.func108, Tryz.ntmps108
    go_wp2_with fail
    go_ret
    exact ⟨rfl, rfl⟩

def openE (d : D) (i : Int) : Int := if d.down = true then 12 else if i < 0 ∨ (d.S.length : Int) ≤ i then 3 else 0

set_option maxRecDepth 100000 in
theorem open_any (h : DAt w F b bm sv N M pv d) (i : Int) : Calls Tryz.prog 83 #[.pointer (some ⟨b, 0, none⟩), .int .i64 i] w fun e w' => e = .returned (.int .i64 (openE d i)) ∧ w = w' := by
  obtain ⟨g, cap, rfl, hg⟩ := h.safeForm
  obtain ⟨c0, -, -, -, c4, -, -, -⟩ := h.facts
  have hup := up_any (b := b) c4
  have hlen := h.few
  generalize hS : d.S.length = n at *
  have Hup := Lib.hid hup
  unfold openE
  rw [hS]
  clear h hup hS
  by_cases hd : d.down = true
  · have e : d.down = true := hd
    rw [if_pos hd] at Hup ⊢
    clear hd e
    go_enter Tryz.func83, Tryz.ntmps83
    go_wp2_with (go_at_call 108; with_reducible refine Hup.out.mono ?_; rintro e w' ⟨rfl, rfl⟩)
    go_ret
    exact ⟨rfl, rfl⟩
  · rw [if_neg hd] at Hup ⊢
    clear hd
    by_cases hi : i < 0
    · rw [if_pos (Or.inl hi)]
      have hb : decide (i < 0) = true := by simpa using hi
      go_enter Tryz.func83, Tryz.ntmps83
      go_wp2_with (go_at_call 108; with_reducible refine Hup.out.mono ?_; rintro e w' ⟨rfl, rfl⟩)
      go_ret
      exact ⟨rfl, rfl⟩
    · have hb : decide (i < 0) = false := by simpa using hi
      by_cases hi2 : (n : Int) ≤ i
      · rw [if_pos (Or.inr hi2)]
        have hb2 : decide (i ≥ (n : Int)) = true := by simpa using hi2
        clear hi
        go_enter Tryz.func83, Tryz.ntmps83
        go_wp2_with (go_at_call 108; with_reducible refine Hup.out.mono ?_; rintro e w' ⟨rfl, rfl⟩)
        go_ret
        exact ⟨rfl, rfl⟩
      · rw [if_neg (fun e => by omega)]
        have hb2 : decide (i ≥ (n : Int)) = false := by simpa using hi2
        clear hi
        go_enter Tryz.func83, Tryz.ntmps83
        go_wp2_with (go_at_call 108; with_reducible refine Hup.out.mono ?_; rintro e w' ⟨rfl, rfl⟩)
        go_ret
        exact ⟨rfl, rfl⟩

set_option maxRecDepth 100000 in
theorem len_any {v : Value} (h : At w F v d) : Calls Tryz.prog 75 #[v] w fun e w' => e = .returned (.int .i64 (d.S.length : Int)) ∧ Does At w F v d w' := by
  have hs := does_same h
  obtain ⟨b, bm, sv, N, M, pv, rfl, h⟩ := h
  obtain ⟨g, cap, rfl, hg⟩ := h.safeForm
  obtain ⟨c0, -, -, -, -, -, -, -⟩ := h.facts
  have Hs := Lib.hid hs
  clear h hs
  go_enter Tryz.func75, Tryz.ntmps75
  go_wp2_with fail
  go_ret
  exact ⟨rfl, Hs.out⟩

set_option maxRecDepth 100000 in
theorem DAt.does (h : DAt w F b bm sv N M pv d) {w' : World} {c a : Nat} {q : Bool} (hr : Row w' b 73 (dcells sv bm ⟨d.S, c, a, q⟩)) (hg : w.grownBy w' (some b)) (hc : d.calls ≤ c) :
    Does At w F (.pointer (some ⟨b, 0, none⟩)) ⟨d.S, c, a, q⟩ w' :=
  ⟨⟨b, bm, sv, N, M, pv, rfl, (h.turn hr hg hc).mono (fun _ hi => Or.inl hi)⟩, Kept.ofGrown hg (fun i e => by injection e with e; subst e; exact h.inB)⟩

set_option maxRecDepth 100000 in
theorem arm_any {v : Value} (h : At w F v d) (n : Int) (h1 : -9223372036854775808 ≤ n) (h2 : n ≤ 9223372036854775807) :
    Calls Tryz.prog 16 #[v, .int .i64 n] w fun e w' => e = .returned (.tuple #[]) ∧ Does At w F v (d.arm n) w' := by
  obtain ⟨b, bm, sv, N, M, pv, rfl, h⟩ := h
  obtain ⟨-, -, -, c3, -, -, f3, -⟩ := h.facts
  have fin : Hid (∀ k : Int, k = ((n.toNat : Nat) : Int) → Does At w F (.pointer (some ⟨b, 0, none⟩)) (d.arm n) (w.setCell ⟨b, 3, none⟩ (.int .i64 k))) := Lib.hid (fun k e => by
    subst e
    exact h.does (h.blk.stored 3 _) (gb_store (gb_refl _ _) 3 _) (Nat.le_refl _))
  clear h
  go_enter Tryz.func16, Tryz.ntmps16
  go_wp2_with fail
  all_goals
    go_end0
    exact ⟨rfl, fin.out _ (by omega)⟩
end

/-! ### A nil disk -/
section
variable (w : World)
set_option maxRecDepth 100000 in
theorem nil_up : Calls Tryz.prog 108 #[.pointer none] w fun e w' => e = .returned (.int .i64 1) ∧ w = w' := by
  go_enter Tryz.func108, Tryz.ntmps108
  go_wp2_with fail
  go_ret
  exact ⟨rfl, rfl⟩

set_option maxRecDepth 100000 in
theorem nil_open (i : Int) : Calls Tryz.prog 83 #[.pointer none, .int .i64 i] w fun e w' => e = .returned (.int .i64 1) ∧ w = w' := by
  go_enter Tryz.func83, Tryz.ntmps83
  go_wp2_with (go_at_call 108; with_reducible refine (nil_up _).mono ?_; rintro e w' ⟨rfl, rfl⟩)
  go_ret
  exact ⟨rfl, rfl⟩

set_option maxRecDepth 100000 in
theorem nil_write (i : Int) (s : ByteArray) : Calls Tryz.prog 56 #[.pointer none, .int .i64 i, .string s] w fun e w' => e = .returned (.int .i64 1) ∧ Below w.heap.size w w' := by
  go_enter Tryz.func56, Tryz.ntmps56
  go_wp2_with (go_at_call 83; with_reducible refine (nil_open _ _).mono ?_; rintro e w' ⟨rfl, rfl⟩)
  go_ret
  exact ⟨rfl, Below.refl _ _⟩

set_option maxRecDepth 100000 in
theorem nil_read (i : Int) : Calls Tryz.prog 76 #[.pointer none, .int .i64 i] w fun e w' => e = .returned (.tuple #[.string ⟨#[]⟩, .int .i64 1]) ∧ Below w.heap.size w w' := by
  go_enter Tryz.func76, Tryz.ntmps76
  go_wp2_with (go_at_call 83; with_reducible refine (nil_open _ _).mono ?_; rintro e w' ⟨rfl, rfl⟩)
  go_ret2
  exact ⟨rfl, Below.refl _ _⟩

set_option maxRecDepth 100000 in
theorem nil_flush : Calls Tryz.prog 86 #[.pointer none] w fun e w' => e = .returned (.int .i64 1) ∧ Below w.heap.size w w' := by
  go_enter Tryz.func86, Tryz.ntmps86
  go_wp2_with (go_at_call 108; with_reducible refine (nil_up _).mono ?_; rintro e w' ⟨rfl, rfl⟩)
  go_ret
  exact ⟨rfl, Below.refl _ _⟩

set_option maxRecDepth 100000 in
theorem nil_arm (n : Int) : Calls Tryz.prog 16 #[.pointer none, .int .i64 n] w fun e w' => e = .returned (.tuple #[]) ∧ Below w.heap.size w w' := by
  go_enter Tryz.func16, Tryz.ntmps16
  go_wp2_with fail
  go_end0
  exact ⟨rfl, Below.refl _ _⟩

set_option maxRecDepth 100000 in
theorem nil_crash (kv : Value) : Calls Tryz.prog 21 #[.pointer none, kv] w fun e w' => e = .returned (.tuple #[]) ∧ Below w.heap.size w w' := by
  go_enter Tryz.func21, Tryz.ntmps21
  go_wp2_with fail
  refine bodyPost_ret (results_none rfl _ _ _) rfl ?_
  exact ⟨rfl, Below.refl _ _⟩

set_option maxRecDepth 100000 in
theorem nil_len : Calls Tryz.prog 75 #[.pointer none] w fun e w' => e = .returned (.int .i64 0) ∧ Below w.heap.size w w' := by
  go_enter Tryz.func75, Tryz.ntmps75
  go_wp2_with fail
  go_ret
  exact ⟨rfl, Below.refl _ _⟩

end
end Go.Proofs.YtbfjageaheijbaaGreat
/- The landed disk: a call counted; the next sector that has something pending; all of them. -/
set_option linter.unusedSimpArgs false
set_option linter.unusedVariables false
namespace Go.Proofs.YtbfjageaheijbaaGreat
open Go.RowKit Dsk

section
variable {w : World} {F : Nat → Prop} {b bm : Nat} {sv : Value} {N : Nat} {M : DataW Value} {pv : Nat → Value} {d : D}

set_option maxRecDepth 100000 in
set_option maxHeartbeats 800000 in
theorem call_any (h : DAt w F b bm sv N M pv d) (hc : d.calls ≤ 1000000) (ha : d.armed < 9223372036854775808) (hd : d.down = false) :
    Calls Tryz.prog 84 #[.pointer (some ⟨b, 0, none⟩)] w fun e w' => e = .returned (.bool (!d.call.down)) ∧ DAt w' F b bm sv N M pv d.call ∧ w.grownBy w' (some b) := by
  obtain ⟨-, -, c2, c3, c4, f2, f3, f4⟩ := h.facts
  have hc' : (d.calls : Int) ≤ 1000000 := by omega
  have ha' : (d.armed : Int) ≤ 9223372036854775807 := by omega
  have e2 : d.call.down = (d.down || d.armed == 1) := rfl
  by_cases h0 : d.armed = 0
  · have hb : decide ((d.armed : Int) > 0) = false := by simp [h0]
    have hq : d.call.down = false := by rw [e2, hd, h0]; rfl
    rw [hq]
    have fin : Hid (∀ k : Int, k = ((d.calls + 1 : Nat) : Int) → DAt (w.setCell ⟨b, 2, none⟩ (.int .i64 k)) F b bm sv N M pv d.call ∧ w.grownBy (w.setCell ⟨b, 2, none⟩ (.int .i64 k)) (some b)) := Lib.hid (fun k e => by
      subst e
      have hg := gb_store (gb_refl w (some b)) 2 (.int .i64 ((d.calls + 1 : Nat) : Int))
      refine ⟨?_, hg⟩
      have hr := h.blk.stored 2 (.int .i64 ((d.calls + 1 : Nat) : Int))
      have := h.turn (c := d.calls + 1) (a := d.armed - 1) (q := d.call.down) (by rw [hq, h0]; simpa [dcells, h0, hd] using hr) hg (Nat.le_succ _)
      exact this)
    rw [hd] at c4
    rw [h0] at c3
    clear h e2 h0 hq hb ha'
    go_enter Tryz.func84, Tryz.ntmps84
    go_wp2_with fail
    go_ret
    exact ⟨rfl, fin.out _ (by omega)⟩
  · have hb : decide (0 < d.armed) = true := by simp; omega
    have fin : Hid (∀ (k a : Int) (q : Bool), k = ((d.calls + 1 : Nat) : Int) → a = ((d.armed - 1 : Nat) : Int) → q = d.call.down →
        DAt (((w.setCell ⟨b, 2, none⟩ (.int .i64 k)).setCell ⟨b, 3, none⟩ (.int .i64 a)).setCell ⟨b, 4, none⟩ (.bool q)) F b bm sv N M pv d.call ∧ w.grownBy (((w.setCell ⟨b, 2, none⟩ (.int .i64 k)).setCell ⟨b, 3, none⟩ (.int .i64 a)).setCell ⟨b, 4, none⟩ (.bool q)) (some b)) := Lib.hid (fun k a q e1 e2 e3 => by
      subst e1 e2 e3
      have hg := gb_store (gb_store (gb_store (gb_refl w (some b)) 2 (.int .i64 ((d.calls + 1 : Nat) : Int))) 3 (.int .i64 ((d.armed - 1 : Nat) : Int))) 4 (.bool d.call.down)
      refine ⟨?_, hg⟩
      have hr := ((h.blk.stored 2 (.int .i64 ((d.calls + 1 : Nat) : Int))).stored 3 (.int .i64 ((d.armed - 1 : Nat) : Int))).stored 4 (.bool d.call.down)
      exact h.turn (c := d.calls + 1) (a := d.armed - 1) (q := d.call.down) hr hg (Nat.le_succ _))
    have hz : (d.armed : Int) - 1 = ((d.armed - 1 : Nat) : Int) := by omega
    have hq : d.call.down = decide ((d.armed : Int) - 1 = 0) := by
      rw [e2, hd, Bool.false_or, Bool.eq_iff_iff]
      simp
      omega
    have hbq : ((d.armed : Int) - 1 == 0) = d.call.down := by rw [hq]; rfl
    have Hq := Lib.hid hq
    have ha1 : (1 : Int) ≤ (d.armed : Int) := by omega
    have Hz := Lib.hid hz
    clear h e2 h0 hq hz
    generalize d.call.down = q at *
    go_enter Tryz.func84, Tryz.ntmps84
    go_wp2_with fail
    go_ret
    exact ⟨by first | rfl | rw [hbq], fin.out _ _ _ (by omega) Hz.out (by first | rfl | exact hbq)⟩

/-- What next tells. -/
structure Nxt (S : List (List ByteArray)) (k : Nat) (e : Ending) (w w' : World) : Prop where
  out : ∃ (j : Nat) (ok : Bool), e = .returned (.tuple #[.int .i64 (j : Int), .bool ok]) ∧ k ≤ j ∧ j ≤ S.length ∧ (∀ i l, k ≤ i → i < j → S[i]? = some l → ¬ 1 < l.length) ∧ (ok = true → j < S.length ∧ ∀ l, S[j]? = some l → 1 < l.length) ∧ (ok = false → j = S.length)
  same : w = w'

set_option maxRecDepth 100000 in
set_option maxHeartbeats 800000 in
theorem next_any (h : DAt w F b bm sv N M pv d) {k : Nat} (hk : k ≤ d.S.length) :
    Calls Tryz.prog 45 #[.pointer (some ⟨b, 0, none⟩), .int .i64 (k : Int)] w (Nxt d.S k · w ·) := by
  obtain ⟨g, cap, rfl, hg⟩ := h.safeForm
  obtain ⟨c0, c1, -, -, -, -, -, -⟩ := h.facts
  have hlen := h.few
  have hlook := fun (j : Nat) (hj : j < d.S.length) => h.look (List.getElem?_eq_getElem hj)
  have Hlook := Lib.hid hlook
  clear hlook h
  generalize d.S = S at *
  have hlen' : (S.length : Int) ≤ 4096 := by omega
  go_enter Tryz.func45, Tryz.ntmps45
  go_wp2_with fail
  go_step3
  go_wp2_with fail
  go_step3
  go_wp2_with fail
  go_loop [1, 6] (fun i f => ∃ j : Nat, k ≤ j ∧ j ≤ S.length ∧ i = .int .i64 (j : Int) ∧ f = .bool false ∧ ∀ i l, k ≤ i → i < j → S[i]? = some l → ¬ 1 < l.length) (fun i _ => S.length - (intOf i).toNat)
  case atStart => exact ⟨k, Nat.le_refl _, hk, rfl, rfl, fun i l h1 h2 => by omega⟩
  case round =>
    obtain ⟨j, hj1, hj2, rfl, rfl, hno⟩ := hrel
    have Hno := Lib.hid hno
    clear hno
    by_cases hlt : j < S.length
    · obtain ⟨v, hl, -, -, -, -⟩ := Hlook.out j hlt
      by_cases hp : 1 < S[j].length
      · have hpb : decide (1 < S[j].length) = true := by simpa using hp
        rw [hpb] at hl
        have fin : Hid (Nxt S k (.returned (.tuple #[.int .i64 (j : Int), .bool true])) w w) := Lib.hid ⟨⟨j, true, rfl, hj1, hj2, Hno.out, fun _ => ⟨hlt, fun l hl => by rw [List.getElem?_eq_getElem hlt] at hl; cases hl; exact hp⟩, fun e => by cases e⟩, rfl⟩
        clear hp hpb
        go_wp2_with fail
        go_ret2
        exact fin.out
      · have hpb : decide (1 < S[j].length) = false := by simpa using hp
        rw [hpb] at hl
        clear hpb
        go_wp2_with fail
        go_round
        case rel => exact ⟨j + 1, by omega, by omega, by go_num, rfl, fun i l h1 h2 h3 => by
          by_cases e : i = j
          · subst e
            rw [List.getElem?_eq_getElem hlt] at h3; cases h3; exact hp
          · exact Hno.out i l h1 (by omega) h3⟩
        case measure => simp [intOf]; omega
    · obtain rfl : j = S.length := by omega
      have fin : Hid (Nxt S k (.returned (.tuple #[.int .i64 (S.length : Int), .bool false])) w w) := Lib.hid ⟨⟨S.length, false, rfl, hj1, hj2, Hno.out, (fun e => by cases e), fun _ => rfl⟩, rfl⟩
      go_wp2_with fail
      go_ret2
      exact fin.out

set_option maxRecDepth 100000 in
theorem dirtyFrom_skip {S : List (List ByteArray)} {k j : Nat} (hkj : k ≤ j) (hj : j ≤ S.length) (h : ∀ i l, k ≤ i → i < j → S[i]? = some l → ¬ 1 < l.length) : dirtyFrom 0 (S.take j) = dirtyFrom 0 (S.take k) := by
  induction j with
  | zero => rw [show k = 0 by omega]
  | succ j ih =>
    by_cases e : k = j + 1
    · rw [e]
    · have hl := List.getElem?_eq_getElem (show j < S.length by omega)
      rw [dirty_take hl, if_neg (h j _ (by omega) (by omega) hl), List.append_nil]
      exact ih (by omega) (by omega) (fun i l h1 h2 h3 => h i l h1 (by omega) h3)

/-- The sectors up to the one at hand are told. -/
def Told (S : List (List ByteArray)) (w : World) (v : Value) (j : Nat) (ok : Bool) (wr : World) : Prop :=
  j ≤ S.length ∧ (ok = true → j < S.length ∧ ∀ l, S[j]? = some l → 1 < l.length) ∧ (ok = false → j = S.length) ∧ NatsAt w (dirtyFrom 0 (S.take j)) v wr

set_option maxRecDepth 100000 in
theorem Told.start {S : List (List ByteArray)} {w w' : World} {e : Ending} (h : Nxt S 0 e w w') : ∃ (j : Nat) (ok : Bool), e = .returned (.tuple #[.int .i64 (j : Int), .bool ok]) ∧ Told S w (.slice none 0 0) j ok w ∧ w = w' := by
  obtain ⟨⟨j, ok, e1, -, h2, h3, h4, h5⟩, e2⟩ := h
  refine ⟨j, ok, e1, ⟨h2, h4, h5, ?_⟩, e2⟩
  rw [dirtyFrom_skip (Nat.zero_le _) h2 h3]
  exact nats_start w

set_option maxRecDepth 100000 in
theorem Told.step {S : List (List ByteArray)} {l : List ByteArray} {w wr w' : World} {e : Ending} {v : Value} {j : Nat} (hl : S[j]? = some l) (hp : 1 < l.length) (hn : NatsAt w (dirtyFrom 0 (S.take j) ++ [j]) v wr) (h : Nxt S (j + 1) e wr w') :
    ∃ (j' : Nat) (ok : Bool), e = .returned (.tuple #[.int .i64 (j' : Int), .bool ok]) ∧ Told S w v j' ok wr ∧ j < j' ∧ wr = w' := by
  obtain ⟨⟨j', ok, e1, h1, h2, h3, h4, h5⟩, e2⟩ := h
  refine ⟨j', ok, e1, ⟨h2, h4, h5, ?_⟩, by omega, e2⟩
  rw [dirtyFrom_skip h1 h2 h3, dirty_take hl, if_pos hp]
  exact hn

end
end Go.Proofs.YtbfjageaheijbaaGreat
