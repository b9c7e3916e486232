/- What was flushed is there behind a crash, as plain data. No program is spoken of. -/
import Derived.Test.YtbfjageaheijbaaGreatCom3
import Derived.Test.YtbfjageaheijbaaGreatCom2
namespace Go.Proofs.YtbfjageaheijbaaGreat.Dsk

set_option maxRecDepth 100000 in
theorem pick_mem {l : List ByteArray} (h : 0 < l.length) (k : Int) : pick l k ∈ l := by
  unfold pick
  have hm := Int.tmod_lt_of_pos k (b := (l.length : Int)) (by omega)
  have hm2 := Int.lt_tmod_of_pos k (b := (l.length : Int)) (by omega)
  have hlt : (k.tmod (l.length : Int)).natAbs < l.length := by omega
  rw [List.getD_eq_getElem?_getD, List.getElem?_eq_getElem hlt]
  exact List.getElem_mem hlt

set_option maxRecDepth 100000 in
/-- A crash leaves each sector some of what it had. -/
theorem crashOn_sub (ks : List Int) (k : Nat) (l : List ByteArray) : ∀ (L : List Nat) (i : Nat) (S : List (List ByteArray)), (∃ m, S[k]? = some m ∧ m ≠ [] ∧ (∀ y ∈ m, y ∈ l)) →
    ∃ m, (crashOn ks L i S)[k]? = some m ∧ m ≠ [] ∧ (∀ y ∈ m, y ∈ l)
  | [], _, _, h => h
  | a :: L, i, S, h => by
    refine crashOn_sub ks k l L (i + 1) _ ?_
    obtain ⟨m, h1, h2, h3⟩ := h
    by_cases e : a = k
    · subst e
      have hk := (List.getElem?_eq_some_iff.1 h1).1
      refine ⟨_, List.getElem?_set_self hk, by simp, fun y hy => ?_⟩
      rw [List.mem_singleton] at hy
      subst hy
      have e2 : S.getD a [] = m := by rw [List.getD_eq_getElem?_getD, h1]; rfl
      rw [e2]
      exact h3 _ (pick_mem (List.length_pos_iff.2 h2) _)
    · exact ⟨m, by rw [List.getElem?_set_ne e]; exact h1, h2, h3⟩

set_option maxRecDepth 100000 in
theorem crashOn_one (ks : List Int) (k : Nat) : ∀ (L : List Nat) (i : Nat) (S : List (List ByteArray)), (k ∈ L ∨ ∃ m, S[k]? = some m ∧ m.length ≤ 1) → k < S.length → ∃ m, (crashOn ks L i S)[k]? = some m ∧ m.length ≤ 1
  | [], _, _, h, _ => by
    rcases h with h | h
    · cases h
    · exact h
  | a :: L, i, S, h, hk => by
    refine crashOn_one ks k L (i + 1) _ ?_ (by rw [List.length_set]; exact hk)
    by_cases e : a = k
    · subst e
      exact Or.inr ⟨_, List.getElem?_set_self hk, by simp⟩
    · rcases h with h | ⟨m, h1, h2⟩
      · rcases List.mem_cons.1 h with h | h
        · exact absurd h.symm e
        · exact Or.inl h
      · exact Or.inr ⟨m, by rw [List.getElem?_set_ne e]; exact h1, h2⟩

set_option maxRecDepth 100000 in
theorem dirtyFrom_has {S : List (List ByteArray)} : ∀ {j k : Nat} {l : List ByteArray}, S[k]? = some l → 1 < l.length → j + k ∈ dirtyFrom j S := by
  induction S with
  | nil => intro j k l h; simp at h
  | cons x S ih =>
    intro j k l h hl
    unfold dirtyFrom
    cases k with
    | zero =>
      simp at h
      subst h
      rw [if_pos hl]
      simp
    | succ k =>
      have := ih (j := j + 1) (k := k) (by simpa using h) hl
      rw [show j + 1 + k = j + (k + 1) by omega] at this
      split
      · exact List.mem_cons_of_mem _ this
      · exact this

set_option maxRecDepth 100000 in
theorem crash_at (d : D) (ks : List Int) {k : Nat} {l : List ByteArray} (h : d.S[k]? = some l) (hl : l ≠ []) : ∃ x ∈ l, (d.crash ks).at k = [x] := by
  have hk := (List.getElem?_eq_some_iff.1 h).1
  obtain ⟨m, h1, h2, h3⟩ := crashOn_sub ks k l d.dirty 0 d.S ⟨l, h, hl, fun _ h => h⟩
  have h4 : k ∈ d.dirty ∨ ∃ m, d.S[k]? = some m ∧ m.length ≤ 1 := by
    by_cases e : 1 < l.length
    · left
      have := dirtyFrom_has (j := 0) h e
      rw [Nat.zero_add] at this
      exact this
    · exact Or.inr ⟨l, h, by omega⟩
  obtain ⟨m', h5, h6⟩ := crashOn_one ks k d.dirty 0 d.S h4 hk
  rw [h1] at h5
  injection h5 with h5
  subst h5
  match m, h2, h6, h3 with
  | [x], _, _, h3 =>
    refine ⟨x, h3 x (by simp), ?_⟩
    show (crashOn ks d.dirty 0 d.S).getD k [] = [x]
    rw [List.getD_eq_getElem?_getD, h1]; rfl

/-- A sector's number and what stands there, as one text. -/
def secKey (k : Nat) (s : ByteArray) : ByteArray := ⟨#[UInt8.ofNat k]⟩ ++ s

/-- What is flushed, what was written since, and where. -/
structure Safe (n : Nat) (d : D) (sf : List ByteArray) (ds : List Bool) (Ks : List ByteArray) : Prop where
  len : d.S.length = n
  down : d.down = false
  armed : d.armed = 0
  sfl : sf.length = 16
  dsl : ds.length = 16
  small : ∀ y ∈ Ks, y.size ≤ 65
  each : ∀ k, k < n → ∃ s0 tl, d.S[k]? = some (s0 :: tl) ∧ sf[k]? = some s0 ∧ (∀ x ∈ tl, secKey k x ∈ Ks) ∧ (ds[k]? = some false → tl = [])

set_option maxRecDepth 100000 in
theorem safe_calls {d : D} (h1 : d.down = false) (h2 : d.armed = 0) : d.call.down = false := by
  show (d.down || d.armed == 1) = false
  rw [h1, h2]; rfl

set_option maxRecDepth 100000 in
theorem safe_write {n : Nat} {d : D} {sf : List ByteArray} {ds : List Bool} {Ks : List ByteArray} (h : Safe n d sf ds Ks) {k : Nat} (hk : k < n) (hn : n ≤ 16) {s : ByteArray} (hs : s.size ≤ 64) :
    (d.write (k : Int) s).1 = 0 ∧ Safe n (d.write (k : Int) s).2 sf (ds.set k true) (secKey k (fill s) :: Ks) := by
  have e : d.write (k : Int) s = (0, { d.call with S := d.S.set k (d.at k ++ [fill s]) }) := by
    unfold D.write
    rw [if_neg (by rw [h.down]; decide), if_neg (by have := h.len; omega), if_neg (by omega), if_neg (by rw [safe_calls h.down h.armed]; decide)]
    rfl
  rw [e]
  refine ⟨rfl, by show (d.S.set _ _).length = n; rw [List.length_set]; exact h.len, safe_calls h.down h.armed, by show d.armed - 1 = 0; rw [h.armed], h.sfl, by rw [List.length_set]; exact h.dsl, fun y hy => ?_, fun j hj => ?_⟩
  · rcases List.mem_cons.1 hy with hy | hy
    · subst hy
      unfold secKey
      rw [ByteArray.size_append, fill_size s hs]
      exact Nat.le_refl _
    · exact h.small y hy
  obtain ⟨s0, tl, h1, h2, h3, h4⟩ := h.each j hj
  by_cases ej : k = j
  · subst ej
    refine ⟨s0, tl ++ [fill s], ?_, h2, fun x hx => ?_, fun hf => ?_⟩
    · show (d.S.set k _)[k]? = _
      rw [List.getElem?_set_self (by rw [h.len]; exact hk)]
      have : d.at k = s0 :: tl := by
        unfold D.at
        rw [List.getD_eq_getElem?_getD, h1]; rfl
      rw [this]; rfl
    · rcases List.mem_append.1 hx with hx | hx
      · exact List.mem_cons_of_mem _ (h3 x hx)
      · rw [List.mem_singleton] at hx
        subst hx
        exact List.mem_cons_self
    · rw [List.getElem?_set_self (by rw [h.dsl]; omega)] at hf
      cases hf
  · refine ⟨s0, tl, ?_, h2, fun x hx => List.mem_cons_of_mem _ (h3 x hx), fun hf => h4 ?_⟩
    · show (d.S.set k _)[j]? = _
      rw [List.getElem?_set_ne ej]; exact h1
    · rw [List.getElem?_set_ne ej] at hf; exact hf

set_option maxRecDepth 100000 in
theorem safe_flush {n : Nat} {d : D} {sf : List ByteArray} {ds : List Bool} {Ks : List ByteArray} (h : Safe n d sf ds Ks) :
    d.flush.1 = 0 ∧ d.flush.2.S.length = n ∧ d.flush.2.down = false ∧ d.flush.2.armed = 0 ∧ ∀ k, k < n → d.flush.2.S[k]? = some [last (d.flush.2.at k)] := by
  have e : d.flush = (0, { d.call with S := d.S.map fun l => [last l] }) := by
    unfold D.flush
    rw [if_neg (by rw [h.down]; decide), if_neg (by rw [safe_calls h.down h.armed]; decide)]
  rw [e]
  refine ⟨rfl, by show (d.S.map _).length = n; rw [List.length_map]; exact h.len, safe_calls h.down h.armed, by show d.armed - 1 = 0; rw [h.armed], fun k hk => ?_⟩
  obtain ⟨s0, tl, h1, _⟩ := h.each k hk
  have e1 : (d.S.map fun l => [last l])[k]? = some [last (s0 :: tl)] := by rw [List.getElem?_map, h1]; rfl
  show (d.S.map fun l => [last l])[k]? = some [last ((d.S.map fun l => [last l]).getD k [])]
  rw [List.getD_eq_getElem?_getD, e1]
  rfl

set_option maxRecDepth 100000 in
theorem safe_flushed {n : Nat} {d : D} {sf : List ByteArray} {ds : List Bool} {Ks : List ByteArray} (h1 : d.S.length = n) (h2 : d.down = false) (h3 : d.armed = 0) (h4 : ∀ k, k < n → d.S[k]? = some [last (d.at k)])
    (hs : sf.length = 16) (hd : ds.length = 16) (hK : ∀ y ∈ Ks, y.size ≤ 65) (h5 : ∀ k, k < n → sf[k]? = some (last (d.at k))) : Safe n d sf ds Ks :=
  ⟨h1, h2, h3, hs, hd, hK, fun k hk => ⟨last (d.at k), [], h4 k hk, h5 k hk, (fun x hx => by cases hx), fun _ => rfl⟩⟩

set_option maxRecDepth 100000 in
/-- What is read behind a crash. -/
theorem safe_crash {n : Nat} {d : D} {sf : List ByteArray} {ds : List Bool} {Ks : List ByteArray} (h : Safe n d sf ds Ks) (ks : List Int) {k : Nat} (hk : k < n) :
    ∃ s0, sf[k]? = some s0 ∧ (last ((d.crash ks).at k) = s0 ∨ (last ((d.crash ks).at k) ≠ s0 ∧ ds[k]? ≠ some false ∧ secKey k (last ((d.crash ks).at k)) ∈ Ks)) := by
  obtain ⟨s0, tl, h1, h2, h3, h4⟩ := h.each k hk
  obtain ⟨x, hx, e⟩ := crash_at d ks h1 (by simp)
  refine ⟨s0, h2, ?_⟩
  rw [e]
  show x = s0 ∨ (x ≠ s0 ∧ _ ∧ secKey k x ∈ Ks)
  by_cases ex : x = s0
  · exact Or.inl ex
  · have hxt : x ∈ tl := by
      rcases List.mem_cons.1 hx with hx | hx
      · exact absurd hx ex
      · exact hx
    exact Or.inr ⟨ex, (fun hf => by rw [h4 hf] at hxt; cases hxt), h3 x hxt⟩

set_option maxRecDepth 100000 in
theorem safe_new {n : Nat} {sf : List ByteArray} (hs : sf.length = 16) (h : ∀ k, k < n → sf[k]? = some (fill ⟨#[]⟩)) : Safe n (new n) sf (List.replicate 16 false) [] :=
  ⟨List.length_replicate, rfl, rfl, hs, List.length_replicate, (fun y hy => by cases hy), fun k hk => ⟨fill ⟨#[]⟩, [], by
    show (List.replicate n [fill ⟨#[]⟩])[k]? = _
    rw [List.getElem?_replicate, if_pos hk], h k hk, (fun x hx => by cases hx), fun _ => rfl⟩⟩
end Go.Proofs.YtbfjageaheijbaaGreat.Dsk
/- The journal of the document, as plain data over the disk's: heads, what may be there behind a crash. No program is spoken of. -/
namespace Go.Proofs.YtbfjageaheijbaaGreat.Jnl
open Dsk

/-! ### Heads -/

def tag : List UInt8 := [76, 73, 71, 72, 84, 69, 82]

def headOf (seq half used : Nat) : List UInt8 := tag ++ Leb.enc seq ++ Leb.enc half ++ Leb.enc used

/-- A head's bytes. -/
def head (seq half used : Nat) : List UInt8 := headOf seq half used ++ Frm.sumOf (headOf seq half used)

/-- A sector's head, where it is valid; h: how many sectors a half has. -/
def headAt (h : Nat) (s : List UInt8) : Option (Nat × Nat × Nat) :=
  if s.take 7 = tag ∧ (Leb.first (s.drop 7)).2.2 = 0 ∧ (Leb.first (s.drop (7 + (Leb.first (s.drop 7)).2.1))).2.2 = 0 ∧
    (Leb.first (s.drop (7 + (Leb.first (s.drop 7)).2.1 + (Leb.first (s.drop (7 + (Leb.first (s.drop 7)).2.1))).2.1))).2.2 = 0 ∧
    s = head (Leb.first (s.drop 7)).1 (Leb.first (s.drop (7 + (Leb.first (s.drop 7)).2.1))).1
        (Leb.first (s.drop (7 + (Leb.first (s.drop 7)).2.1 + (Leb.first (s.drop (7 + (Leb.first (s.drop 7)).2.1))).2.1))).1 ++
      s.drop (head (Leb.first (s.drop 7)).1 (Leb.first (s.drop (7 + (Leb.first (s.drop 7)).2.1))).1
        (Leb.first (s.drop (7 + (Leb.first (s.drop 7)).2.1 + (Leb.first (s.drop (7 + (Leb.first (s.drop 7)).2.1))).2.1))).1).length ∧
    (Leb.first (s.drop (7 + (Leb.first (s.drop 7)).2.1))).1 ≤ 1 ∧
    (Leb.first (s.drop (7 + (Leb.first (s.drop 7)).2.1 + (Leb.first (s.drop (7 + (Leb.first (s.drop 7)).2.1))).2.1))).1 ≤ 64 * h
  then some ((Leb.first (s.drop 7)).1, (Leb.first (s.drop (7 + (Leb.first (s.drop 7)).2.1))).1,
    (Leb.first (s.drop (7 + (Leb.first (s.drop 7)).2.1 + (Leb.first (s.drop (7 + (Leb.first (s.drop 7)).2.1))).2.1))).1)
  else none

set_option maxRecDepth 100000 in
theorem head_len (seq half used : Nat) : (head seq half used).length ≤ 38 := by
  have h1 := (Leb.enc_len seq).2
  have h2 := (Leb.enc_len half).2
  have h3 := (Leb.enc_len used).2
  simp only [head, headOf, List.length_append, Frm.sumOf_len, tag, List.length_cons, List.length_nil]
  omega

set_option maxRecDepth 100000 in
theorem headAt_head (h seq half used : Nat) (r : List UInt8) (hs : seq < 9223372036854775808) (hh : half ≤ 1) (hu : used ≤ 64 * h) (hu2 : used < 9223372036854775808) :
    headAt h (head seq half used ++ r) = some (seq, half, used) := by
  have e0 : head seq half used ++ r = tag ++ (Leb.enc seq ++ (Leb.enc half ++ (Leb.enc used ++ (Frm.sumOf (headOf seq half used) ++ r)))) := by
    simp [head, headOf]
  have t7 : (head seq half used ++ r).take 7 = tag := by rw [e0]; rfl
  have d7 : (head seq half used ++ r).drop 7 = Leb.enc seq ++ (Leb.enc half ++ (Leb.enc used ++ (Frm.sumOf (headOf seq half used) ++ r))) := by rw [e0]; rfl
  have f1 := Leb.first_enc seq (Leb.enc half ++ (Leb.enc used ++ (Frm.sumOf (headOf seq half used) ++ r))) hs
  have d8 : (head seq half used ++ r).drop (7 + (Leb.enc seq).length) = Leb.enc half ++ (Leb.enc used ++ (Frm.sumOf (headOf seq half used) ++ r)) := by
    rw [← List.drop_drop, d7, List.drop_left]
  have f2 := Leb.first_enc half (Leb.enc used ++ (Frm.sumOf (headOf seq half used) ++ r)) (by omega)
  have d9 : (head seq half used ++ r).drop (7 + (Leb.enc seq).length + (Leb.enc half).length) = Leb.enc used ++ (Frm.sumOf (headOf seq half used) ++ r) := by
    rw [← List.drop_drop, d8, List.drop_left]
  have f3 := Leb.first_enc used (Frm.sumOf (headOf seq half used) ++ r) hu2
  unfold headAt
  rw [d7, f1, d8, f2, d9, f3]
  simp only []
  rw [if_pos ⟨t7, trivial, trivial, trivial, by rw [List.drop_left], hh, hu⟩]

set_option maxRecDepth 100000 in
/-- Only a head is read as one. -/
theorem headAt_only {h : Nat} {s : List UInt8} {seq half used : Nat} (e : headAt h s = some (seq, half, used)) : seq < 9223372036854775808 ∧ half ≤ 1 ∧ used ≤ 64 * h ∧ s = head seq half used ++ s.drop (head seq half used).length := by
  unfold headAt at e
  split at e
  · rename_i hc
    obtain ⟨-, -, -, -, h5, h6, h7⟩ := hc
    simp only [Option.some.injEq, Prod.mk.injEq] at e
    obtain ⟨e1, e2, e3⟩ := e
    have hf := (Leb.first_fits (s.drop 7)).1
    rw [e1] at hf
    rw [e2] at h6
    rw [e3] at h7
    rw [e1, e2, e3] at h5
    exact ⟨hf, h6, h7, h5⟩
  · cases e

/-- The current head: the valid one with the greater number. -/
def cur (h : Nat) (x y : List UInt8) : Option (Nat × Nat × Nat) :=
  match headAt h x, headAt h y with
  | some a, some b => if b.1 ≤ a.1 then some a else some b
  | some a, none => some a
  | none, b => b

/-! ### What may stand there behind a crash -/

/-- Each that a crash may leave has P. -/
def May (d : D) (P : (Nat → ByteArray) → Prop) : Prop := ∀ X : Nat → ByteArray, (∀ k, k < d.S.length → X k ∈ d.at k) → P X

/-- P speaks of the sectors alone. -/
def Of (n : Nat) (P : (Nat → ByteArray) → Prop) : Prop := ∀ X Y : Nat → ByteArray, (∀ k, k < n → X k = Y k) → P X → P Y

def put (X : Nat → ByteArray) (k : Nat) (s : ByteArray) : Nat → ByteArray := fun i => if i = k then s else X i

set_option maxRecDepth 100000 in
theorem put_self (X : Nat → ByteArray) (k : Nat) (s : ByteArray) : put X k s k = s := by unfold put; rw [if_pos rfl]
set_option maxRecDepth 100000 in
theorem put_ne (X : Nat → ByteArray) {k i : Nat} (s : ByteArray) (h : i ≠ k) : put X k s i = X i := by unfold put; rw [if_neg h]

set_option maxRecDepth 100000 in
theorem May.mono {d : D} {P Q : (Nat → ByteArray) → Prop} (h : May d P) (hq : ∀ X, P X → Q X) : May d Q := fun X hX => hq X (h X hX)
set_option maxRecDepth 100000 in
theorem May.and {d : D} {P Q : (Nat → ByteArray) → Prop} (h : May d P) (k : May d Q) : May d (fun X => P X ∧ Q X) := fun X hX => ⟨h X hX, k X hX⟩
set_option maxRecDepth 100000 in
/-- The sectors alone count. -/
theorem May.same {d d' : D} {P : (Nat → ByteArray) → Prop} (h : May d P) (e : d'.S = d.S) : May d' P := fun X hX => h X (fun k hk => by
  have := hX k (by rw [e]; exact hk)
  unfold D.at at this ⊢
  rw [e] at this
  exact this)

set_option maxRecDepth 100000 in
theorem at_set {S : List (List ByteArray)} {c a : Nat} {dn : Bool} {k i : Nat} {l : List ByteArray} (hk : k < S.length) : (D.mk (S.set k l) c a dn).at i = if i = k then l else (D.mk S c a dn).at i := by
  unfold D.at
  by_cases e : i = k
  · subst e
    rw [if_pos rfl, List.getD_eq_getElem?_getD, List.getElem?_set_self hk]; rfl
  · rw [if_neg e, List.getD_eq_getElem?_getD, List.getElem?_set_ne (fun h => e h.symm), ← List.getD_eq_getElem?_getD]

set_option maxRecDepth 100000 in
/-- A write that is done: whatever may be there, may be there with what is written. -/
theorem May.write {d : D} {P : (Nat → ByteArray) → Prop} {k : Nat} {s : ByteArray} (h : May d P) (hof : Of d.S.length P) (hk : k < d.S.length) (hne : d.at k ≠ []) (hput : ∀ X, P X → P (put X k (fill s))) (c a : Nat) (dn : Bool) :
    May ⟨d.S.set k (d.at k ++ [fill s]), c, a, dn⟩ P := by
  intro X hX
  have hat : ∀ i, i < d.S.length → X i ∈ (if i = k then d.at k ++ [fill s] else d.at i) := fun i hi => by
    have := hX i (by rw [List.length_set]; exact hi)
    rw [at_set hk] at this
    exact this
  by_cases e : X k ∈ d.at k
  · refine h X (fun i hi => ?_)
    have := hat i hi
    by_cases ei : i = k
    · subst ei; exact e
    · rw [if_neg ei] at this; exact this
  · have hk1 := hat k hk
    rw [if_pos rfl, List.mem_append, List.mem_singleton] at hk1
    have hxk : X k = fill s := hk1.resolve_left e
    obtain ⟨y, hy⟩ := List.exists_mem_of_ne_nil _ hne
    have h1 : P (put X k y) := h _ (fun i hi => by
      have := hat i hi
      by_cases ei : i = k
      · subst ei; rw [put_self]; exact hy
      · rw [put_ne _ _ ei]; rw [if_neg ei] at this; exact this)
    have h2 := hput _ h1
    refine hof _ _ (fun i _ => ?_) h2
    by_cases ei : i = k
    · subst ei; rw [put_self, hxk]
    · rw [put_ne _ _ ei, put_ne _ _ ei]

set_option maxRecDepth 100000 in
/-- Behind a write of a sector, two things may be there. -/
theorem May.either {d : D} {P Q : (Nat → ByteArray) → Prop} {k : Nat} {s : ByteArray} (h : May d P) (hof : Of d.S.length Q) (hk : k < d.S.length) (hne : d.at k ≠ []) (hput : ∀ X, P X → Q (put X k (fill s))) (c a : Nat) (dn : Bool) :
    May ⟨d.S.set k (d.at k ++ [fill s]), c, a, dn⟩ (fun X => P X ∨ Q X) := by
  intro X hX
  have hat : ∀ i, i < d.S.length → X i ∈ (if i = k then d.at k ++ [fill s] else d.at i) := fun i hi => by
    have := hX i (by rw [List.length_set]; exact hi)
    rw [at_set hk] at this
    exact this
  by_cases e : X k ∈ d.at k
  · refine Or.inl (h X (fun i hi => ?_))
    have := hat i hi
    by_cases ei : i = k
    · subst ei; exact e
    · rw [if_neg ei] at this; exact this
  · have hk1 := hat k hk
    rw [if_pos rfl, List.mem_append, List.mem_singleton] at hk1
    have hxk : X k = fill s := hk1.resolve_left e
    obtain ⟨y, hy⟩ := List.exists_mem_of_ne_nil _ hne
    have h1 : P (put X k y) := h _ (fun i hi => by
      have := hat i hi
      by_cases ei : i = k
      · subst ei; rw [put_self]; exact hy
      · rw [put_ne _ _ ei]; rw [if_neg ei] at this; exact this)
    refine Or.inr (hof _ _ (fun i _ => ?_) (hput _ h1))
    by_cases ei : i = k
    · subst ei; rw [put_self, hxk]
    · rw [put_ne _ _ ei, put_ne _ _ ei]

set_option maxRecDepth 100000 in
theorem last_mem {l : List ByteArray} (h : l ≠ []) : last l ∈ l := by
  unfold last
  rw [List.getLastD_eq_getLast?, List.getLast?_eq_some_getLast h]
  exact List.getLast_mem h

set_option maxRecDepth 100000 in
/-- A flush leaves what was written last. -/
theorem May.flush {d : D} {P : (Nat → ByteArray) → Prop} (h : May d P) (hne : ∀ l ∈ d.S, l ≠ []) (c a : Nat) (dn : Bool) : May ⟨d.S.map fun l => [last l], c, a, dn⟩ (fun X => P X ∧ ∀ k, k < d.S.length → X k = last (d.at k)) := by
  intro X hX
  have hX2 : ∀ k, k < d.S.length → X k = last (d.at k) := fun k hk => by
    have := hX k (by rw [List.length_map]; exact hk)
    unfold D.at at this
    rw [List.getD_eq_getElem?_getD, List.getElem?_map, List.getElem?_eq_getElem hk] at this
    simp at this
    rw [this]
    unfold D.at
    rw [List.getD_eq_getElem?_getD, List.getElem?_eq_getElem hk]; rfl
  refine ⟨h X (fun k hk => ?_), hX2⟩
  rw [hX2 k hk]
  refine last_mem ?_
  unfold D.at
  rw [List.getD_eq_getElem?_getD, List.getElem?_eq_getElem hk]
  exact hne _ (List.getElem_mem hk)

set_option maxRecDepth 100000 in
/-- A crash leaves one of all that may be there. -/
theorem May.crash {d : D} {P : (Nat → ByteArray) → Prop} (h : May d P) (hof : Of d.S.length P) (hne : ∀ l ∈ d.S, l ≠ []) (ks : List Int) : P (fun k => last ((d.crash ks).at k)) ∧ May (d.crash ks) P := by
  have hat : ∀ k, k < d.S.length → ∃ x ∈ d.at k, (d.crash ks).at k = [x] := fun k hk => by
    have e : d.S[k]? = some (d.at k) := by
      unfold D.at
      rw [List.getD_eq_getElem?_getD, List.getElem?_eq_getElem hk]; rfl
    refine crash_at d ks e ?_
    exact hne _ (List.mem_of_getElem? e)
  have hp : P (fun k => last ((d.crash ks).at k)) := h _ (fun k hk => by
    obtain ⟨x, hx, e⟩ := hat k hk
    simp only [e]
    exact hx)
  have hl : (d.crash ks).S.length = d.S.length := crashOn_len _ _ _ _
  refine ⟨hp, fun X hX => hof _ _ (fun k hk => ?_) hp⟩
  obtain ⟨x, hx, e⟩ := hat k hk
  have := hX k (by rw [hl]; exact hk)
  rw [e, List.mem_singleton] at this
  simp only [e]
  rw [this]; rfl
end Go.Proofs.YtbfjageaheijbaaGreat.Jnl
