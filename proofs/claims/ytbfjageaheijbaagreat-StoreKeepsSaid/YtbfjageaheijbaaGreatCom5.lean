/- The journal of the document, as plain data over the disk's: what a call does, and that all of it is kept, or none. No program is spoken of. -/
import Derived.Test.YtbfjageaheijbaaGreatCom4
namespace Go.Proofs.YtbfjageaheijbaaGreat.Jnl
open Dsk

structure J where
  seq : Nat
  half : Nat
  bytes : List UInt8
  broken : Bool

def chunk (all : List UInt8) (i : Nat) : List UInt8 := (all.drop (64 * i)).take 64

def text (l : List UInt8) : ByteArray := ⟨l.toArray⟩

/-- Sectors are written, in ascending order, up to the disk's first error. -/
def writeFrom (base : Nat) (all : List UInt8) : Nat → Nat → D → Int × D
  | _, 0, d => (0, d)
  | i, c + 1, d => if (d.write ((base + i : Nat) : Int) (text (chunk all i))).1 = 0 then writeFrom base all (i + 1) c (d.write ((base + i : Nat) : Int) (text (chunk all i))).2 else d.write ((base + i : Nat) : Int) (text (chunk all i))

def andThen (r : Int × D) (f : D → Int × D) : Int × D := if r.1 = 0 then f r.2 else r

/-- A head is set. -/
def setHead (seq half used : Nat) (d : D) : Int × D := andThen (d.write ((seq % 2 : Nat) : Int) (text (head seq half used))) D.flush

def commit (h seq half : Nat) (pre new : List UInt8) (d : D) : Int × D :=
  andThen (andThen (writeFrom (2 + half * h) (pre ++ new) (pre.length / 64) (((pre ++ new).length + 63) / 64 - pre.length / 64) d) D.flush) (setHead (seq + 1) half (pre ++ new).length)

/-! ### What is kept -/

structure Shape (n : Nat) (d : D) : Prop where
  len : d.S.length = n
  some : ∀ l ∈ d.S, l ≠ []

set_option maxRecDepth 100000 in
theorem Shape.at {n : Nat} {d : D} (h : Shape n d) {k : Nat} (hk : k < n) : d.at k ≠ [] ∧ d.S[k]? = Option.some (d.at k) := by
  have hk' : k < d.S.length := by rw [h.len]; exact hk
  have e : d.S[k]? = Option.some (d.at k) := by
    unfold D.at
    rw [List.getD_eq_getElem?_getD, List.getElem?_eq_getElem hk']; rfl
  exact ⟨h.some _ (List.mem_of_getElem? e), e⟩

set_option maxRecDepth 100000 in
theorem Shape.call {n : Nat} {d : D} (h : Shape n d) : Shape n d.call := ⟨h.len, h.some⟩

set_option maxRecDepth 100000 in
theorem Shape.set {n : Nat} {d : D} (h : Shape n d) {k : Nat} {l : List ByteArray} (hl : l ≠ []) (c a : Nat) (dn : Bool) : Shape n ⟨d.S.set k l, c, a, dn⟩ :=
  ⟨by show (d.S.set k l).length = n; rw [List.length_set]; exact h.len, fun m hm => by
    rcases List.mem_or_eq_of_mem_set hm with hm | hm
    · exact h.some m hm
    · rw [hm]; exact hl⟩

set_option maxRecDepth 100000 in
theorem Shape.flush {n : Nat} {d : D} (h : Shape n d) (c a : Nat) (dn : Bool) : Shape n ⟨d.S.map fun l => [last l], c, a, dn⟩ :=
  ⟨by show (d.S.map _).length = n; rw [List.length_map]; exact h.len, fun m hm => by
    obtain ⟨x, _, rfl⟩ := List.mem_map.1 hm
    simp⟩

set_option maxRecDepth 100000 in
theorem write_done {n : Nat} {d : D} (h : Shape n d) (hd : d.down = false) {k : Nat} (hk : k < n) {s : ByteArray} (hs : s.size ≤ 64) :
    d.write (k : Int) s = if d.call.down = true then (12, d.call) else (0, { d.call with S := d.S.set k (d.at k ++ [fill s]) }) := by
  unfold D.write
  rw [if_neg (by rw [hd]; decide), if_neg (by have := h.len; omega), if_neg (by omega)]
  rfl

set_option maxRecDepth 100000 in
theorem text_size (l : List UInt8) : (text l).size = l.length := by rw [Lib.size_eq]; rfl

set_option maxRecDepth 100000 in
theorem chunk_len (all : List UInt8) (i : Nat) : (chunk all i).length ≤ 64 := by unfold chunk; rw [List.length_take]; omega

set_option maxRecDepth 100000 in
theorem at_write {n : Nat} {d : D} (h : Shape n d) {k : Nat} (hk : k < n) {x : ByteArray} (c a : Nat) (dn : Bool) (i : Nat) : last ((D.mk (d.S.set k (d.at k ++ [x])) c a dn).at i) = if i = k then x else last (d.at i) := by
  rw [at_set (by rw [h.len]; exact hk)]
  by_cases e : i = k
  · rw [if_pos e, if_pos e]; simp [last]
  · rw [if_neg e, if_neg e]; rfl

/-- What a run of writes leaves. -/
structure Ran (n : Nat) (d d' : D) (P : (Nat → ByteArray) → Prop) (lo hi : Nat) (all : List UInt8) (base : Nat) : Prop where
  shape : Shape n d'
  up : d'.down = false
  may : May d' P
  lasts : ∀ k, last (d'.at k) = if base + lo ≤ k ∧ k < base + hi then fill (text (chunk all (k - base))) else last (d.at k)

/-- The disk went down on the way. -/
structure Fell (n : Nat) (d' : D) (P : (Nat → ByteArray) → Prop) : Prop where
  shape : Shape n d'
  down : d'.down = true
  may : May d' P

set_option maxRecDepth 100000 in
theorem writeFrom_kept {n : Nat} {P : (Nat → ByteArray) → Prop} (hof : Of n P) (base : Nat) (all : List UInt8) : ∀ (c i : Nat) (d : D), Shape n d → d.down = false → May d P → base + i + c ≤ n →
    (∀ X k, i ≤ k → k < i + c → P X → P (put X (base + k) (fill (text (chunk all k))))) →
    ((writeFrom base all i c d).1 = 0 ∧ Ran n d (writeFrom base all i c d).2 P i (i + c) all base) ∨ ((writeFrom base all i c d).1 = 12 ∧ Fell n (writeFrom base all i c d).2 P)
  | 0, i, d, hs, hd, hm, _, _ => Or.inl ⟨rfl, hs, hd, hm, fun k => by rw [if_neg (by omega)]; rfl⟩
  | c + 1, i, d, hs, hd, hm, hn, hput => by
    have e := write_done hs hd (k := base + i) (by omega) (s := text (chunk all i)) (by rw [text_size]; exact chunk_len all i)
    unfold writeFrom
    rw [e]
    by_cases hdn : d.call.down = true
    · rw [if_pos hdn, if_neg (show ¬ ((12 : Int) = 0) by decide)]
      exact Or.inr ⟨rfl, hs.call, hdn, hm.same rfl⟩
    · rw [if_neg hdn, if_pos rfl]
      have hdn : d.call.down = false := by simpa using hdn
      have hm1 : May { d.call with S := d.S.set (base + i) (d.at (base + i) ++ [fill (text (chunk all i))]) } P :=
        May.write hm (by rw [hs.len]; exact hof) (by rw [hs.len]; omega) (hs.at (by omega)).1 (fun X hX => hput X i (Nat.le_refl _) (by omega) hX) _ _ _
      have hs1 : Shape n { d.call with S := d.S.set (base + i) (d.at (base + i) ++ [fill (text (chunk all i))]) } := hs.set (by simp) _ _ _
      rcases writeFrom_kept hof base all c (i + 1) _ hs1 hdn hm1 (by omega) (fun X k h1 h2 h3 => hput X k (by omega) (by omega) h3) with ⟨r1, r2⟩ | r
      · refine Or.inl ⟨r1, r2.shape, r2.up, r2.may, fun k => ?_⟩
        rw [r2.lasts k, at_write hs (by omega)]
        by_cases e1 : k = base + i
        · subst e1
          rw [if_neg (by omega), if_pos rfl, if_pos (by omega), Nat.add_sub_cancel_left]
        · rw [if_neg e1]
          by_cases e2 : base + (i + 1) ≤ k ∧ k < base + (i + 1 + c)
          · rw [if_pos e2, if_pos (by omega)]
          · rw [if_neg e2, if_neg (by omega)]
      · exact Or.inr r

set_option maxRecDepth 100000 in
theorem flush_kept {n : Nat} {P : (Nat → ByteArray) → Prop} {d : D} (hs : Shape n d) (hd : d.down = false) (hm : May d P) :
    (d.flush.1 = 0 ∧ Shape n d.flush.2 ∧ d.flush.2.down = false ∧ May d.flush.2 (fun X => P X ∧ ∀ k, k < n → X k = last (d.at k))) ∨ (d.flush.1 = 12 ∧ Fell n d.flush.2 P) := by
  unfold D.flush
  rw [if_neg (by rw [hd]; decide)]
  by_cases hdn : d.call.down = true
  · rw [if_pos hdn]
    exact Or.inr ⟨rfl, hs.call, hdn, hm.same rfl⟩
  · rw [if_neg hdn]
    refine Or.inl ⟨rfl, hs.flush _ _ _, by simpa using hdn, ?_⟩
    have := May.flush hm hs.some d.call.calls d.call.armed d.call.down
    rw [hs.len] at this
    exact this

/-! ### A settled journal -/

def Holds (X : Nat → ByteArray) (base : Nat) (bs : List UInt8) : Prop := ∀ j, j < bs.length → (X (base + j / 64)).data.toList[j % 64]? = bs[j]?

/-- The sectors are those of a journal in this state. -/
structure Settled (n h : Nat) (j : J) (X : Nat → ByteArray) : Prop where
  here : headAt h (X (j.seq % 2)).data.toList = some (j.seq, j.half, j.bytes.length)
  other : ∀ a, headAt h (X ((j.seq + 1) % 2)).data.toList = some a → a.1 < j.seq
  held : Holds X (2 + j.half * h) j.bytes
  full : ∀ k, k < n → (X k).data.toList.length = 64
  stands : X (j.seq % 2) = fill (text (head j.seq j.half j.bytes.length))

set_option maxRecDepth 100000 in
theorem half_base {half h : Nat} (hh : half ≤ 1) : half * h ≤ h := by
  have := Nat.mul_le_mul_right h hh
  omega

set_option maxRecDepth 100000 in
theorem holds_of {n base : Nat} {bs : List UInt8} (hb : base + (bs.length + 63) / 64 ≤ n) : Of n (fun X => Holds X base bs) := fun X Y e hX j hj => by
  rw [← e _ (by omega)]
  exact hX j hj

set_option maxRecDepth 100000 in
theorem settled_of {n h : Nat} {j : J} (hh : j.half ≤ 1) (hn : 2 + 2 * h ≤ n) (hb : j.bytes.length ≤ 64 * h) : Of n (Settled n h j) := fun X Y e hX => by
  have hh2 := half_base (h := h) hh
  have h2 : ∀ k, k < n → Y k = X k := fun k hk => (e k hk).symm
  refine ⟨by rw [h2 _ (by omega)]; exact hX.here, fun a ha => hX.other a (by rw [← h2 _ (by omega)]; exact ha), holds_of (n := n) (by omega) X Y e hX.held, fun k hk => by rw [h2 k hk]; exact hX.full k hk, by rw [h2 _ (by omega)]; exact hX.stands⟩

set_option maxRecDepth 100000 in
theorem fill_list (l : List UInt8) : (fill (text l)).data.toList = l ++ List.replicate (64 - l.length) 0 := by
  unfold fill
  rw [text_size]
  simp [text]

set_option maxRecDepth 100000 in
theorem chunk_at (all : List UInt8) (i m : Nat) (hm : m < 64) (h : 64 * i + m < all.length) : (fill (text (chunk all i))).data.toList[m]? = all[64 * i + m]? := by
  have hl : m < (chunk all i).length := by unfold chunk; rw [List.length_take, List.length_drop]; omega
  rw [fill_list, List.getElem?_append_left hl]
  unfold chunk
  rw [List.getElem?_take, if_pos hm, List.getElem?_drop]

set_option maxRecDepth 100000 in
theorem fill_full (l : List UInt8) (h : l.length ≤ 64) : (fill (text l)).data.toList.length = 64 := by
  rw [fill_list, List.length_append, List.length_replicate]; omega

set_option maxRecDepth 100000 in
theorem put_full {n : Nat} {X : Nat → ByteArray} (h : ∀ k, k < n → (X k).data.toList.length = 64) (i : Nat) (l : List UInt8) (hl : l.length ≤ 64) : ∀ k, k < n → (put X i (fill (text l)) k).data.toList.length = 64 := fun k hk => by
  by_cases e : k = i
  · subst e; rw [put_self]; exact fill_full l hl
  · rw [put_ne _ _ e]; exact h k hk

set_option maxRecDepth 100000 in
/-- A sector of a half is written: what is used stays. -/
theorem settled_put {n h : Nat} {j : J} {X : Nat → ByteArray} (hX : Settled n h j X) (hh : j.half ≤ 1) (hb : j.bytes.length ≤ 64 * h) {half i : Nat} (hhalf : half ≤ 1) (hi : i < h) (all : List UInt8)
    (hall : half = j.half → ∃ new, all = j.bytes ++ new) : Settled n h j (put X (2 + half * h + i) (fill (text (chunk all i)))) := by
  refine ⟨?_, fun a ha => ?_, fun m hm => ?_, put_full hX.full _ _ (chunk_len _ _), by rw [put_ne _ _ (by omega)]; exact hX.stands⟩
  · rw [put_ne _ _ (by omega)]; exact hX.here
  · rw [put_ne _ _ (by omega)] at ha; exact hX.other a ha
  · by_cases e : 2 + j.half * h + m / 64 = 2 + half * h + i
    · have eh : half = j.half := by
        have h1 : m / 64 < h := by omega
        match half, j.half, hhalf, hh, e with
        | 0, 0, _, _, _ => rfl
        | 1, 1, _, _, _ => rfl
        | 0, 1, _, _, e => omega
        | 1, 0, _, _, e => omega
      obtain ⟨new, rfl⟩ := hall eh
      have ei : m / 64 = i := by rw [eh] at e; omega
      rw [e, put_self, chunk_at _ i (m % 64) (by omega) (by rw [List.length_append]; omega), show 64 * i + m % 64 = m by omega, List.getElem?_append_left hm]
    · rw [put_ne _ _ e]
      exact hX.held m hm

set_option maxRecDepth 100000 in
/-- A head is set behind a flush: what stood there before, or what stands there now. -/
theorem setHead_kept {n h : Nat} {j : J} {half : Nat} {all : List UInt8} {d : D} (hs : Shape n d) (hd : d.down = false) (hhalf : half ≤ 1) (ha : all.length ≤ 64 * h) (hn : 2 + 2 * h ≤ n) (hn2 : n ≤ 4096)
    (hseq : j.seq + 1 < 9223372036854775808) (hm : May d (fun X => Settled n h j X ∧ Holds X (2 + half * h) all)) :
    ((setHead (j.seq + 1) half all.length d).1 = 0 ∧ Shape n (setHead (j.seq + 1) half all.length d).2 ∧ (setHead (j.seq + 1) half all.length d).2.down = false ∧ May (setHead (j.seq + 1) half all.length d).2 (Settled n h ⟨j.seq + 1, half, all, false⟩)) ∨
    ((setHead (j.seq + 1) half all.length d).1 = 12 ∧ Fell n (setHead (j.seq + 1) half all.length d).2 (fun X => Settled n h j X ∨ Settled n h ⟨j.seq + 1, half, all, false⟩ X)) := by
  have hx : (text (head (j.seq + 1) half all.length)).size ≤ 64 := by rw [text_size]; have := head_len (j.seq + 1) half all.length; omega
  have e := write_done hs hd (k := (j.seq + 1) % 2) (by omega) hx
  have hhead : headAt h (fill (text (head (j.seq + 1) half all.length))).data.toList = some (j.seq + 1, half, all.length) := by
    rw [fill_list]
    exact headAt_head h _ _ _ _ hseq hhalf ha (by omega)
  unfold setHead andThen
  rw [e]
  by_cases hdn : d.call.down = true
  · rw [if_pos hdn, if_neg (show ¬ ((12 : Int) = 0) by decide)]
    exact Or.inr ⟨rfl, hs.call, hdn, (hm.same (d' := d.call) rfl).mono fun X hX => Or.inl hX.1⟩
  · rw [if_neg hdn, if_pos rfl]
    have hdn : d.call.down = false := by simpa using hdn
    have hh2 := half_base (h := h) hhalf
    have hnew : ∀ X, (Settled n h j X ∧ Holds X (2 + half * h) all) → Settled n h ⟨j.seq + 1, half, all, false⟩ (put X ((j.seq + 1) % 2) (fill (text (head (j.seq + 1) half all.length)))) := fun X hX => by
      refine ⟨by rw [put_self]; exact hhead, fun a ha2 => ?_, fun m hm2 => ?_, put_full hX.1.full _ _ (by have := head_len (j.seq + 1) half all.length; omega), put_self _ _ _⟩
      · have e2 : (j.seq + 1 + 1) % 2 = j.seq % 2 := by omega
        have ha2 : headAt h (put X ((j.seq + 1) % 2) (fill (text (head (j.seq + 1) half all.length))) ((j.seq + 1 + 1) % 2)).data.toList = some a := ha2
        rw [put_ne _ _ (by omega), e2, hX.1.here] at ha2
        injection ha2 with ha2
        rw [← ha2]
        exact Nat.lt_succ_self _
      · exact (congrArg (fun b : ByteArray => b.data.toList[m % 64]?) (put_ne X _ (show 2 + half * h + m / 64 ≠ (j.seq + 1) % 2 by omega))).trans (hX.2 m hm2)
    have hof : Of n (Settled n h ⟨j.seq + 1, half, all, false⟩) := settled_of hhalf hn ha
    have hm1 := May.either hm (Q := Settled n h ⟨j.seq + 1, half, all, false⟩) (by rw [hs.len]; exact hof) (by rw [hs.len]; omega) (hs.at (k := (j.seq + 1) % 2) (by omega)).1 hnew d.call.calls d.call.armed d.call.down
    have hs1 : Shape n { d.call with S := d.S.set ((j.seq + 1) % 2) (d.at ((j.seq + 1) % 2) ++ [fill (text (head (j.seq + 1) half all.length))]) } := hs.set (by simp) _ _ _
    have hl := at_write hs (k := (j.seq + 1) % 2) (by omega) (x := fill (text (head (j.seq + 1) half all.length))) d.call.calls d.call.armed d.call.down ((j.seq + 1) % 2)
    rw [if_pos rfl] at hl
    rcases flush_kept hs1 hdn hm1 with ⟨r1, r2, r3, r4⟩ | ⟨r1, r2⟩
    · refine Or.inl ⟨r1, r2, r3, r4.mono fun X hX => ?_⟩
      rcases hX.1 with hX1 | hX1
      · exfalso
        have e2 := hX.2 ((j.seq + 1) % 2) (by omega)
        have := hX1.1.other (j.seq + 1, half, all.length) (by rw [e2]; exact (congrArg (fun b : ByteArray => headAt h b.data.toList) hl).trans hhead)
        have : j.seq + 1 < j.seq := this
        omega
      · exact hX1
    · exact Or.inr ⟨r1, r2.shape, r2.down, r2.may.mono fun X hX => hX.imp (fun h => h.1) id⟩

set_option maxRecDepth 100000 in
/-- **All of a call is kept, or nothing.** -/
theorem commit_kept {n h : Nat} {j : J} {half : Nat} {pre new : List UInt8} {d : D} (hs : Shape n d) (hd : d.down = false) (hh : j.half ≤ 1) (hb : j.bytes.length ≤ 64 * h) (hhalf : half ≤ 1) (ha : (pre ++ new).length ≤ 64 * h) (hn : 2 + 2 * h ≤ n) (hn2 : n ≤ 4096)
    (hseq : j.seq + 1 < 9223372036854775808) (hpre : (half = j.half ∧ pre = j.bytes) ∨ (half ≠ j.half ∧ pre = [])) (hm : May d (Settled n h j)) :
    ((commit h j.seq half pre new d).1 = 0 ∧ Shape n (commit h j.seq half pre new d).2 ∧ (commit h j.seq half pre new d).2.down = false ∧ May (commit h j.seq half pre new d).2 (Settled n h ⟨j.seq + 1, half, pre ++ new, false⟩)) ∨
    ((commit h j.seq half pre new d).1 = 12 ∧ Fell n (commit h j.seq half pre new d).2 (fun X => Settled n h j X ∨ Settled n h ⟨j.seq + 1, half, pre ++ new, false⟩ X)) := by
  have hh2 := half_base (h := h) hhalf
  have hof := settled_of (n := n) (h := h) (j := j) hh hn hb
  have hcnt : pre.length / 64 + (((pre ++ new).length + 63) / 64 - pre.length / 64) ≤ h := by rw [List.length_append] at ha ⊢; omega
  have hw := writeFrom_kept hof (2 + half * h) (pre ++ new) (((pre ++ new).length + 63) / 64 - pre.length / 64) (pre.length / 64) d hs hd hm (by omega)
    (fun X k h1 h2 h3 => settled_put h3 hh hb hhalf (by omega) (pre ++ new) (fun e => by
      rcases hpre with ⟨_, e2⟩ | ⟨e2, _⟩
      · exact ⟨new, by rw [e2]⟩
      · exact absurd e e2))
  unfold commit
  rcases hw with ⟨w1, w2⟩ | ⟨w1, w2⟩
  · rw [show andThen (writeFrom (2 + half * h) (pre ++ new) (pre.length / 64) (((pre ++ new).length + 63) / 64 - pre.length / 64) d) D.flush = (writeFrom (2 + half * h) (pre ++ new) (pre.length / 64) (((pre ++ new).length + 63) / 64 - pre.length / 64) d).2.flush from if_pos w1]
    rcases flush_kept w2.shape w2.up w2.may with ⟨f1, f2, f3, f4⟩ | ⟨f1, f2⟩
    · rw [show andThen ((writeFrom (2 + half * h) (pre ++ new) (pre.length / 64) (((pre ++ new).length + 63) / 64 - pre.length / 64) d).2.flush) (setHead (j.seq + 1) half (pre ++ new).length) = setHead (j.seq + 1) half (pre ++ new).length (writeFrom (2 + half * h) (pre ++ new) (pre.length / 64) (((pre ++ new).length + 63) / 64 - pre.length / 64) d).2.flush.2 from if_pos f1]
      refine setHead_kept f2 f3 hhalf ha hn hn2 hseq (f4.mono fun X hX => ⟨hX.1, fun m hm2 => ?_⟩)
      have hl := w2.lasts (2 + half * h + m / 64)
      have hx := hX.2 (2 + half * h + m / 64) (by rw [List.length_append] at ha hm2; omega)
      by_cases e : pre.length / 64 ≤ m / 64
      · rw [if_pos (by rw [List.length_append] at hm2 ⊢; omega)] at hl
        rw [hx, hl, Nat.add_sub_cancel_left, chunk_at _ (m / 64) (m % 64) (by omega) (by omega), show 64 * (m / 64) + m % 64 = m by omega]
      · have hmp : m < pre.length := by omega
        rcases hpre with ⟨e1, e2⟩ | ⟨_, e2⟩
        · subst e1 e2
          rw [List.getElem?_append_left hmp]
          exact hX.1.held m hmp
        · rw [e2] at hmp; cases hmp
    · rw [show andThen ((writeFrom (2 + half * h) (pre ++ new) (pre.length / 64) (((pre ++ new).length + 63) / 64 - pre.length / 64) d).2.flush) (setHead (j.seq + 1) half (pre ++ new).length) = (writeFrom (2 + half * h) (pre ++ new) (pre.length / 64) (((pre ++ new).length + 63) / 64 - pre.length / 64) d).2.flush from if_neg (by rw [f1]; decide)]
      exact Or.inr ⟨f1, f2.shape, f2.down, f2.may.mono fun X hX => Or.inl hX⟩
  · rw [show andThen (writeFrom (2 + half * h) (pre ++ new) (pre.length / 64) (((pre ++ new).length + 63) / 64 - pre.length / 64) d) D.flush = writeFrom (2 + half * h) (pre ++ new) (pre.length / 64) (((pre ++ new).length + 63) / 64 - pre.length / 64) d from if_neg (by rw [w1]; decide)]
    rw [show andThen (writeFrom (2 + half * h) (pre ++ new) (pre.length / 64) (((pre ++ new).length + 63) / 64 - pre.length / 64) d) (setHead (j.seq + 1) half (pre ++ new).length) = writeFrom (2 + half * h) (pre ++ new) (pre.length / 64) (((pre ++ new).length + 63) / 64 - pre.length / 64) d from if_neg (by rw [w1]; decide)]
    exact Or.inr ⟨w1, w2.shape, w2.down, w2.may.mono fun X hX => Or.inl hX⟩

/-! ### Opened -/

set_option maxRecDepth 100000 in
theorem settled_cur {n h : Nat} {j : J} {X : Nat → ByteArray} (hX : Settled n h j X) : cur h (X 0).data.toList (X 1).data.toList = some (j.seq, j.half, j.bytes.length) := by
  have h1 := hX.here
  have h2 := hX.other
  have e : j.seq % 2 = 0 ∧ (j.seq + 1) % 2 = 1 ∨ j.seq % 2 = 1 ∧ (j.seq + 1) % 2 = 0 := by omega
  unfold cur
  rcases e with ⟨e1, e2⟩ | ⟨e1, e2⟩
  · rw [e1] at h1
    rw [e2] at h2
    rw [h1]
    cases hb : headAt h (X 1).data.toList with
    | none => rfl
    | some b =>
      have : b.1 < j.seq := h2 b hb
      simp only []
      rw [if_pos (by omega)]
  · rw [e1] at h1
    rw [e2] at h2
    rw [h1]
    cases hb : headAt h (X 0).data.toList with
    | none => rfl
    | some b =>
      have : b.1 < j.seq := h2 b hb
      simp only []
      rw [if_neg (by omega)]

/-- The bytes of sectors that stand one behind the other. -/
def halfB (X : Nat → ByteArray) (base : Nat) : Nat → List UInt8
  | 0 => []
  | h + 1 => halfB X base h ++ (X (base + h)).data.toList

set_option maxRecDepth 100000 in
theorem halfB_at (X : Nat → ByteArray) (base : Nat) : ∀ h, (∀ i, i < h → (X (base + i)).data.toList.length = 64) → (halfB X base h).length = 64 * h ∧ ∀ j, j < 64 * h → (halfB X base h)[j]? = (X (base + j / 64)).data.toList[j % 64]?
  | 0, _ => ⟨rfl, fun j hj => by omega⟩
  | h + 1, hf => by
    obtain ⟨h1, h2⟩ := halfB_at X base h (fun i hi => hf i (by omega))
    have h3 := hf h (by omega)
    refine ⟨by show (halfB X base h ++ (X (base + h)).data.toList).length = 64 * (h + 1); rw [List.length_append, h1, h3]; omega, fun j hj => ?_⟩
    show (halfB X base h ++ (X (base + h)).data.toList)[j]? = _
    by_cases e : j < 64 * h
    · rw [List.getElem?_append_left (by omega)]
      exact h2 j e
    · rw [List.getElem?_append_right (by omega), h1, show j / 64 = h by omega, show j - 64 * h = j % 64 by omega]

set_option maxRecDepth 100000 in
theorem holds_take {X : Nat → ByteArray} {base h : Nat} {bs : List UInt8} (hX : Holds X base bs) (hb : bs.length ≤ 64 * h) (hf : ∀ i, i < h → (X (base + i)).data.toList.length = 64) : (halfB X base h).take bs.length = bs := by
  obtain ⟨h1, h2⟩ := halfB_at X base h hf
  apply List.ext_getElem?
  intro j
  rw [List.getElem?_take]
  by_cases e : j < bs.length
  · rw [if_pos e, h2 j (by omega)]
    exact hX j e
  · rw [if_neg e, List.getElem?_eq_none (by omega)]

/-- What Open answers, of a disk that is not down: an error, a journal, its records. -/
def opens (n : Nat) (X : Nat → ByteArray) : Int × Option J × List (List UInt8) :=
  match cur ((n - 2) / 2) (X 0).data.toList (X 1).data.toList with
  | none => (8, none, [])
  | some (seq, half, used) =>
    if (Frm.read ((halfB X (2 + half * ((n - 2) / 2)) ((n - 2) / 2)).take used)).2 = 0 then
      (0, some ⟨seq, half, (halfB X (2 + half * ((n - 2) / 2)) ((n - 2) / 2)).take used, false⟩, (Frm.read ((halfB X (2 + half * ((n - 2) / 2)) ((n - 2) / 2)).take used)).1)
    else ((Frm.read ((halfB X (2 + half * ((n - 2) / 2)) ((n - 2) / 2)).take used)).2, none, [])

set_option maxRecDepth 100000 in
theorem opens_settled {n : Nat} {j : J} {X : Nat → ByteArray} {l : List (List UInt8)} (hX : Settled n ((n - 2) / 2) j X) (hn : 4 ≤ n) (hh : j.half ≤ 1) (hb : j.bytes.length ≤ 64 * ((n - 2) / 2)) (hj : j.broken = false) (hl : j.bytes = Frm.all l) (hs : ∀ t ∈ l, t.length < 9223372036854775808) :
    opens n X = (0, some j, l) := by
  have hh2 := half_base (h := (n - 2) / 2) hh
  have e := holds_take hX.held hb (fun i hi => hX.full _ (by omega))
  unfold opens
  rw [settled_cur hX]
  simp only []
  rw [e, hl, Frm.read_all l hs]
  simp only [if_true]
  rw [← hl]
  obtain ⟨a, b, c, d⟩ := j
  simp only at hj
  rw [hj]
end Go.Proofs.YtbfjageaheijbaaGreat.Jnl
