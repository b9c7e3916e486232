/- The disk of the document, as plain data: sectors, each the list of all that it may have (what is safe first), calls, for which call it is armed, whether it is down. No program is spoken of. -/
namespace Go.Proofs.Ytdagdmfockibfaa.Dsk

/-- A text, filled up with 0. -/
def fill (s : ByteArray) : ByteArray := ⟨s.data ++ Array.replicate (64 - s.size) 0⟩

structure D where
  S : List (List ByteArray)
  calls : Nat
  armed : Nat
  down : Bool

def last (l : List ByteArray) : ByteArray := l.getLastD ⟨#[]⟩

def new (n : Nat) : D := ⟨List.replicate n [fill ⟨#[]⟩], 0, 0, false⟩

def D.call (d : D) : D := ⟨d.S, d.calls + 1, d.armed - 1, d.down || d.armed == 1⟩

def D.at (d : D) (k : Nat) : List ByteArray := d.S.getD k []

/-- Write's answer, and the disk behind it. -/
def D.write (d : D) (i : Int) (s : ByteArray) : Int × D :=
  if d.down = true then (12, d) else if i < 0 ∨ (d.S.length : Int) ≤ i then (3, d) else if 64 < s.size then (4, d)
  else if d.call.down = true then (12, d.call) else (0, { d.call with S := d.S.set i.toNat (d.at i.toNat ++ [fill s]) })

def D.flush (d : D) : Int × D :=
  if d.down = true then (12, d) else if d.call.down = true then (12, d.call) else (0, { d.call with S := d.S.map fun l => [last l] })

/-- Read's answer. -/
def D.read (d : D) (i : Int) : ByteArray × Int :=
  if d.down = true then (⟨#[]⟩, 12) else if i < 0 ∨ (d.S.length : Int) ≤ i then (⟨#[]⟩, 3) else (last (d.at i.toNat), 0)

def D.arm (d : D) (n : Int) : D := { d with armed := n.toNat }

/-- Those of the sectors from the k-th one on that have pending ones. -/
def dirtyFrom : Nat → List (List ByteArray) → List Nat
  | _, [] => []
  | k, l :: r => if 1 < l.length then k :: dirtyFrom (k + 1) r else dirtyFrom (k + 1) r

def D.dirty (d : D) : List Nat := dirtyFrom 0 d.S

/-- What a sector has behind a crash. -/
def pick (l : List ByteArray) (k : Int) : ByteArray := l.getD (k.tmod (l.length : Int)).natAbs ⟨#[]⟩

def crashOn (ks : List Int) : List Nat → Nat → List (List ByteArray) → List (List ByteArray)
  | [], _, S => S
  | a :: r, i, S => crashOn ks r (i + 1) (S.set a [pick (S.getD a []) (ks.getD i 0)])

def D.crash (d : D) (ks : List Int) : D := ⟨crashOn ks d.dirty 0 d.S, d.calls, 0, false⟩

/-- A disk of at most N calls. -/
structure D.Fine (d : D) (N : Nat) : Prop where
  len : d.S.length ≤ 4096
  each : ∀ l ∈ d.S, 1 ≤ l.length ∧ l.length ≤ N + 1
  calls : d.calls ≤ N
  armed : d.armed < 9223372036854775808

theorem D.Fine.at {d : D} {N : Nat} (h : d.Fine N) {k : Nat} (hk : k < d.S.length) : d.S[k]? = some (d.at k) ∧ 1 ≤ (d.at k).length ∧ (d.at k).length ≤ N + 1 := by
  have e : d.S[k]? = some (d.at k) := by
    unfold D.at
    rw [List.getD_eq_getElem?_getD, List.getElem?_eq_getElem hk]; rfl
  exact ⟨e, h.each _ (List.mem_of_getElem? e)⟩

theorem dirtyFrom_append (l r : List (List ByteArray)) : ∀ k, dirtyFrom k (l ++ r) = dirtyFrom k l ++ dirtyFrom (k + l.length) r := by
  induction l with
  | nil => intro k; rfl
  | cons x l ih =>
    intro k
    simp only [List.cons_append, dirtyFrom]
    have e : k + (x :: l).length = k + 1 + l.length := by rw [List.length_cons]; omega
    rw [ih, e]
    split <;> simp

theorem dirty_take {S : List (List ByteArray)} {k : Nat} {l : List ByteArray} (h : S[k]? = some l) : dirtyFrom 0 (S.take (k + 1)) = dirtyFrom 0 (S.take k) ++ if 1 < l.length then [k] else [] := by
  obtain ⟨hl, he⟩ := List.getElem?_eq_some_iff.1 h
  rw [List.take_succ_eq_append_getElem hl, he, dirtyFrom_append, List.length_take, Nat.min_eq_left (by omega), Nat.zero_add]
  rfl

theorem dirtyFrom_len (S : List (List ByteArray)) : ∀ k, (dirtyFrom k S).length ≤ S.length := by
  induction S with
  | nil => intro k; exact Nat.le_refl _
  | cons x S ih =>
    intro k
    unfold dirtyFrom
    have := ih (k + 1)
    split <;> simp <;> omega

theorem dirtyFrom_mem (S : List (List ByteArray)) : ∀ k a, a ∈ dirtyFrom k S → k ≤ a ∧ ∃ l, S[a - k]? = some l ∧ 1 < l.length := by
  induction S with
  | nil => intro k a h; simp [dirtyFrom] at h
  | cons x S ih =>
    intro k a h
    unfold dirtyFrom at h
    have step : a ∈ dirtyFrom (k + 1) S → k ≤ a ∧ ∃ l, (x :: S)[a - k]? = some l ∧ 1 < l.length := fun h => by
      obtain ⟨h1, l, h2, h3⟩ := ih (k + 1) a h
      refine ⟨by omega, l, ?_, h3⟩
      have e : a - k = (a - (k + 1)) + 1 := by omega
      rw [e, List.getElem?_cons_succ]
      exact h2
    split at h
    · rcases List.mem_cons.1 h with h | h
      · subst h
        exact ⟨Nat.le_refl _, x, by simp, by assumption⟩
      · exact step h
    · exact step h

theorem crashOn_snoc (ks : List Int) (a : Nat) : ∀ (L : List Nat) (i : Nat) (S : List (List ByteArray)),
    crashOn ks (L ++ [a]) i S = (crashOn ks L i S).set a [pick ((crashOn ks L i S).getD a []) (ks.getD (i + L.length) 0)]
  | [], i, S => rfl
  | b :: L, i, S => by
    show crashOn ks (L ++ [a]) (i + 1) _ = _
    rw [crashOn_snoc ks a L (i + 1) _, show i + 1 + L.length = i + (b :: L).length from by rw [List.length_cons]; omega]
    rfl

theorem crashOn_len (ks : List Int) : ∀ (L : List Nat) (i : Nat) (S : List (List ByteArray)), (crashOn ks L i S).length = S.length
  | [], _, _ => rfl
  | a :: L, i, S => by
    show (crashOn ks L (i + 1) _).length = _
    rw [crashOn_len ks L (i + 1) _, List.length_set]

theorem crashOn_each (ks : List Int) (N : Nat) : ∀ (L : List Nat) (i : Nat) (S : List (List ByteArray)), (∀ l ∈ S, 1 ≤ l.length ∧ l.length ≤ N + 1) → ∀ l ∈ crashOn ks L i S, 1 ≤ l.length ∧ l.length ≤ N + 1
  | [], _, _, h => h
  | a :: L, i, S, h => by
    refine crashOn_each ks N L (i + 1) _ (fun l hl => ?_)
    rcases List.mem_or_eq_of_mem_set hl with hl | hl
    · exact h l hl
    · subst hl
      simp

theorem new_fine (n : Nat) (h : n ≤ 4096) : (new n).Fine 0 where
  len := by show (List.replicate n _).length ≤ 4096; rw [List.length_replicate]; exact h
  each := fun l hl => by
    have := List.eq_of_mem_replicate hl
    subst this
    exact ⟨Nat.le_refl _, Nat.le_refl _⟩
  calls := Nat.le_refl _
  armed := by show (0 : Nat) < _; decide

theorem D.Fine.mono {d : D} {N M : Nat} (h : d.Fine N) (hM : N ≤ M) : d.Fine M := ⟨h.len, fun l hl => by have := h.each l hl; omega, by have := h.calls; omega, h.armed⟩

theorem D.Fine.call {d : D} {N : Nat} (h : d.Fine N) : d.call.Fine (N + 1) where
  len := h.len
  each := fun l hl => by have := h.each l hl; omega
  calls := by show d.calls + 1 ≤ N + 1; have := h.calls; omega
  armed := by show d.armed - 1 < _; have := h.armed; omega

theorem D.Fine.write {d : D} {N : Nat} (h : d.Fine N) (i : Int) (s : ByteArray) : (d.write i s).2.Fine (N + 1) := by
  unfold D.write
  split
  · exact h.mono (by omega)
  · split
    · exact h.mono (by omega)
    · split
      · exact h.mono (by omega)
      · split
        · exact h.call
        · rename_i hi _ _
          have hk : i.toNat < d.S.length := by omega
          refine ⟨?_, fun l hl => ?_, h.call.calls, h.call.armed⟩
          · show (d.S.set _ _).length ≤ 4096
            rw [List.length_set]; exact h.len
          · rcases List.mem_or_eq_of_mem_set hl with hl | hl
            · have := h.each l hl; omega
            · have := (h.at hk).2
              subst hl
              rw [List.length_append]
              simp
              omega

theorem D.Fine.flush {d : D} {N : Nat} (h : d.Fine N) : d.flush.2.Fine (N + 1) := by
  unfold D.flush
  split
  · exact h.mono (by omega)
  · split
    · exact h.call
    · refine ⟨?_, fun l hl => ?_, h.call.calls, h.call.armed⟩
      · show (d.S.map _).length ≤ 4096
        rw [List.length_map]; exact h.len
      · obtain ⟨l', _, rfl⟩ := List.mem_map.1 hl
        simp

theorem D.Fine.arm {d : D} {N : Nat} (h : d.Fine N) (n : Int) (hn : n ≤ 9223372036854775807) : (d.arm n).Fine N := ⟨h.len, h.each, h.calls, by show n.toNat < _; omega⟩

theorem D.Fine.crash {d : D} {N : Nat} (h : d.Fine N) (ks : List Int) : (d.crash ks).Fine N := by
  refine ⟨?_, ?_, h.calls, by show (0 : Nat) < _; decide⟩
  · show (crashOn _ _ _ _).length ≤ 4096
    rw [crashOn_len]; exact h.len
  · exact crashOn_each ks N _ _ _ h.each

theorem write_len (d : D) (i : Int) (s : ByteArray) : (d.write i s).2.S.length = d.S.length := by
  unfold D.write
  repeat' split
  all_goals first | rfl | exact List.length_set

theorem flush_len (d : D) : d.flush.2.S.length = d.S.length := by
  unfold D.flush
  repeat' split
  all_goals first | rfl | exact List.length_map _

theorem crash_len (d : D) (ks : List Int) : (d.crash ks).S.length = d.S.length := crashOn_len _ _ _ _

theorem fill_size (s : ByteArray) (h : s.size ≤ 64) : (fill s).size = 64 := by
  show (s.data ++ Array.replicate (64 - s.size) 0).size = 64
  rw [Array.size_append, Array.size_replicate]
  have : s.data.size = s.size := rfl
  omega
end Go.Proofs.Ytdagdmfockibfaa.Dsk
