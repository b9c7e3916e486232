/- What was flushed is there behind a crash, as plain data. No program is spoken of. -/
import Derived.Test.YtdagdmfockibfaaDiskMath
namespace Go.Proofs.Ytdagdmfockibfaa.Dsk

theorem pick_mem {l : List ByteArray} (h : 0 < l.length) (k : Int) : pick l k ∈ l := by
  unfold pick
  have hm := Int.tmod_lt_of_pos k (b := (l.length : Int)) (by omega)
  have hm2 := Int.lt_tmod_of_pos k (b := (l.length : Int)) (by omega)
  have hlt : (k.tmod (l.length : Int)).natAbs < l.length := by omega
  rw [List.getD_eq_getElem?_getD, List.getElem?_eq_getElem hlt]
  exact List.getElem_mem hlt

/-- A crash leaves each sector some of what it had. -/
theorem crashOn_sub (ks : List Int) (k : Nat) (l : List ByteArray) : ∀ (L : List Nat) (i : Nat) (S : List (List ByteArray)), (∃ m, S[k]? = some m ∧ m ≠ [] ∧ (∀ y ∈ m, y ∈ l)) →
    ∃ m, (crashOn ks L i S)[k]? = some m ∧ m ≠ [] ∧ (∀ y ∈ m, y ∈ l)
  | [], _, _, h => h
  | a :: L, i, S, h => by
    refine crashOn_sub ks k l L (i + 1) _ ?_
    obtain ⟨m, h1, h2, h3⟩ := h
    by_cases e : a = k
    · subst e
      have hk := (List.getElem?_eq_some_iff.1 h1).1
      refine ⟨_, List.getElem?_set_self hk, by simp, fun y hy => ?_⟩
      rw [List.mem_singleton] at hy
      subst hy
      have e2 : S.getD a [] = m := by rw [List.getD_eq_getElem?_getD, h1]; rfl
      rw [e2]
      exact h3 _ (pick_mem (List.length_pos_iff.2 h2) _)
    · exact ⟨m, by rw [List.getElem?_set_ne e]; exact h1, h2, h3⟩

theorem crashOn_one (ks : List Int) (k : Nat) : ∀ (L : List Nat) (i : Nat) (S : List (List ByteArray)), (k ∈ L ∨ ∃ m, S[k]? = some m ∧ m.length ≤ 1) → k < S.length → ∃ m, (crashOn ks L i S)[k]? = some m ∧ m.length ≤ 1
  | [], _, _, h, _ => by
    rcases h with h | h
    · cases h
    · exact h
  | a :: L, i, S, h, hk => by
    refine crashOn_one ks k L (i + 1) _ ?_ (by rw [List.length_set]; exact hk)
    by_cases e : a = k
    · subst e
      exact Or.inr ⟨_, List.getElem?_set_self hk, by simp⟩
    · rcases h with h | ⟨m, h1, h2⟩
      · rcases List.mem_cons.1 h with h | h
        · exact absurd h.symm e
        · exact Or.inl h
      · exact Or.inr ⟨m, by rw [List.getElem?_set_ne e]; exact h1, h2⟩

theorem dirtyFrom_has {S : List (List ByteArray)} : ∀ {j k : Nat} {l : List ByteArray}, S[k]? = some l → 1 < l.length → j + k ∈ dirtyFrom j S := by
  induction S with
  | nil => intro j k l h; simp at h
  | cons x S ih =>
    intro j k l h hl
    unfold dirtyFrom
    cases k with
    | zero =>
      simp at h
      subst h
      rw [if_pos hl]
      simp
    | succ k =>
      have := ih (j := j + 1) (k := k) (by simpa using h) hl
      rw [show j + 1 + k = j + (k + 1) by omega] at this
      split
      · exact List.mem_cons_of_mem _ this
      · exact this

theorem crash_at (d : D) (ks : List Int) {k : Nat} {l : List ByteArray} (h : d.S[k]? = some l) (hl : l ≠ []) : ∃ x ∈ l, (d.crash ks).at k = [x] := by
  have hk := (List.getElem?_eq_some_iff.1 h).1
  obtain ⟨m, h1, h2, h3⟩ := crashOn_sub ks k l d.dirty 0 d.S ⟨l, h, hl, fun _ h => h⟩
  have h4 : k ∈ d.dirty ∨ ∃ m, d.S[k]? = some m ∧ m.length ≤ 1 := by
    by_cases e : 1 < l.length
    · left
      have := dirtyFrom_has (j := 0) h e
      rw [Nat.zero_add] at this
      exact this
    · exact Or.inr ⟨l, h, by omega⟩
  obtain ⟨m', h5, h6⟩ := crashOn_one ks k d.dirty 0 d.S h4 hk
  rw [h1] at h5
  injection h5 with h5
  subst h5
  match m, h2, h6, h3 with
  | [x], _, _, h3 =>
    refine ⟨x, h3 x (by simp), ?_⟩
    show (crashOn ks d.dirty 0 d.S).getD k [] = [x]
    rw [List.getD_eq_getElem?_getD, h1]; rfl

/-- A sector's number and what stands there, as one text. -/
def secKey (k : Nat) (s : ByteArray) : ByteArray := ⟨#[UInt8.ofNat k]⟩ ++ s

/-- What is flushed, what was written since, and where. -/
structure Safe (n : Nat) (d : D) (sf : List ByteArray) (ds : List Bool) (Ks : List ByteArray) : Prop where
  len : d.S.length = n
  down : d.down = false
  armed : d.armed = 0
  sfl : sf.length = 16
  dsl : ds.length = 16
  small : ∀ y ∈ Ks, y.size ≤ 65
  each : ∀ k, k < n → ∃ s0 tl, d.S[k]? = some (s0 :: tl) ∧ sf[k]? = some s0 ∧ (∀ x ∈ tl, secKey k x ∈ Ks) ∧ (ds[k]? = some false → tl = [])

theorem safe_calls {d : D} (h1 : d.down = false) (h2 : d.armed = 0) : d.call.down = false := by
  show (d.down || d.armed == 1) = false
  rw [h1, h2]; rfl

theorem safe_write {n : Nat} {d : D} {sf : List ByteArray} {ds : List Bool} {Ks : List ByteArray} (h : Safe n d sf ds Ks) {k : Nat} (hk : k < n) (hn : n ≤ 16) {s : ByteArray} (hs : s.size ≤ 64) :
    (d.write (k : Int) s).1 = 0 ∧ Safe n (d.write (k : Int) s).2 sf (ds.set k true) (secKey k (fill s) :: Ks) := by
  have e : d.write (k : Int) s = (0, { d.call with S := d.S.set k (d.at k ++ [fill s]) }) := by
    unfold D.write
    rw [if_neg (by rw [h.down]; decide), if_neg (by have := h.len; omega), if_neg (by omega), if_neg (by rw [safe_calls h.down h.armed]; decide)]
    rfl
  rw [e]
  refine ⟨rfl, by show (d.S.set _ _).length = n; rw [List.length_set]; exact h.len, safe_calls h.down h.armed, by show d.armed - 1 = 0; rw [h.armed], h.sfl, by rw [List.length_set]; exact h.dsl, fun y hy => ?_, fun j hj => ?_⟩
  · rcases List.mem_cons.1 hy with hy | hy
    · subst hy
      unfold secKey
      rw [ByteArray.size_append, fill_size s hs]
      exact Nat.le_refl _
    · exact h.small y hy
  obtain ⟨s0, tl, h1, h2, h3, h4⟩ := h.each j hj
  by_cases ej : k = j
  · subst ej
    refine ⟨s0, tl ++ [fill s], ?_, h2, fun x hx => ?_, fun hf => ?_⟩
    · show (d.S.set k _)[k]? = _
      rw [List.getElem?_set_self (by rw [h.len]; exact hk)]
      have : d.at k = s0 :: tl := by
        unfold D.at
        rw [List.getD_eq_getElem?_getD, h1]; rfl
      rw [this]; rfl
    · rcases List.mem_append.1 hx with hx | hx
      · exact List.mem_cons_of_mem _ (h3 x hx)
      · rw [List.mem_singleton] at hx
        subst hx
        exact List.mem_cons_self
    · rw [List.getElem?_set_self (by rw [h.dsl]; omega)] at hf
      cases hf
  · refine ⟨s0, tl, ?_, h2, fun x hx => List.mem_cons_of_mem _ (h3 x hx), fun hf => h4 ?_⟩
    · show (d.S.set k _)[j]? = _
      rw [List.getElem?_set_ne ej]; exact h1
    · rw [List.getElem?_set_ne ej] at hf; exact hf

theorem safe_flush {n : Nat} {d : D} {sf : List ByteArray} {ds : List Bool} {Ks : List ByteArray} (h : Safe n d sf ds Ks) :
    d.flush.1 = 0 ∧ d.flush.2.S.length = n ∧ d.flush.2.down = false ∧ d.flush.2.armed = 0 ∧ ∀ k, k < n → d.flush.2.S[k]? = some [last (d.flush.2.at k)] := by
  have e : d.flush = (0, { d.call with S := d.S.map fun l => [last l] }) := by
    unfold D.flush
    rw [if_neg (by rw [h.down]; decide), if_neg (by rw [safe_calls h.down h.armed]; decide)]
  rw [e]
  refine ⟨rfl, by show (d.S.map _).length = n; rw [List.length_map]; exact h.len, safe_calls h.down h.armed, by show d.armed - 1 = 0; rw [h.armed], fun k hk => ?_⟩
  obtain ⟨s0, tl, h1, _⟩ := h.each k hk
  have e1 : (d.S.map fun l => [last l])[k]? = some [last (s0 :: tl)] := by rw [List.getElem?_map, h1]; rfl
  show (d.S.map fun l => [last l])[k]? = some [last ((d.S.map fun l => [last l]).getD k [])]
  rw [List.getD_eq_getElem?_getD, e1]
  rfl

theorem safe_flushed {n : Nat} {d : D} {sf : List ByteArray} {ds : List Bool} {Ks : List ByteArray} (h1 : d.S.length = n) (h2 : d.down = false) (h3 : d.armed = 0) (h4 : ∀ k, k < n → d.S[k]? = some [last (d.at k)])
    (hs : sf.length = 16) (hd : ds.length = 16) (hK : ∀ y ∈ Ks, y.size ≤ 65) (h5 : ∀ k, k < n → sf[k]? = some (last (d.at k))) : Safe n d sf ds Ks :=
  ⟨h1, h2, h3, hs, hd, hK, fun k hk => ⟨last (d.at k), [], h4 k hk, h5 k hk, (fun x hx => by cases hx), fun _ => rfl⟩⟩

/-- What is read behind a crash. -/
theorem safe_crash {n : Nat} {d : D} {sf : List ByteArray} {ds : List Bool} {Ks : List ByteArray} (h : Safe n d sf ds Ks) (ks : List Int) {k : Nat} (hk : k < n) :
    ∃ s0, sf[k]? = some s0 ∧ (last ((d.crash ks).at k) = s0 ∨ (last ((d.crash ks).at k) ≠ s0 ∧ ds[k]? ≠ some false ∧ secKey k (last ((d.crash ks).at k)) ∈ Ks)) := by
  obtain ⟨s0, tl, h1, h2, h3, h4⟩ := h.each k hk
  obtain ⟨x, hx, e⟩ := crash_at d ks h1 (by simp)
  refine ⟨s0, h2, ?_⟩
  rw [e]
  show x = s0 ∨ (x ≠ s0 ∧ _ ∧ secKey k x ∈ Ks)
  by_cases ex : x = s0
  · exact Or.inl ex
  · have hxt : x ∈ tl := by
      rcases List.mem_cons.1 hx with hx | hx
      · exact absurd hx ex
      · exact hx
    exact Or.inr ⟨ex, (fun hf => by rw [h4 hf] at hxt; cases hxt), h3 x hxt⟩

theorem safe_new {n : Nat} {sf : List ByteArray} (hs : sf.length = 16) (h : ∀ k, k < n → sf[k]? = some (fill ⟨#[]⟩)) : Safe n (new n) sf (List.replicate 16 false) [] :=
  ⟨List.length_replicate, rfl, rfl, hs, List.length_replicate, (fun y hy => by cases hy), fun k hk => ⟨fill ⟨#[]⟩, [], by
    show (List.replicate n [fill ⟨#[]⟩])[k]? = _
    rw [List.getElem?_replicate, if_pos hk], h k hk, (fun x hx => by cases hx), fun _ => rfl⟩⟩
end Go.Proofs.Ytdagdmfockibfaa.Dsk
