/- Words for memory with footprints: what a call may write is a set of blocks; slices that read as lists. No program is spoken of. -/
import Derived.Test.YtajhmgbicliihaaGreatDoorCom1
import Derived.Deep.AppendLies
import Derived.Laws.AppendOwn
import Derived.Lib.Hide
import Derived.OwnWalk
import Derived.Tactics
import Derived.Test.YtajhmgbicliihaaGreatDoorRows
import Derived.WalkKit
import Derived.ProofKit
import Derived.OpenShut
import Derived.ShutString
import Derived.SizedLaws
import Derived.Carry
import Derived.Lib.Strings
namespace Go.Proofs.YtajhmgbicliihaaGreatDoor
open Go.RowKit

/-- Of what was there, only blocks of F may have turned. -/
structure Kept (F : Nat → Prop) (w w' : World) : Prop where
  os : w'.os = w.os
  tape : w'.tape = w.tape
  output : w'.output = w.output
  size : w.heap.size ≤ w'.heap.size
  block : ∀ k, k < w.heap.size → ¬ F k → w'.heap[k]? = w.heap[k]?

/-- A set of blocks, and all that came to be between two worlds. -/
def Grow (F : Nat → Prop) (w w' : World) (k : Nat) : Prop := F k ∨ (w.heap.size ≤ k ∧ k < w'.heap.size)

section
variable {F G : Nat → Prop} {a b c w w' : World}

set_option maxRecDepth 100000 in
theorem Kept.refl (F : Nat → Prop) (w : World) : Kept F w w := ⟨rfl, rfl, rfl, Nat.le_refl _, fun _ _ _ => rfl⟩

set_option maxRecDepth 100000 in
/-- Two steps, the second one of which may write what came to be in the first. -/
theorem Kept.trans (h : Kept F a b) (k : Kept G b c) (hG : ∀ i, i < a.heap.size → G i → F i) : Kept F a c :=
  ⟨k.os.trans h.os, k.tape.trans h.tape, k.output.trans h.output, Nat.le_trans h.size k.size, fun i hi hn => (k.block i (Nat.lt_of_lt_of_le hi h.size) (fun hg => hn (hG i hi hg))).trans (h.block i hi hn)⟩

set_option maxRecDepth 100000 in
theorem Kept.mono (h : Kept F a b) (hF : ∀ i, F i → G i) : Kept G a b := ⟨h.os, h.tape, h.output, h.size, fun i hi hn => h.block i hi (fun hf => hn (hF i hf))⟩

set_option maxRecDepth 100000 in
theorem Kept.ofBelow (h : Below a.heap.size a b) (F : Nat → Prop) : Kept F a b := ⟨h.os, h.tape, h.output, h.size, fun i hi _ => h.block i hi⟩

set_option maxRecDepth 100000 in
theorem Kept.ofGrown {r : Option Nat} (h : a.grownBy b r) (hr : ∀ i, r = some i → F i) : Kept F a b := ⟨h.os, h.tape, h.output, h.size, fun i hi hn => h.block i hi (fun e => hn (hr i e.symm))⟩

set_option maxRecDepth 100000 in
theorem Kept.grown {i : Nat} (h : Kept (fun k => k = i) a b) : a.grownBy b (some i) := ⟨h.os, h.tape, h.output, h.size, fun k hk hn => h.block k hk (fun e => hn (by rw [e]))⟩

set_option maxRecDepth 100000 in
theorem Kept.below (h : Kept F a b) {B : Nat} (hB : B ≤ a.heap.size) (hF : ∀ i, F i → B ≤ i) : Below B a b := ⟨h.os, h.tape, h.output, h.size, fun i hi => h.block i (by omega) (fun hf => by have := hF i hf; omega)⟩

set_option maxRecDepth 100000 in
theorem Kept.drew (h : Kept F a b) : Kept F a b.drew := ⟨h.os, h.tape, h.output, h.size, h.block⟩

set_option maxRecDepth 100000 in
theorem Kept.alloc (h : Kept F a b) (o : Obj) : Kept F a (b.alloc o) :=
  h.trans (G := F) ⟨rfl, rfl, rfl, by simp, fun i hi _ => Below.heap_alloc b o i hi⟩ (fun _ _ h => h)

set_option maxRecDepth 100000 in
theorem Kept.stored (h : Kept F a b) {p : Addr} (hp : F p.block ∨ a.heap.size ≤ p.block) (u : Value) : Kept F a (b.setCell p u) :=
  ⟨h.os, h.tape, h.output, by simpa [World.setCell] using h.size, fun i hi hn => by
    rcases hp with hp | hp
    · exact (Below.heap_setCell b p u i (fun e => hn (by rw [e]; exact hp))).trans (h.block i hi hn)
    · exact (Below.heap_setCell b p u i (by omega)).trans (h.block i hi hn)⟩

set_option maxRecDepth 100000 in
theorem Grow.old {k : Nat} (h : F k) : Grow F a b k := Or.inl h
set_option maxRecDepth 100000 in
theorem Grow.lt {k : Nat} (h : Grow F a b k) (hF : ∀ k, F k → k < a.heap.size) (hs : a.heap.size ≤ b.heap.size) : k < b.heap.size := by
  rcases h with h | h
  · exact Nat.lt_of_lt_of_le (hF k h) hs
  · exact h.2
set_option maxRecDepth 100000 in
theorem Grow.trans {k : Nat} (h : Grow (Grow F a b) b c k) (hab : a.heap.size ≤ b.heap.size) (hbc : b.heap.size ≤ c.heap.size) : Grow F a c k := by
  rcases h with (h | h) | h
  · exact Or.inl h
  · exact Or.inr ⟨h.1, by omega⟩
  · exact Or.inr ⟨by omega, h.2⟩
set_option maxRecDepth 100000 in
theorem Grow.within {k : Nat} (h : Grow F a b k) (hbc : b.heap.size ≤ c.heap.size) : Grow F a c k := by
  rcases h with h | h
  · exact Or.inl h
  · exact Or.inr ⟨h.1, by omega⟩
set_option maxRecDepth 100000 in
theorem Grow.later {k : Nat} (h : Grow F b c k) (hab : a.heap.size ≤ b.heap.size) : Grow F a c k := by
  rcases h with h | h
  · exact Or.inl h
  · exact Or.inr ⟨by omega, h.2⟩

set_option maxRecDepth 100000 in
/-- Whoever has no block of F finds its own as they were. -/
theorem Kept.same (h : Kept F w w') {k : Nat} (hk : k < w.heap.size) (hn : ¬ F k) : w'.heap[k]? = w.heap[k]? := h.block k hk hn

set_option maxRecDepth 100000 in
theorem Kept.cell (h : Kept F w w') {p : Addr} (hk : p.block < w.heap.size) (hn : ¬ F p.block) : w'.cell? p = w.cell? p := World.cell?_of_block (w := w) (h.block p.block hk hn)

set_option maxRecDepth 100000 in
theorem Row.kept {t : TypeId} {i : Nat} {cs : Array Value} (hr : Row w i t cs) (h : Kept F w w') (hn : ¬ F i) : Row w' i t cs := (h.block i hr.inHeap hn).trans hr
end

/-! ### Slices of one cell each -/

/-- The slice value v reads as us, out of blocks of F. -/
def Cells (w : World) (F : Nat → Prop) (v : Value) (us : List Value) : Prop :=
  ∃ A cap, v = .slice A us.length cap ∧ us.length ≤ cap ∧ (0 < us.length → ∃ b o, A = some ⟨b, o, none⟩ ∧ F b ∧ b < w.heap.size ∧ ∀ i u, us[i]? = some u → w.cell? ⟨b, o + i, none⟩ = some u)

section
variable {F G : Nat → Prop} {w w' : World} {v : Value} {us : List Value}

set_option maxRecDepth 100000 in
theorem Cells.none (w : World) (F : Nat → Prop) : Cells w F (.slice none 0 0) [] := ⟨Option.none, 0, rfl, Nat.le_refl _, fun h => absurd h (by simp)⟩

set_option maxRecDepth 100000 in
theorem Cells.kept (h : Cells w F v us) (k : Kept G w w') (hd : ∀ i, F i → ¬ G i) : Cells w' F v us := by
  obtain ⟨A, cap, h1, h2, h3⟩ := h
  refine ⟨A, cap, h1, h2, fun hp => ?_⟩
  obtain ⟨b, o, e, hb, hl, hc⟩ := h3 hp
  exact ⟨b, o, e, hb, Nat.lt_of_lt_of_le hl k.size, fun i u hu => (k.cell (p := ⟨b, o + i, Option.none⟩) hl (hd b hb)).trans (hc i u hu)⟩

set_option maxRecDepth 100000 in
theorem Cells.mono (h : Cells w F v us) (hF : ∀ i, F i → G i) : Cells w G v us := by
  obtain ⟨A, cap, h1, h2, h3⟩ := h
  refine ⟨A, cap, h1, h2, fun hp => ?_⟩
  obtain ⟨b, o, e, hb, r⟩ := h3 hp
  exact ⟨b, o, e, hF b hb, r⟩

set_option maxRecDepth 100000 in
theorem Cells.ofOwn {base t n : Nat} (h : w.ownsRow base t 1 v n us) (hF : ∀ b, v.ownBlock = some b → base ≤ b → b < w.heap.size → F b) : Cells w F v us := by
  have hn : us.length = n := by rw [h.1, Nat.mul_one]
  subst hn
  rcases h.2 with ⟨hv, h0⟩ | ⟨g, cap, cur, hv, hb, hg, hc, hm, hs, ht⟩
  · rw [hv]
    have : us = [] := List.eq_nil_of_length_eq_zero h0
    rw [this]
    exact Cells.none _ _
  · refine ⟨some ⟨g, 0, Option.none⟩, cap, hv, hc, fun _ => ⟨g, 0, rfl, hF g (by rw [hv]; rfl) hb (lt_of_block hg), lt_of_block hg, fun i u hu => ?_⟩⟩
    rw [cell_of_row w g _ cur t (0, 0) hg, Nat.zero_add]
    rw [← ht, List.getElem?_take] at hu
    split at hu
    · rw [Array.getElem?_toList] at hu; exact hu
    · cases hu
end
end Go.Proofs.YtajhmgbicliihaaGreatDoor
/- Slices whose elements have several cells each (structs): what they read as, what is appended to the call's own, pieces of them. No program is spoken of. -/
namespace Go.Proofs.YtajhmgbicliihaaGreatDoor
open Go.RowKit

/-- The slice value v reads as l, each x as the k cells f x, out of blocks of F. -/
def Rws {α : Type} (k : Nat) (f : α → List Value) (w : World) (F : Nat → Prop) (v : Value) (l : List α) : Prop :=
  ∃ A cap, v = .slice A l.length cap ∧ l.length ≤ cap ∧ (0 < l.length → ∃ b o, A = some ⟨b, o, none⟩ ∧ F b ∧ b < w.heap.size ∧ ∀ i x, l[i]? = some x → ∀ j u, (f x)[j]? = some u → w.cell? ⟨b, o + i * k + j, none⟩ = some u)

section
variable {α : Type} {k : Nat} {f : α → List Value} {w w' : World} {F G : Nat → Prop} {v : Value} {l : List α}

set_option maxRecDepth 100000 in
theorem Rws.none (w : World) (F : Nat → Prop) (c : Nat) : Rws k f w F (.slice none 0 c) [] := ⟨Option.none, c, rfl, Nat.zero_le _, fun h => absurd h (by simp)⟩
set_option maxRecDepth 100000 in
theorem Rws.empty (w : World) (F : Nat → Prop) (A : Option Addr) (c : Nat) : Rws k f w F (.slice A 0 c) [] := ⟨A, c, rfl, Nat.zero_le _, fun h => absurd h (by simp)⟩

set_option maxRecDepth 100000 in
theorem Rws.kept (h : Rws k f w F v l) (hk : Kept G w w') (hd : ∀ i, F i → ¬ G i) : Rws k f w' F v l := by
  obtain ⟨A, cap, h1, h2, h3⟩ := h
  refine ⟨A, cap, h1, h2, fun hp => ?_⟩
  obtain ⟨b, o, e, hb, hl, hc⟩ := h3 hp
  exact ⟨b, o, e, hb, Nat.lt_of_lt_of_le hl hk.size, fun i x hx j u hu => (hk.cell (p := ⟨b, _, Option.none⟩) hl (hd b hb)).trans (hc i x hx j u hu)⟩

set_option maxRecDepth 100000 in
theorem Rws.below (h : Rws k f w F v l) (hk : Below w.heap.size w w') : Rws k f w' F v l := h.kept (Kept.ofBelow hk (fun _ => False)) (fun _ _ h => h)

set_option maxRecDepth 100000 in
theorem Rws.mono (h : Rws k f w F v l) (hF : ∀ i, F i → G i) : Rws k f w G v l := by
  obtain ⟨A, cap, h1, h2, h3⟩ := h
  refine ⟨A, cap, h1, h2, fun hp => ?_⟩
  obtain ⟨b, o, e, hb, r⟩ := h3 hp
  exact ⟨b, o, e, hF b hb, r⟩

set_option maxRecDepth 100000 in
theorem Rws.lt (h : Rws k f w F v l) : Rws k f w (fun i => F i ∧ i < w.heap.size) v l := by
  obtain ⟨A, cap, h1, h2, h3⟩ := h
  refine ⟨A, cap, h1, h2, fun hp => ?_⟩
  obtain ⟨b, o, e, hb, r⟩ := h3 hp
  exact ⟨b, o, e, ⟨hb, r.1⟩, r⟩

set_option maxRecDepth 100000 in
/-- Rows, one behind the other: which cell is which. -/
theorem rows_at : ∀ (l : List α), (∀ x ∈ l, (f x).length = k) → ∀ (i : Nat) (x : α), l[i]? = some x → ∀ (j : Nat) (u : Value), (f x)[j]? = some u → (l.flatMap f)[i * k + j]? = some u
  | [], _, i, x, hx, _, _, _ => by cases hx
  | y :: l, hk, 0, x, hx, j, u, hu => by
    simp at hx
    subst hx
    rw [List.flatMap_cons, Nat.zero_mul, Nat.zero_add, List.getElem?_append_left (by obtain ⟨h, _⟩ := List.getElem?_eq_some_iff.1 hu; exact h)]
    exact hu
  | y :: l, hk, i + 1, x, hx, j, u, hu => by
    have hy := hk y (by simp)
    rw [List.flatMap_cons, List.getElem?_append_right (by rw [hy, Nat.add_one_mul]; omega), hy]
    have e : (i + 1) * k + j - k = i * k + j := by rw [Nat.add_one_mul]; omega
    rw [e]
    exact rows_at l (fun z hz => hk z (List.mem_cons_of_mem _ hz)) i x (by simpa using hx) j u hu

set_option maxRecDepth 100000 in
theorem rows_of : ∀ (l : List α), (∀ x ∈ l, (f x).length = k) → ∀ (m : Nat) (u : Value), (l.flatMap f)[m]? = some u → ∃ i x j, l[i]? = some x ∧ (f x)[j]? = some u ∧ m = i * k + j
  | [], _, m, u, h => by simp at h
  | y :: l, hk, m, u, h => by
    have hy := hk y (by simp)
    rw [List.flatMap_cons] at h
    by_cases hm : m < k
    · rw [List.getElem?_append_left (by omega)] at h
      exact ⟨0, y, m, rfl, h, by omega⟩
    · rw [List.getElem?_append_right (by omega), hy] at h
      obtain ⟨i, x, j, h1, h2, h3⟩ := rows_of l (fun z hz => hk z (List.mem_cons_of_mem _ hz)) _ u h
      exact ⟨i + 1, x, j, by simpa using h1, h2, by rw [Nat.add_one_mul]; omega⟩

set_option maxRecDepth 100000 in
theorem rows_len : ∀ (l : List α), (∀ x ∈ l, (f x).length = k) → (l.flatMap f).length = l.length * k
  | [], _ => by simp
  | y :: l, hk => by
    rw [List.flatMap_cons, List.length_append, rows_len l (fun z hz => hk z (List.mem_cons_of_mem _ hz)), hk y (by simp), List.length_cons, Nat.add_one_mul]
    omega

set_option maxRecDepth 100000 in
theorem Rws.ofOwn {base t n : Nat} (h : w.ownsRow base t k v n (l.flatMap f)) (hl : l.length = n) (hk : ∀ x ∈ l, (f x).length = k) (hF : ∀ b, v.ownBlock = some b → base ≤ b → b < w.heap.size → F b) : Rws k f w F v l := by
  subst hl
  rcases h.2 with ⟨hv, h0⟩ | ⟨g, cap, cur, hv, hb, hg, hc, hm, hs, ht⟩
  · rw [hv]
    have : l = [] := List.eq_nil_of_length_eq_zero h0
    rw [this]
    exact Rws.none _ _ _
  · refine ⟨some ⟨g, 0, Option.none⟩, cap, hv, hc, fun _ => ⟨g, 0, rfl, hF g (by rw [hv]; rfl) hb (lt_of_block hg), lt_of_block hg, fun i x hx j u hu => ?_⟩⟩
    have hr := rows_at l hk i x hx j u hu
    rw [cell_of_row w g _ cur t (0, 0) hg, Nat.zero_add]
    rw [← ht, List.getElem?_take] at hr
    split at hr
    · rw [Array.getElem?_toList] at hr; exact hr
    · cases hr

set_option maxRecDepth 100000 in
/-- A piece from the front, a piece to the end. -/
theorem Rws.take (h : Rws k f w F v l) {A : Option Addr} {cap : Nat} (hv : v = .slice A l.length cap) (i : Nat) (hi : i ≤ l.length) (c : Nat) (hc : i ≤ c) : Rws k f w F (.slice A i c) (l.take i) := by
  obtain ⟨B, cap', h1, h2, h3⟩ := h
  rw [h1] at hv
  injection hv with e1 e2 e3
  subst e1
  have hl : (l.take i).length = i := by rw [List.length_take]; omega
  refine ⟨B, c, by rw [hl], by rw [hl]; exact hc, fun hp => ?_⟩
  rw [hl] at hp
  obtain ⟨b, o, e, hb, hlt, hcl⟩ := h3 (by omega)
  exact ⟨b, o, e, hb, hlt, fun m x hx => hcl m x (by rw [List.getElem?_take] at hx; split at hx; exact hx; cases hx)⟩

set_option maxRecDepth 100000 in
theorem Rws.drop (h : Rws k f w F v l) {b o cap : Nat} (hv : v = .slice (some ⟨b, o, Option.none⟩) l.length cap) (i : Nat) (hi : i ≤ l.length) (c : Nat) (hc : l.length - i ≤ c) : Rws k f w F (.slice (some ⟨b, o + i * k, Option.none⟩) (l.length - i) c) (l.drop i) := by
  obtain ⟨B, cap', h1, h2, h3⟩ := h
  rw [h1] at hv
  injection hv with e1 e2 e3
  subst e1
  have hl : (l.drop i).length = l.length - i := List.length_drop
  refine ⟨_, c, by rw [hl], by rw [hl]; exact hc, fun hp => ?_⟩
  rw [hl] at hp
  obtain ⟨b', o', e, hb, hlt, hcl⟩ := h3 (by omega)
  injection e with e
  injection e with e1 e2
  subst e1 e2
  refine ⟨b, o + i * k, rfl, hb, hlt, fun m x hx j u hu => ?_⟩
  rw [List.getElem?_drop] at hx
  have := hcl (i + m) x hx j u hu
  rw [show o + (i + m) * k + j = o + i * k + m * k + j by rw [Nat.add_mul]; omega] at this
  exact this
end

/-! ### What is appended to the call's own -/
section
variable {P : Program} {α : Type} {k : Nat} {f : α → List Value}

set_option maxRecDepth 100000 in
theorem join_nothing {w : World} (base : Nat) (t ty e : TypeId) (i : TypeInfo) (size c : Nat) (ht : P.underlying t = some (.slice e)) (hi : P.info? e = some i) (v : Value) (n : Nat) (xs : List Value) (hown : w.ownsRow base e size v n xs) :
    (Builtin.append_ #[t, t] ty #[v, .slice none 0 c]).run P w = .ok v w := by
  rcases hown.2 with ⟨rfl, rfl⟩ | ⟨g, cap, cur, rfl, _, _, hnc, _⟩
  · simp [Builtin.append_, run_underlying ht, sizeOf, typeInfo, hi, Builtin.lenOf, Builtin.firstCells]
  · simp [Builtin.append_, run_underlying ht, sizeOf, typeInfo, hi, Builtin.lenOf, Builtin.firstCells, hnc, storeCells]

set_option maxRecDepth 100000 in
/-- The call's own, and behind it what another slice reads as. -/
theorem join_rows {w : World} (base : Nat) (t ty e : TypeId) (i : TypeInfo) (z : Value) (bytes : Nat) (ht : P.underlying t = some (.slice e)) (hi : P.info? e = some i) (hz : i.zero = some z) (hsize : i.size = k) (hby : i.bytes = bytes) (hzs : z.cells.size = k) (hsz : 0 < k)
    {v xv : Value} {n : Nat} {xs : List Value} {F : Nat → Prop} {l : List α} (hown : w.ownsRow base e k v n xs) (hx : Rws k f w F xv l) (hk : ∀ x ∈ l, (f x).length = k) (h1 : ∀ x ∈ l, ∀ u ∈ f x, u.oneCell' = true)
    (h63 : n + l.length ≤ maxLen) (hbytes : (n + l.length) * bytes ≤ 140737488355328) (hbase : base ≤ w.heap.size) :
    ∃ v' w', (Builtin.append_ #[t, t] ty #[v, xv]).run P w = .ok v' w' ∧ w'.ownsRow base e k v' (n + l.length) (xs ++ l.flatMap f) ∧ w.grownBy w' v.ownBlock := by
  obtain ⟨A, c, rfl, hc, hat⟩ := hx
  have hone : ∀ u ∈ l.flatMap f, u.oneCell' = true := by
    intro u hu
    obtain ⟨x, hx, hu⟩ := List.mem_flatMap.1 hu
    exact h1 x hx u hu
  have hgo : ∀ ad : Addr, A = some ad → (∀ j u, (l.flatMap f)[j]? = some u → w.cell? (ad.add j) = some u) → ∃ v' w', (Builtin.append_ #[t, t] ty #[v, .slice A l.length c]).run P w = .ok v' w' ∧ w'.ownsRow base e k v' (n + l.length) (xs ++ l.flatMap f) ∧ w.grownBy w' v.ownBlock := by
    rintro ad rfl hnews
    obtain ⟨v', w', r1, r2, r3, -⟩ := run_append_own w base t ty e i z k bytes ht hi hz hsize hby hzs hsz v n xs hown ad l.length c (l.flatMap f) (rows_len l hk) hnews hone h63 hbytes hbase
    exact ⟨v', w', r1, r2, r3⟩
  by_cases h0 : 0 < l.length
  · obtain ⟨b, o, rfl, -, hbl, hcell⟩ := hat h0
    refine hgo _ rfl (fun j u hu => ?_)
    obtain ⟨m, x, r, e1, e2, rfl⟩ := rows_of l hk j u hu
    rw [Go.WideShapes.add_plain, ← Nat.add_assoc]
    exact hcell m x e1 r u e2
  · have hl : l = [] := List.eq_nil_of_length_eq_zero (by omega)
    subst hl
    cases A with
    | none => exact ⟨v, w, join_nothing base t ty e i k c ht hi v n xs hown, by simpa using hown, rfl, rfl, rfl, Nat.le_refl _, fun _ _ _ => rfl⟩
    | some ad => exact hgo ad rfl (fun j u hu => by simp at hu)

set_option maxRecDepth 100000 in
theorem wp_join {ops : Array Oper} {rest : List Oper} {o : Oper} {a : Act} {w : World} {Q : Exit → Act → World → Prop} (hgd : o.guard = none) (s x : Operand) (t : TypeId)
    (ho : o.op = .call { callee := .builtin .append, args := #[s, x], argTypes := #[t, t] }) (base : Nat) (e : TypeId) (i : TypeInfo) (z : Value) (bytes : Nat) (ht : P.underlying t = some (.slice e)) (hi : P.info? e = some i) (hz : i.zero = some z)
    (hsize : i.size = k) (hby : i.bytes = bytes) (hzs : z.cells.size = k) (hsz : 0 < k) {v xv : Value} {n : Nat} {xs : List Value} {F : Nat → Prop} {l : List α} (hs : a.eval s = v) (hx : a.eval x = xv)
    (hown : w.ownsRow base e k v n xs) (hr : Rws k f w F xv l) (hk : ∀ x ∈ l, (f x).length = k) (h1 : ∀ x ∈ l, ∀ u ∈ f x, u.oneCell' = true) (h63 : n + l.length ≤ maxLen) (hbytes : (n + l.length) * bytes ≤ 140737488355328) (hbase : base ≤ w.heap.size)
    (h : ∀ v' w', w'.ownsRow base e k v' (n + l.length) (xs ++ l.flatMap f) → w.grownBy w' v.ownBlock → wpList P ops Q rest (a.put o.dst v') w') : wpList P ops Q (o :: rest) a w :=
  wpList_plain hgd fun _ hK => by
    obtain ⟨v', w', r1, r2, r3⟩ := join_rows (P := P) base t o.type e i z bytes ht hi hz hsize hby hzs hsz hown hr hk h1 h63 hbytes hbase
    unfold Oper.wp execOp
    simp only [ho, resolve, invoke, builtin, Sem.run_bind, Sem.run_pure, Result.andThen_ok, List.map_toArray, List.map_cons, List.map_nil, hs, hx, r1]
    exact hK _ _ (h v' w' r2 r3)

set_option maxRecDepth 100000 in
theorem step_joins {ops : Array Oper} {o : Oper} {a : Act} {w : World} {K : Act → World → Prop} {Q : Exit → Act → World → Prop} {E : Prop} (hgd : o.guard = none) (s x : Operand) (t : TypeId)
    (ho : o.op = .call { callee := .builtin .append, args := #[s, x], argTypes := #[t, t] }) (base : Nat) (e : TypeId) (i : TypeInfo) (z : Value) (bytes : Nat) (ht : P.underlying t = some (.slice e)) (hi : P.info? e = some i) (hz : i.zero = some z)
    (hsize : i.size = k) (hby : i.bytes = bytes) (hzs : z.cells.size = k) (hsz : 0 < k) {v xv : Value} {n : Nat} {xs : List Value} {F : Nat → Prop} {l : List α} (hs : a.eval s = v) (hx : a.eval x = xv)
    (hown : w.ownsRow base e k v n xs) (hr : Rws k f w F xv l) (hk : ∀ x ∈ l, (f x).length = k) (h1 : ∀ x ∈ l, ∀ u ∈ f x, u.oneCell' = true) (h63 : n + l.length ≤ maxLen) (hbytes : (n + l.length) * bytes ≤ 140737488355328) (hbase : base ≤ w.heap.size)
    (h : ∀ v' w', w'.ownsRow base e k v' (n + l.length) (xs ++ l.flatMap f) → w.grownBy w' v.ownBlock → K (a.put o.dst v') w') :
    if Region.wanted o (yielded ops a.tmps) = true then Oper.wp P o a w K Q else E := by
  rw [if_pos (by simp [Region.wanted, hgd])]
  obtain ⟨v', w', r1, r2, r3⟩ := join_rows (P := P) base t o.type e i z bytes ht hi hz hsize hby hzs hsz hown hr hk h1 h63 hbytes hbase
  unfold Oper.wp execOp
  simp only [ho, resolve, invoke, builtin, Sem.run_bind, Sem.run_pure, Result.andThen_ok, List.map_toArray, List.map_cons, List.map_nil, hs, hx, r1]
  exact h v' w' r2 r3
end
end Go.Proofs.YtajhmgbicliihaaGreatDoor
/- What the statement of a law asks behind the call, out of two facts: the call answers true, and nothing that was there has turned. -/
namespace Go.Proofs.YtajhmgbicliihaaGreatDoor
open Go.ChangeShapes Go.WideShapes Go.ChangeAt Go.RowKit

set_option maxRecDepth 100000 in
theorem own : ownKnob Tryz.prog.godebug = none := by kernel_rfl
set_option maxRecDepth 100000 in
theorem laidOut : laidOutB Tryz.prog = true := by kernel_rfl

section
variable {H : Type} {enc : TypeId × Value → H}

set_option maxRecDepth 100000 in
/-- All arguments read as they did, where nothing that was there has turned. -/
theorem args_stay {W W' : World} (hb : Below W.heap.size W W') : ∀ (ts : List TypeId) (vs : List Value) (ds : List (DataW H)) (ps : List MemPlace),
    (∀ t ∈ ts, Tryz.prog.readableRec t = true ∧ t < Tryz.prog.types.size) → (∀ p ∈ ps, p.block < W.heap.size) →
    DataW.TrodAll enc Tryz.prog W 0 (fun _ => true) true ts vs ds ps → DataW.TrodAll enc Tryz.prog W' 0 (fun b => decide (b < W.heap.size)) true ts vs ds ps
  | [], vs, ds, ps, _, _, h => by
    obtain ⟨rfl, rfl, rfl⟩ := trodAll_nil h
    exact trodAll_mk0
  | t :: ts, vs, ds, ps, ht, hp, h => by
    obtain ⟨v, vs', d, ds', p, q, rfl, rfl, rfl, h1, h2⟩ := trodAll_cons h
    obtain ⟨r1, r2⟩ := ht t (by simp)
    exact trodAll_cons_mk (Below.trod laidOut r1 r2 h1 hb (fun x hx => hp x (by simp [hx]))) (args_stay hb ts vs' ds' q (fun u hu => ht u (by simp [hu])) (fun x hx => hp x (by simp [hx])) h2)

set_option maxRecDepth 100000 in
/-- The statement's end, for every law that answers true and whose arguments read as they did. -/
theorem law_done {f : Func} {s : ChangeSpec} {W W' : World} {args : Array Value} {ds gs : List (DataW H)} {before : List MemPlace} (hres : f.resultTypes = #[4]) (hv : s.vars = [])
    (hW : DataW.Whole enc Tryz.prog f.params.toList s.vars false W args.toList ds gs before) (hfn : s.fn H (ds ++ gs) = { results := [.lit (.bool true)], args := ds })
    (hr : ∀ t ∈ f.params.toList, Tryz.prog.readableRec t = true ∧ t < Tryz.prog.types.size) (hb : Below W.heap.size W W') :
    s.post enc Tryz.prog f false true false false W args (.bool true) W' := by
  have hlt : ∀ p ∈ before, p.block < W.heap.size := fun p hp => hW.lt p hp
  have hW0 := hW
  obtain ⟨p, q, hA, hV, hpq, _, _⟩ := hW
  rw [hv] at hV
  obtain ⟨rfl, rfl⟩ := trodVars_none hV
  rw [List.append_nil] at hpq
  subst hpq
  refine ⟨ds, [], before, [], before, [], hW0, ?_, ?_, ?_, hb.frame _, fun h => by cases h⟩
  · rw [hfn, hres]
    exact trodAll_mk1 (shut_bool Tryz.underlying4 true)
  · rw [hfn]
    exact args_stay hb _ _ _ _ hr hlt hA
  · rw [hfn, hv]
    rfl
end
end Go.Proofs.YtajhmgbicliihaaGreatDoor
/- CRC-32C on bits: a register of 32 bits, its linearity, that one bit turned makes another sum. No program is spoken of. -/
namespace Go.Proofs.YtajhmgbicliihaaGreatDoor.Crc

/-- The polynomial, its highest coefficient in the lowest bit. -/
def poly : BitVec 32 := 0x82F63B78#32

/-- One place on. -/
def z (c : BitVec 32) : BitVec 32 := (c >>> 1) ^^^ (if c.getLsbD 0 then poly else 0#32)

def one (m : Bool) : BitVec 32 := if m then 1#32 else 0#32

/-- One bit is taken in. -/
def step (r : BitVec 32) (m : Bool) : BitVec 32 := z (r ^^^ one m)

def run (r : BitVec 32) (ms : List Bool) : BitVec 32 := ms.foldl step r

set_option maxRecDepth 100000 in
theorem one_xor (a b : Bool) : one (a ^^ b) = one a ^^^ one b := by cases a <;> cases b <;> rfl

set_option maxRecDepth 100000 in
theorem twice (x y p : BitVec 32) : (x ^^^ p) ^^^ (y ^^^ p) = x ^^^ y := by
  rw [show (x ^^^ p) ^^^ (y ^^^ p) = (x ^^^ y) ^^^ (p ^^^ p) from by ac_rfl, BitVec.xor_self, BitVec.xor_zero]

set_option maxRecDepth 100000 in
theorem z_xor (a b : BitVec 32) : z (a ^^^ b) = z a ^^^ z b := by
  unfold z
  rw [BitVec.getLsbD_xor, BitVec.ushiftRight_xor_distrib]
  cases a.getLsbD 0 <;> cases b.getLsbD 0
  · simp
  · simp only [Bool.false_xor, if_true, Bool.false_eq_true, if_false, BitVec.xor_zero]; ac_rfl
  · simp only [Bool.true_xor, Bool.not_false, if_true, Bool.false_eq_true, if_false, BitVec.xor_zero]; ac_rfl
  · simp only [Bool.true_xor, Bool.not_true, Bool.false_eq_true, if_false, if_true, BitVec.xor_zero]
    exact (twice _ _ _).symm

set_option maxRecDepth 100000 in
theorem z_zero : z 0#32 = 0#32 := by decide

set_option maxRecDepth 100000 in
theorem z_ne {c : BitVec 32} (h : c ≠ 0#32) : z c ≠ 0#32 := by
  intro hz
  apply h
  have h31 : (z c).getLsbD 31 = false := by rw [hz]; simp
  have hp : poly.getLsbD 31 = true := by decide
  have hl : c.getLsbD 0 = false := by
    cases hc : c.getLsbD 0 with
    | false => rfl
    | true =>
      unfold z at h31
      rw [hc, if_pos rfl, BitVec.getLsbD_xor, hp] at h31
      simp at h31
  unfold z at hz
  rw [hl] at hz
  simp at hz
  apply BitVec.eq_of_getLsbD_eq
  intro i hi
  cases i with
  | zero => rw [hl]; simp
  | succ j =>
    have : (c >>> 1).getLsbD j = false := by rw [hz]; simp
    rw [BitVec.getLsbD_ushiftRight] at this
    rw [Nat.add_comm, this]; simp

set_option maxRecDepth 100000 in
theorem step_xor (a b : BitVec 32) (m n : Bool) : step (a ^^^ b) (m ^^ n) = step a m ^^^ step b n := by
  unfold step
  rw [one_xor, ← z_xor]
  congr 1
  ac_rfl

set_option maxRecDepth 100000 in
theorem run_xor : ∀ (ms ns : List Bool) (a b : BitVec 32), ms.length = ns.length → run (a ^^^ b) (List.zipWith (· ^^ ·) ms ns) = run a ms ^^^ run b ns
  | [], [], a, b, _ => rfl
  | m :: ms, n :: ns, a, b, h => by
    simp only [List.zipWith_cons_cons, run, List.foldl_cons]
    rw [step_xor]
    exact run_xor ms ns _ _ (by simpa using h)
  | [], _ :: _, _, _, h => by simp at h
  | _ :: _, [], _, _, h => by simp at h

set_option maxRecDepth 100000 in
theorem run_append (r : BitVec 32) (a b : List Bool) : run r (a ++ b) = run (run r a) b := List.foldl_append ..

set_option maxRecDepth 100000 in
theorem run_falses (r : BitVec 32) (n : Nat) (h : r ≠ 0#32) : run r (List.replicate n false) ≠ 0#32 := by
  induction n generalizing r with
  | zero => exact h
  | succ n ih =>
    rw [List.replicate_succ]
    refine ih _ ?_
    unfold step one
    simp
    exact z_ne h

/-- The bits of a byte, the lowest first. -/
def bitsOf (b : UInt8) : List Bool := (List.range 8).map fun k => b.toNat.testBit k

def msg (s : List UInt8) : List Bool := s.flatMap bitsOf

/-- The checksum. -/
def sum (s : List UInt8) : BitVec 32 := ~~~ run (BitVec.allOnes 32) (msg s)

set_option maxRecDepth 100000 in
theorem bits_len (b : UInt8) : (bitsOf b).length = 8 := by simp [bitsOf]

set_option maxRecDepth 100000 in
theorem msg_len (s : List UInt8) : (msg s).length = 8 * s.length := by
  induction s with
  | nil => rfl
  | cons b s ih =>
    show (bitsOf b ++ msg s).length = _
    rw [List.length_append, bits_len, ih, List.length_cons]
    omega

set_option maxRecDepth 100000 in
theorem bits_xor (a b : UInt8) : bitsOf (a ^^^ b) = List.zipWith (· ^^ ·) (bitsOf a) (bitsOf b) := by
  unfold bitsOf
  rw [List.zipWith_map_left, List.zipWith_map_right]
  apply List.ext_getElem
  · simp
  · intro i h1 h2
    simp [UInt8.toNat_xor, Nat.testBit_xor]

set_option maxRecDepth 100000 in
theorem msg_xor : ∀ (s t : List UInt8), s.length = t.length → msg (List.zipWith (· ^^^ ·) s t) = List.zipWith (· ^^ ·) (msg s) (msg t)
  | [], [], _ => rfl
  | a :: s, b :: t, h => by
    show bitsOf (a ^^^ b) ++ msg (List.zipWith (· ^^^ ·) s t) = List.zipWith (· ^^ ·) (bitsOf a ++ msg s) (bitsOf b ++ msg t)
    rw [List.zipWith_append (by rw [bits_len, bits_len]), bits_xor, msg_xor s t (by simpa using h)]
  | [], _ :: _, h => by simp at h
  | _ :: _, [], h => by simp at h

set_option maxRecDepth 100000 in
/-- Of two texts of one length: the sums differ as the bits that differ make them. -/
theorem sum_xor (s t : List UInt8) (h : s.length = t.length) : sum s ^^^ sum t = run 0#32 (msg (List.zipWith (· ^^^ ·) s t)) := by
  rw [msg_xor s t h]
  have := run_xor (msg s) (msg t) (BitVec.allOnes 32) (BitVec.allOnes 32) (by rw [msg_len, msg_len, h])
  rw [BitVec.xor_self] at this
  rw [this]
  unfold sum
  have hn : ∀ x y : BitVec 32, ~~~x ^^^ ~~~y = x ^^^ y := fun x y => by
    apply BitVec.eq_of_getLsbD_eq
    intro i hi
    simp [hi]
  exact hn _ _

/-! ### A byte at a time -/

/-- n places on. -/
def zs : Nat → BitVec 32 → BitVec 32
  | 0, c => c
  | n + 1, c => z (zs n c)

set_option maxRecDepth 100000 in
theorem one_shift (m : Bool) : one m >>> 1 = 0#32 := by cases m <;> decide
set_option maxRecDepth 100000 in
theorem one_low (m : Bool) : (one m).getLsbD 0 = m := by cases m <;> decide

set_option maxRecDepth 100000 in
theorem z_low (c : BitVec 32) (m : Bool) (h : c.getLsbD 0 = m) : z (c ^^^ one m) = c >>> 1 := by
  have hl : (c ^^^ one m).getLsbD 0 = false := by rw [BitVec.getLsbD_xor, one_low, h]; simp
  unfold z
  rw [hl, BitVec.ushiftRight_xor_distrib, one_shift]
  simp

def lows (k : Nat) (b : BitVec 32) : List Bool := (List.range k).map fun i => b.getLsbD i

set_option maxRecDepth 100000 in
theorem zs_run (k : Nat) (r b : BitVec 32) : zs k (r ^^^ b) = run r (lows k b) ^^^ (b >>> k) := by
  induction k with
  | zero => simp [zs, lows, run]
  | succ k ih =>
    have hl : lows (k + 1) b = lows k b ++ [b.getLsbD k] := by simp [lows, List.range_succ]
    have hb : (b >>> k).getLsbD 0 = b.getLsbD k := by rw [BitVec.getLsbD_ushiftRight]; simp
    have hz := z_low (b >>> k) (b.getLsbD k) hb
    rw [zs, ih, hl, run_append]
    show z (run r (lows k b) ^^^ b >>> k) = step (run r (lows k b)) (b.getLsbD k) ^^^ b >>> (k + 1)
    unfold step
    have e : run r (lows k b) ^^^ b >>> k = (run r (lows k b) ^^^ one (b.getLsbD k)) ^^^ (b >>> k ^^^ one (b.getLsbD k)) := (twice _ _ _).symm
    rw [e, z_xor, hz, BitVec.shiftRight_add]

set_option maxRecDepth 100000 in
/-- Eight places on, with the byte laid into the register first. -/
theorem byte_run (r : BitVec 32) (b : UInt8) : zs 8 (r ^^^ BitVec.ofNat 32 b.toNat) = run r (bitsOf b) := by
  have hb : b.toNat < 256 := b.toNat_lt
  rw [zs_run]
  have h1 : lows 8 (BitVec.ofNat 32 b.toNat) = bitsOf b := by
    unfold lows bitsOf
    apply List.map_congr_left
    intro i hi
    have : i < 8 := List.mem_range.1 hi
    rw [BitVec.getLsbD_ofNat, decide_eq_true (by omega)]
    simp
  have h2 : (BitVec.ofNat 32 b.toNat) >>> 8 = 0#32 := by
    apply BitVec.eq_of_toNat_eq
    rw [BitVec.toNat_ushiftRight, BitVec.toNat_ofNat, Nat.mod_eq_of_lt (by omega), Nat.shiftRight_eq_div_pow]
    simp
    omega
  rw [h1, h2, BitVec.xor_zero]

set_option maxRecDepth 100000 in
theorem msg_snoc (s : List UInt8) (b : UInt8) : msg (s ++ [b]) = msg s ++ bitsOf b := by
  simp [msg]

set_option maxRecDepth 100000 in
/-- The register behind one byte more. -/
theorem run_snoc (r : BitVec 32) (s : List UInt8) (b : UInt8) : run r (msg (s ++ [b])) = zs 8 (run r (msg s) ^^^ BitVec.ofNat 32 b.toNat) := by
  rw [msg_snoc, run_append, byte_run]

/-! ### One bit turned -/

set_option maxRecDepth 100000 in
theorem run_zero (n : Nat) : run 0#32 (List.replicate n false) = 0#32 := by
  induction n with
  | zero => rfl
  | succ n ih =>
    rw [List.replicate_succ]
    show run (step 0#32 false) _ = _
    rw [show step 0#32 false = 0#32 from by decide]
    exact ih

set_option maxRecDepth 100000 in
theorem run_single (a b : Nat) : run 0#32 (List.replicate a false ++ true :: List.replicate b false) ≠ 0#32 := by
  rw [run_append, run_zero]
  show run (step 0#32 true) (List.replicate b false) ≠ _
  exact run_falses _ _ (by decide)

set_option maxRecDepth 100000 in
theorem bits_zero : bitsOf 0 = List.replicate 8 false := by decide

set_option maxRecDepth 100000 in
theorem msg_zeros (n : Nat) : msg (List.replicate n 0) = List.replicate (8 * n) false := by
  induction n with
  | zero => rfl
  | succ n ih =>
    rw [List.replicate_succ]
    show bitsOf 0 ++ msg (List.replicate n 0) = _
    rw [bits_zero, ih, List.replicate_append_replicate]
    congr 1
    omega

set_option maxRecDepth 100000 in
theorem bits_pow (k : Nat) (hk : k < 8) : bitsOf (UInt8.ofNat (2 ^ k)) = List.replicate k false ++ true :: List.replicate (7 - k) false := by
  have h : ∀ j : Fin 8, bitsOf (UInt8.ofNat (2 ^ j.val)) = List.replicate j.val false ++ true :: List.replicate (7 - j.val) false := by decide +kernel
  exact h ⟨k, hk⟩

set_option maxRecDepth 100000 in
/-- Texts of one length that differ in one bit have sums that differ. -/
theorem sum_turn (s t : List UInt8) (h : s.length = t.length) (i k : Nat) (hk : k < 8) (hd : List.zipWith (· ^^^ ·) s t = List.replicate i 0 ++ UInt8.ofNat (2 ^ k) :: List.replicate (s.length - i - 1) 0) : sum s ≠ sum t := by
  intro he
  have hx := sum_xor s t h
  rw [he, BitVec.xor_self, hd] at hx
  have hm : msg (List.replicate i 0 ++ UInt8.ofNat (2 ^ k) :: List.replicate (s.length - i - 1) 0) =
      List.replicate (8 * i + k) false ++ true :: List.replicate (7 - k + 8 * (s.length - i - 1)) false := by
    have e : msg (List.replicate i 0 ++ UInt8.ofNat (2 ^ k) :: List.replicate (s.length - i - 1) 0) =
        msg (List.replicate i 0) ++ (bitsOf (UInt8.ofNat (2 ^ k)) ++ msg (List.replicate (s.length - i - 1) 0)) := by simp [msg]
    rw [e, msg_zeros, bits_pow k hk, msg_zeros]
    simp only [List.append_assoc, List.cons_append, List.replicate_append_replicate]
    rw [← List.append_assoc, List.replicate_append_replicate]
  rw [hm] at hx
  exact run_single _ _ hx.symm

set_option maxRecDepth 100000 in
/-- Of four texts of one length that are nought when they are added without carry, so are the sums. -/
theorem sum_even (a b c d : List UInt8) (h1 : a.length = b.length) (h2 : c.length = d.length) (hd : List.zipWith (· ^^^ ·) a b = List.zipWith (· ^^^ ·) c d) : sum a ^^^ sum b ^^^ sum c ^^^ sum d = 0#32 := by
  have e : sum a ^^^ sum b ^^^ sum c ^^^ sum d = (sum a ^^^ sum b) ^^^ (sum c ^^^ sum d) := by ac_rfl
  rw [e, sum_xor a b h1, sum_xor c d h2, hd, BitVec.xor_self]
end Go.Proofs.YtajhmgbicliihaaGreatDoor.Crc
/- The document's own answer of layer 2: the bits of bytes, and 32 of nought. -/
namespace Go.Proofs.YtajhmgbicliihaaGreatDoor
open Go.RowKit

set_option maxRecDepth 100000 in
theorem boolInfo : (Tryz.prog.info? 4).map (fun i => (i.zero, i.size, i.bytes)) = some (some (.bool false), 1, 1) := by kernel_rfl

def bools (l : List Bool) : List Value := l.map Value.bool

/-- The call's own slice holds these bits. -/
def BitsAt (w : World) (out : List Bool) (v : Value) (wr : World) : Prop := wr.ownsRow w.heap.size 4 1 v out.length (bools out) ∧ Below w.heap.size w wr

set_option maxRecDepth 100000 in
theorem bits_start (w : World) : BitsAt w [] (.slice none 0 0) w := ⟨World.ownsRow_nil _ _ _ _, Below.refl _ _⟩

set_option maxRecDepth 100000 in
theorem from_own {w : World} {base t size n : Nat} {v : Value} {xs : List Value} (h : w.ownsRow base t size v n xs) : ∀ k, v.ownBlock = some k → base ≤ k := by
  intro k hk
  rcases h.2 with ⟨hv, _⟩ | ⟨g, cap, cur, hv, hb, _⟩
  · rw [hv] at hk; simp [Value.ownBlock] at hk
  · rw [hv] at hk
    have : g = k := by simpa [Value.ownBlock] using hk
    omega

set_option maxRecDepth 100000 in
theorem bits_more {w wr w2 : World} {out : List Bool} {v v' : Value} {o : Obj} {x : Bool} (h : BitsAt w out v wr) (hown : w2.ownsRow w.heap.size 4 1 v' (out.length + 1) (bools out ++ [.bool x])) (hg : (wr.alloc o).grownBy w2 v.ownBlock) :
    BitsAt w (out ++ [x]) v' w2 := by
  obtain ⟨h1, h2⟩ := h
  refine ⟨?_, (h2.alloc h2.size o).grown hg (by have := h2.size; simp; omega) (fun k hk => from_own h1 k hk)⟩
  rw [List.length_append]
  simpa [bools] using hown

set_option maxRecDepth 100000 in
theorem half_bit (x k : Nat) : x.testBit k = ((x / 2 ^ k : Nat) % 2 == 1) := by
  rw [Nat.testBit_eq_decide_div_mod_eq]
  rfl

end Go.Proofs.YtajhmgbicliihaaGreatDoor
