/- Words for memory with footprints: what a call may write is a set of blocks; slices that read as lists. No program is spoken of. -/
import Derived.Test.YtnpnjophlajfkaaBase
import Derived.Deep.AppendLies
import Derived.Laws.AppendOwn
import Derived.Lib.Hide
namespace Go.Proofs.Ytnpnjophlajfkaa
open Go.RowKit

/-- Of what was there, only blocks of F may have turned. -/
structure Kept (F : Nat → Prop) (w w' : World) : Prop where
  os : w'.os = w.os
  tape : w'.tape = w.tape
  output : w'.output = w.output
  size : w.heap.size ≤ w'.heap.size
  block : ∀ k, k < w.heap.size → ¬ F k → w'.heap[k]? = w.heap[k]?

/-- A set of blocks, and all that came to be between two worlds. -/
def Grow (F : Nat → Prop) (w w' : World) (k : Nat) : Prop := F k ∨ (w.heap.size ≤ k ∧ k < w'.heap.size)

section
variable {F G : Nat → Prop} {a b c w w' : World}

set_option maxRecDepth 100000 in
theorem Kept.refl (F : Nat → Prop) (w : World) : Kept F w w := ⟨rfl, rfl, rfl, Nat.le_refl _, fun _ _ _ => rfl⟩

set_option maxRecDepth 100000 in
/-- Two steps, the second one of which may write what came to be in the first. -/
theorem Kept.trans (h : Kept F a b) (k : Kept G b c) (hG : ∀ i, i < a.heap.size → G i → F i) : Kept F a c :=
  ⟨k.os.trans h.os, k.tape.trans h.tape, k.output.trans h.output, Nat.le_trans h.size k.size, fun i hi hn => (k.block i (Nat.lt_of_lt_of_le hi h.size) (fun hg => hn (hG i hi hg))).trans (h.block i hi hn)⟩

set_option maxRecDepth 100000 in
theorem Kept.mono (h : Kept F a b) (hF : ∀ i, F i → G i) : Kept G a b := ⟨h.os, h.tape, h.output, h.size, fun i hi hn => h.block i hi (fun hf => hn (hF i hf))⟩

set_option maxRecDepth 100000 in
theorem Kept.ofBelow (h : Below a.heap.size a b) (F : Nat → Prop) : Kept F a b := ⟨h.os, h.tape, h.output, h.size, fun i hi _ => h.block i hi⟩

set_option maxRecDepth 100000 in
theorem Kept.ofGrown {r : Option Nat} (h : a.grownBy b r) (hr : ∀ i, r = some i → F i) : Kept F a b := ⟨h.os, h.tape, h.output, h.size, fun i hi hn => h.block i hi (fun e => hn (hr i e.symm))⟩

set_option maxRecDepth 100000 in
theorem Kept.grown {i : Nat} (h : Kept (fun k => k = i) a b) : a.grownBy b (some i) := ⟨h.os, h.tape, h.output, h.size, fun k hk hn => h.block k hk (fun e => hn (by rw [e]))⟩

set_option maxRecDepth 100000 in
theorem Kept.below (h : Kept F a b) {B : Nat} (hB : B ≤ a.heap.size) (hF : ∀ i, F i → B ≤ i) : Below B a b := ⟨h.os, h.tape, h.output, h.size, fun i hi => h.block i (by omega) (fun hf => by have := hF i hf; omega)⟩

set_option maxRecDepth 100000 in
theorem Kept.drew (h : Kept F a b) : Kept F a b.drew := ⟨h.os, h.tape, h.output, h.size, h.block⟩

set_option maxRecDepth 100000 in
theorem Kept.alloc (h : Kept F a b) (o : Obj) : Kept F a (b.alloc o) :=
  h.trans (G := F) ⟨rfl, rfl, rfl, by simp, fun i hi _ => Below.heap_alloc b o i hi⟩ (fun _ _ h => h)

set_option maxRecDepth 100000 in
theorem Kept.stored (h : Kept F a b) {p : Addr} (hp : F p.block ∨ a.heap.size ≤ p.block) (u : Value) : Kept F a (b.setCell p u) :=
  ⟨h.os, h.tape, h.output, by simpa [World.setCell] using h.size, fun i hi hn => by
    rcases hp with hp | hp
    · exact (Below.heap_setCell b p u i (fun e => hn (by rw [e]; exact hp))).trans (h.block i hi hn)
    · exact (Below.heap_setCell b p u i (by omega)).trans (h.block i hi hn)⟩

set_option maxRecDepth 100000 in
theorem Grow.old {k : Nat} (h : F k) : Grow F a b k := Or.inl h
set_option maxRecDepth 100000 in
theorem Grow.lt {k : Nat} (h : Grow F a b k) (hF : ∀ k, F k → k < a.heap.size) (hs : a.heap.size ≤ b.heap.size) : k < b.heap.size := by
  rcases h with h | h
  · exact Nat.lt_of_lt_of_le (hF k h) hs
  · exact h.2
set_option maxRecDepth 100000 in
theorem Grow.trans {k : Nat} (h : Grow (Grow F a b) b c k) (hab : a.heap.size ≤ b.heap.size) (hbc : b.heap.size ≤ c.heap.size) : Grow F a c k := by
  rcases h with (h | h) | h
  · exact Or.inl h
  · exact Or.inr ⟨h.1, by omega⟩
  · exact Or.inr ⟨by omega, h.2⟩
set_option maxRecDepth 100000 in
theorem Grow.within {k : Nat} (h : Grow F a b k) (hbc : b.heap.size ≤ c.heap.size) : Grow F a c k := by
  rcases h with h | h
  · exact Or.inl h
  · exact Or.inr ⟨h.1, by omega⟩
set_option maxRecDepth 100000 in
theorem Grow.later {k : Nat} (h : Grow F b c k) (hab : a.heap.size ≤ b.heap.size) : Grow F a c k := by
  rcases h with h | h
  · exact Or.inl h
  · exact Or.inr ⟨by omega, h.2⟩

set_option maxRecDepth 100000 in
/-- Whoever has no block of F finds its own as they were. -/
theorem Kept.same (h : Kept F w w') {k : Nat} (hk : k < w.heap.size) (hn : ¬ F k) : w'.heap[k]? = w.heap[k]? := h.block k hk hn

set_option maxRecDepth 100000 in
theorem Kept.cell (h : Kept F w w') {p : Addr} (hk : p.block < w.heap.size) (hn : ¬ F p.block) : w'.cell? p = w.cell? p := World.cell?_of_block (w := w) (h.block p.block hk hn)

set_option maxRecDepth 100000 in
theorem Row.kept {t : TypeId} {i : Nat} {cs : Array Value} (hr : Row w i t cs) (h : Kept F w w') (hn : ¬ F i) : Row w' i t cs := (h.block i hr.inHeap hn).trans hr
end

/-! ### Slices of one cell each -/

/-- The slice value v reads as us, out of blocks of F. -/
def Cells (w : World) (F : Nat → Prop) (v : Value) (us : List Value) : Prop :=
  ∃ A cap, v = .slice A us.length cap ∧ us.length ≤ cap ∧ (0 < us.length → ∃ b o, A = some ⟨b, o, none⟩ ∧ F b ∧ b < w.heap.size ∧ ∀ i u, us[i]? = some u → w.cell? ⟨b, o + i, none⟩ = some u)

section
variable {F G : Nat → Prop} {w w' : World} {v : Value} {us : List Value}

set_option maxRecDepth 100000 in
theorem Cells.none (w : World) (F : Nat → Prop) : Cells w F (.slice none 0 0) [] := ⟨Option.none, 0, rfl, Nat.le_refl _, fun h => absurd h (by simp)⟩

set_option maxRecDepth 100000 in
theorem Cells.kept (h : Cells w F v us) (k : Kept G w w') (hd : ∀ i, F i → ¬ G i) : Cells w' F v us := by
  obtain ⟨A, cap, h1, h2, h3⟩ := h
  refine ⟨A, cap, h1, h2, fun hp => ?_⟩
  obtain ⟨b, o, e, hb, hl, hc⟩ := h3 hp
  exact ⟨b, o, e, hb, Nat.lt_of_lt_of_le hl k.size, fun i u hu => (k.cell (p := ⟨b, o + i, Option.none⟩) hl (hd b hb)).trans (hc i u hu)⟩

set_option maxRecDepth 100000 in
theorem Cells.mono (h : Cells w F v us) (hF : ∀ i, F i → G i) : Cells w G v us := by
  obtain ⟨A, cap, h1, h2, h3⟩ := h
  refine ⟨A, cap, h1, h2, fun hp => ?_⟩
  obtain ⟨b, o, e, hb, r⟩ := h3 hp
  exact ⟨b, o, e, hF b hb, r⟩

set_option maxRecDepth 100000 in
theorem Cells.ofOwn {base t n : Nat} (h : w.ownsRow base t 1 v n us) (hF : ∀ b, v.ownBlock = some b → base ≤ b → b < w.heap.size → F b) : Cells w F v us := by
  have hn : us.length = n := by rw [h.1, Nat.mul_one]
  subst hn
  rcases h.2 with ⟨hv, h0⟩ | ⟨g, cap, cur, hv, hb, hg, hc, hm, hs, ht⟩
  · rw [hv]
    have : us = [] := List.eq_nil_of_length_eq_zero h0
    rw [this]
    exact Cells.none _ _
  · refine ⟨some ⟨g, 0, Option.none⟩, cap, hv, hc, fun _ => ⟨g, 0, rfl, hF g (by rw [hv]; rfl) hb (lt_of_block hg), lt_of_block hg, fun i u hu => ?_⟩⟩
    rw [cell_of_row w g _ cur t (0, 0) hg, Nat.zero_add]
    rw [← ht, List.getElem?_take] at hu
    split at hu
    · rw [Array.getElem?_toList] at hu; exact hu
    · cases hu
end
end Go.Proofs.Ytnpnjophlajfkaa
