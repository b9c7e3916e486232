/- Words for memory that the other texts of this seat use: a block that is one row of cells and may be written, what draws, new blocks and stores do to it. No program is spoken of. -/
import Derived.Below
import Derived.Laws.OwnMore
import Derived.Deep.Draws
import Derived.Laws.Rows
import Derived.OneCell
import Derived.OwnWalk
namespace Go.Proofs.Ytnpnjophlajfkaa
open Go.RowKit

/-- Block b is the row cs of type t, writable. -/
def Row (w : World) (b : Nat) (t : TypeId) (cs : Array Value) : Prop := w.heap[b]? = some (Obj.cells cs t (0, 0))

section
variable {w w' : World} {b : Nat} {t : TypeId} {cs : Array Value}

set_option maxRecDepth 100000 in
theorem Row.inHeap (h : Row w b t cs) : b < w.heap.size := lt_of_block h

set_option maxRecDepth 100000 in
theorem Row.at (h : Row w b t cs) (i : Nat) : w.cell? ⟨b, i, none⟩ = cs[i]? := cell_of_row w b i cs t (0, 0) h

set_option maxRecDepth 100000 in
theorem Row.free (h : Row w b t cs) (i : Nat) : w.frozen? ⟨b, i, none⟩ = false := by
  have h' : w.heap[b]? = some (Obj.cells cs t (0, 0)) := h
  simp only [World.frozen?, h']
  simp

set_option maxRecDepth 100000 in
theorem Row.made (w : World) (t : TypeId) (cs : Array Value) : Row (w.alloc (.cells cs t)) w.heap.size t cs := heap_alloc_new w _

set_option maxRecDepth 100000 in
theorem Row.behindDraw (h : Row w b t cs) : Row w.drew b t cs := h
set_option maxRecDepth 100000 in
theorem Row.behindDraws (h : Row w b t cs) (n : Nat) : Row (w.drewN n) b t cs := h

set_option maxRecDepth 100000 in
theorem Row.behindNew (h : Row w b t cs) (o : Obj) : Row (w.alloc o) b t cs := (Below.heap_alloc w o b h.inHeap).trans h

set_option maxRecDepth 100000 in
theorem Row.stored (h : Row w b t cs) (i : Nat) (u : Value) : Row (w.setCell ⟨b, i, none⟩ u) b t (cs.setIfInBounds i u) := by
  have h' : w.heap[b]? = some (Obj.cells cs t (0, 0)) := h
  show (w.heap.modify b _)[b]? = _
  rw [Array.getElem?_modify, if_pos rfl, h']
  simp

set_option maxRecDepth 100000 in
theorem Row.storedElsewhere (h : Row w b t cs) {p : Addr} (hp : p.block ≠ b) (u : Value) : Row (w.setCell p u) b t cs :=
  (Below.heap_setCell w p u b (fun e => hp e.symm)).trans h

set_option maxRecDepth 100000 in
theorem Row.below {B : Nat} (h : Row w b t cs) (hb : Below B w w') (hB : b < B) : Row w' b t cs := (hb.block b hB).trans h

set_option maxRecDepth 100000 in
theorem Row.grown {row : Option Nat} (h : Row w b t cs) (hg : w.grownBy w' row) (hne : row ≠ some b) : Row w' b t cs :=
  (hg.block b h.inHeap (fun e => hne e.symm)).trans h
end

/-! ### Only block b, and what is new, has turned -/
section
variable {a w w' : World} {b : Nat}

set_option maxRecDepth 100000 in
theorem gb_refl (w : World) (r : Option Nat) : w.grownBy w r := ⟨rfl, rfl, rfl, Nat.le_refl _, fun _ _ _ => rfl⟩
set_option maxRecDepth 100000 in
theorem gb_trans {r : Option Nat} (h : a.grownBy w r) (k : w.grownBy w' r) : a.grownBy w' r :=
  ⟨k.os.trans h.os, k.tape.trans h.tape, k.output.trans h.output, Nat.le_trans h.size k.size, fun i hi hn => (k.block i (Nat.lt_of_lt_of_le hi h.size) hn).trans (h.block i hi hn)⟩
set_option maxRecDepth 100000 in
theorem gb_draws {r : Option Nat} (h : a.grownBy w r) (n : Nat) : a.grownBy (w.drewN n) r := ⟨h.os, h.tape, h.output, h.size, h.block⟩
set_option maxRecDepth 100000 in
theorem gb_draw {r : Option Nat} (h : a.grownBy w r) : a.grownBy w.drew r := ⟨h.os, h.tape, h.output, h.size, h.block⟩
set_option maxRecDepth 100000 in
theorem gb_new {r : Option Nat} (h : a.grownBy w r) (o : Obj) : a.grownBy (w.alloc o) r :=
  gb_trans h ⟨rfl, rfl, rfl, by simp, fun i hi _ => Below.heap_alloc w o i hi⟩
set_option maxRecDepth 100000 in
theorem gb_store (h : a.grownBy w (some b)) (i : Nat) (u : Value) : a.grownBy (w.setCell ⟨b, i, none⟩ u) (some b) :=
  gb_trans h ⟨rfl, rfl, rfl, by simp [World.setCell], fun k _ hn => Below.heap_setCell w _ u k (fun e => hn (by rw [e]))⟩
set_option maxRecDepth 100000 in
theorem gb_storeNew (h : a.grownBy w (some b)) {p : Addr} (hp : a.heap.size ≤ p.block) (u : Value) : a.grownBy (w.setCell p u) (some b) :=
  ⟨h.os, h.tape, h.output, by simpa [World.setCell] using h.size, fun k hk hn => (Below.heap_setCell w p u k (by omega)).trans (h.block k hk hn)⟩
set_option maxRecDepth 100000 in
theorem gb_below (h : Below a.heap.size a w) (r : Option Nat) : a.grownBy w r := ⟨h.os, h.tape, h.output, h.size, fun i hi _ => h.block i hi⟩
set_option maxRecDepth 100000 in
theorem below_gb {B : Nat} (h : a.grownBy w (some b)) (hB : B ≤ b) (hA : B ≤ a.heap.size) : Below B a w :=
  ⟨h.os, h.tape, h.output, h.size, fun k hk => h.block k (by omega) (fun e => by injection e with e; omega)⟩
end
end Go.Proofs.Ytnpnjophlajfkaa
