/- Two slices of texts: whether they are one list (the reference's Texts). -/
import Derived.Test.YtenlcadndfbnaaaFrmRef
import Derived.Deep.Slices
import Derived.OwnWalk
namespace Go.Proofs.Ytenlcadndfbnaaa
open Go.RowKit

set_option maxRecDepth 100000 in
theorem Cells.below {w w' : World} {F : Nat → Prop} {v : Value} {us : List Value} (h : Cells w F v us) (k : Below w.heap.size w w') : Cells w' F v us := h.kept (Kept.ofBelow k (fun _ => False)) (fun _ _ h => h)

set_option maxRecDepth 100000 in
theorem below_drews' (w : World) (n : Nat) : Below w.heap.size w (w.drewN n) := ⟨rfl, rfl, rfl, Nat.le_refl _, fun _ _ => rfl⟩

set_option maxRecDepth 100000 in
theorem strInfo : (Try.prog.info? 9).map (fun i => (i.zero, i.size, i.bytes)) = some (some (.string ⟨#[]⟩), 1, 16) := by kernel_rfl

set_option maxRecDepth 100000 in
theorem own_below {w w' : World} {base t size n : Nat} {v : Value} {xs : List Value} (h : w.ownsRow base t size v n xs) (k : Below w.heap.size w w') : w'.ownsRow base t size v n xs :=
  h.kept (Kept.ofBelow k (fun i => i = w.heap.size)).grown (Or.inr (fun e => by have := (h.lt _ e).2; omega))

/-- The call's own slice holds these texts. -/
def TextsOwn (w : World) (out : List (List UInt8)) (v : Value) (wr : World) : Prop := wr.ownsRow w.heap.size 9 1 v out.length (texts out) ∧ Below w.heap.size w wr

set_option maxRecDepth 100000 in
theorem texts_start (w : World) : TextsOwn w [] (.slice none 0 0) w := ⟨World.ownsRow_nil _ _ _ _, Below.refl _ _⟩

set_option maxRecDepth 100000 in
theorem TextsOwn.below {w w1 w2 : World} {out : List (List UInt8)} {v : Value} (h : TextsOwn w out v w1) (k : Below w1.heap.size w1 w2) : TextsOwn w out v w2 := ⟨own_below h.1 k, h.2.trans (k.mono h.2.size)⟩

set_option maxRecDepth 100000 in
theorem texts_more {w wr w2 : World} {out : List (List UInt8)} {v v' : Value} {o : Obj} {x : List UInt8} (h : TextsOwn w out v wr) (hown : w2.ownsRow w.heap.size 9 1 v' (out.length + 1) (texts out ++ [.string (mk x)])) (hg : (wr.alloc o).grownBy w2 v.ownBlock) :
    TextsOwn w (out ++ [x]) v' w2 := by
  obtain ⟨h1, h2⟩ := h
  refine ⟨?_, (h2.alloc h2.size o).grown hg (by have := h2.size; simp; omega) (fun k hk => (h1.lt k hk).1)⟩
  rw [List.length_append]
  simpa [texts] using hown

set_option maxRecDepth 100000 in
theorem TextsOwn.cells {w w' : World} {out : List (List UInt8)} {v : Value} (h : TextsOwn w out v w') : Cells w' (NewIn w w') v (texts out) := Cells.ofOwn h.1 (fun _ _ h1 h2 => ⟨h1, h2⟩)
end Go.Proofs.Ytenlcadndfbnaaa
