/- The document's own answer of layer 2: the bits of bytes, and 32 of nought. -/
import Derived.Test.YtenlcadndfbnaaaFrame
import Derived.Test.YtenlcadndfbnaaaBase
import Derived.Test.YtenlcadndfbnaaaCrcMath
import Derived.OwnWalk
import Derived.Lib.Hide
import Derived.Lib.Strings
namespace Go.Proofs.Ytenlcadndfbnaaa
open Go.RowKit

set_option maxRecDepth 100000 in
theorem boolInfo : (Try.prog.info? 4).map (fun i => (i.zero, i.size, i.bytes)) = some (some (.bool false), 1, 1) := by kernel_rfl

def bools (l : List Bool) : List Value := l.map Value.bool

/-- The call's own slice holds these bits. -/
def BitsAt (w : World) (out : List Bool) (v : Value) (wr : World) : Prop := wr.ownsRow w.heap.size 4 1 v out.length (bools out) ∧ Below w.heap.size w wr

set_option maxRecDepth 100000 in
theorem bits_start (w : World) : BitsAt w [] (.slice none 0 0) w := ⟨World.ownsRow_nil _ _ _ _, Below.refl _ _⟩

set_option maxRecDepth 100000 in
theorem from_own {w : World} {base t size n : Nat} {v : Value} {xs : List Value} (h : w.ownsRow base t size v n xs) : ∀ k, v.ownBlock = some k → base ≤ k := by
  intro k hk
  rcases h.2 with ⟨hv, _⟩ | ⟨g, cap, cur, hv, hb, _⟩
  · rw [hv] at hk; simp [Value.ownBlock] at hk
  · rw [hv] at hk
    have : g = k := by simpa [Value.ownBlock] using hk
    omega

set_option maxRecDepth 100000 in
theorem bits_more {w wr w2 : World} {out : List Bool} {v v' : Value} {o : Obj} {x : Bool} (h : BitsAt w out v wr) (hown : w2.ownsRow w.heap.size 4 1 v' (out.length + 1) (bools out ++ [.bool x])) (hg : (wr.alloc o).grownBy w2 v.ownBlock) :
    BitsAt w (out ++ [x]) v' w2 := by
  obtain ⟨h1, h2⟩ := h
  refine ⟨?_, (h2.alloc h2.size o).grown hg (by have := h2.size; simp; omega) (fun k hk => from_own h1 k hk)⟩
  rw [List.length_append]
  simpa [bools] using hown

set_option maxRecDepth 100000 in
theorem half_bit (x k : Nat) : x.testBit k = ((x / 2 ^ k : Nat) % 2 == 1) := by
  rw [Nat.testBit_eq_decide_div_mod_eq]
  rfl

end Go.Proofs.Ytenlcadndfbnaaa
