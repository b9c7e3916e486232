/- The landed vers: the closure that keeps the newest stamp, Newest. -/
import Derived.Test.YtnpnjophlajfkaaVerSml
set_option linter.unusedSimpArgs false
set_option linter.unusedVariables false
namespace Go.Proofs.Ytnpnjophlajfkaa
open Go.RowKit Go.Sort

abbrev stpC (s : Ver.S) : Array Value := #[.int .i64 s.v.by_, .int .i64 s.v.n, .int .i64 s.time]
set_option maxRecDepth 100000 in
theorem stp_stored {w : World} {b : Nat} {t : TypeId} {cs : Array Value} (h : Row w b t cs) (hs : cs.size = 3) (s : Ver.S) :
    Row (((w.setCell ⟨b, 0, none⟩ (.int .i64 s.v.by_)).setCell ⟨b, 1, none⟩ (.int .i64 s.v.n)).setCell ⟨b, 2, none⟩ (.int .i64 s.time)) b t (stpC s) := by
  have := ((h.stored 0 (.int .i64 s.v.by_)).stored 1 (.int .i64 s.v.n)).stored 2 (.int .i64 s.time)
  obtain ⟨l⟩ := cs
  match l, hs with
  | [a, b, c], _ => exact this
set_option maxRecDepth 100000 in
theorem gb_three {a w : World} {b : Nat} (h : a.grownBy w (some b)) (x y z : Value) : a.grownBy (((w.setCell ⟨b, 0, none⟩ x).setCell ⟨b, 1, none⟩ y).setCell ⟨b, 2, none⟩ z) (some b) := gb_store (gb_store (gb_store h 0 x) 1 y) 2 z
set_option maxRecDepth 100000 in
theorem gb_threeNew {a w : World} {b c : Nat} (h : a.grownBy w (some b)) (hc : a.heap.size ≤ c) (x y z : Value) : a.grownBy (((w.setCell ⟨c, 0, none⟩ x).setCell ⟨c, 1, none⟩ y).setCell ⟨c, 2, none⟩ z) (some b) := gb_storeNew (gb_storeNew (gb_storeNew h (p := ⟨c, 0, none⟩) hc x) (p := ⟨c, 1, none⟩) hc y) (p := ⟨c, 2, none⟩) hc z

/-- The newer one of two. -/
def Ver.newer (m s : Ver.S) : Ver.S := if Ver.Older m s then s else m

end Go.Proofs.Ytnpnjophlajfkaa
