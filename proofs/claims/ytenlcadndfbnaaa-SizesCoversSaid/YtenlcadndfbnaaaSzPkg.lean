/- The package sizes as it landed: it does what layer 8's laws ask of it. -/
import Derived.Test.YtenlcadndfbnaaaSzTop
import Derived.Test.YtenlcadndfbnaaaSzJoin
namespace Go.Proofs.Ytenlcadndfbnaaa
open Go.RowKit

set_option maxRecDepth 100000 in
theorem new_rows {w w' : World} {v : Value} {l : List Sz.Rg} (h : RowsOwn 29 2 rgV w l v w') : Rgs w' (NewIn w w') v l ∧ Below w.heap.size w w' := ⟨h.rows (fun _ _ => rfl), h.2⟩

set_option maxRecDepth 100000 in
theorem sizes_ok : SizesOk where
  norm := fun h hl _ => (sz_norm h (by omega)).mono (fun e w' ⟨v', he, hr⟩ => ⟨v', he, new_rows hr⟩)
  holds := fun n h hl _ _ _ => sz_holds h (by omega) n
  join := fun ha hb la lb _ _ => (sz_join ha hb (by omega) (by omega)).mono (fun e w' ⟨v', he, hr⟩ => ⟨v', he, new_rows hr⟩)
  meet := fun ha hb la lb _ _ => sz_meet ha hb (by omega) (by omega)
  minus := fun ha hb la lb _ _ => sz_minus ha hb (by omega) (by omega)
  covers := fun ha hb la lb _ _ => sz_covers ha hb (by omega) (by omega)
  same := fun ha hb la lb _ _ => sz_same ha hb (by omega) (by omega)
  many := fun h hl _ => sz_many h (by omega)
end Go.Proofs.Ytenlcadndfbnaaa
