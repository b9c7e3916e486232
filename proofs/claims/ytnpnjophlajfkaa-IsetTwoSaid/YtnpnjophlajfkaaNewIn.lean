/- Texts as plain bytes; blocks that came to be between two worlds. No program is spoken of. -/
import Derived.Test.YtnpnjophlajfkaaMem
import Derived.Test.YtnpnjophlajfkaaBytes
import Derived.Deep.QuietTactic
import Derived.BigQuiet
import Derived.Deep.RegionWith
import Derived.WalkSpells
namespace Go.Proofs.Ytnpnjophlajfkaa
open Go.RowKit

def mk (l : List UInt8) : ByteArray := ⟨l.toArray⟩
set_option maxRecDepth 100000 in
theorem mk_data (l : List UInt8) : (mk l).data.toList = l := rfl
set_option maxRecDepth 100000 in
theorem mk_len (l : List UInt8) : (mk l).size = l.length := by rw [Lib.size_eq]; rfl
set_option maxRecDepth 100000 in
theorem mk_of (s : ByteArray) : mk s.data.toList = s := bytes_ext rfl
set_option maxRecDepth 100000 in
theorem mk_append (a b : List UInt8) : mk a ++ mk b = mk (a ++ b) := bytes_ext (by rw [ByteArray.data_append, Array.toList_append]; rfl)

def texts (l : List (List UInt8)) : List Value := l.map fun t => Value.string (mk t)
set_option maxRecDepth 100000 in
theorem texts_len (l : List (List UInt8)) : (texts l).length = l.length := List.length_map _
set_option maxRecDepth 100000 in
theorem texts_at {l : List (List UInt8)} {i : Nat} {t : List UInt8} (h : l[i]? = some t) : (texts l)[i]? = some (.string (mk t)) := by
  unfold texts
  rw [List.getElem?_map, h]; rfl

def NewIn (w w' : World) (k : Nat) : Prop := w.heap.size ≤ k ∧ k < w'.heap.size
end Go.Proofs.Ytnpnjophlajfkaa
