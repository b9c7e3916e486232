/- The document's own answers of layer 4: One, All, First, Read; two slices that read as one list of texts. -/
import Derived.Test.YtenlcadndfbnaaaFrmMath
import Derived.Test.YtenlcadndfbnaaaRef
import Derived.Test.YtenlcadndfbnaaaMem
import Derived.Deep.QuietTactic
import Derived.BigQuiet
import Derived.Deep.RegionWith
import Derived.WalkSpells
namespace Go.Proofs.Ytenlcadndfbnaaa
open Go.RowKit

def mk (l : List UInt8) : ByteArray := ⟨l.toArray⟩
set_option maxRecDepth 100000 in
theorem mk_data (l : List UInt8) : (mk l).data.toList = l := rfl
set_option maxRecDepth 100000 in
theorem mk_len (l : List UInt8) : (mk l).size = l.length := by rw [Lib.size_eq]; rfl
set_option maxRecDepth 100000 in
theorem mk_of (s : ByteArray) : mk s.data.toList = s := bytes_ext rfl
set_option maxRecDepth 100000 in
theorem mk_append (a b : List UInt8) : mk a ++ mk b = mk (a ++ b) := bytes_ext (by rw [ByteArray.data_append, Array.toList_append]; rfl)

def texts (l : List (List UInt8)) : List Value := l.map fun t => Value.string (mk t)
set_option maxRecDepth 100000 in
theorem texts_len (l : List (List UInt8)) : (texts l).length = l.length := List.length_map _
set_option maxRecDepth 100000 in
theorem texts_at {l : List (List UInt8)} {i : Nat} {t : List UInt8} (h : l[i]? = some t) : (texts l)[i]? = some (.string (mk t)) := by
  unfold texts
  rw [List.getElem?_map, h]; rfl

def NewIn (w w' : World) (k : Nat) : Prop := w.heap.size ≤ k ∧ k < w'.heap.size

set_option maxRecDepth 100000 in
theorem all_len (l : List (List UInt8)) (h : ∀ t ∈ l, t.length ≤ 100000) : (Frm.all l).length ≤ l.length * 100013 := by
  induction l with
  | nil => exact Nat.le_refl _
  | cons t l ih =>
    have h1 := ih (fun x hx => h x (by simp [hx]))
    have h2 := h t (by simp)
    have h3 := (Leb.enc_len t.length).2
    rw [Frm.all_cons, List.length_append, Frm.one_len, List.length_cons]
    omega

end Go.Proofs.Ytenlcadndfbnaaa
