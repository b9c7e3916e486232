/- Small laws on bytes. No program is spoken of. -/
import Derived.Test.YtnpnjophlajfkaaBase
import Derived.WalkKit
import Derived.Lib.Strings
namespace Go.Proofs.Ytnpnjophlajfkaa
open Go.RowKit

set_option maxRecDepth 100000 in
theorem cut_data (r : ByteArray) (k : Nat) : (r.extract k r.size).data.toList = r.data.toList.drop k := by
  rw [Lib.extract_data]
  exact List.take_of_length_le (by rw [List.length_drop, Lib.size_eq]; exact Nat.le_refl _)

set_option maxRecDepth 100000 in
theorem bytes_ext {a b : ByteArray} (h : a.data.toList = b.data.toList) : a = b := ByteArray.ext (Array.toList_inj.1 h)

set_option maxRecDepth 100000 in
theorem cut_cut (r : ByteArray) (k j : Nat) : (r.extract k r.size).extract j (r.extract k r.size).size = r.extract (k + j) r.size :=
  bytes_ext (by rw [cut_data, cut_data, cut_data, List.drop_drop])

set_option maxRecDepth 100000 in
theorem at_data (r : ByteArray) (h : 0 < r.size) {c : UInt8} (hc : r.data.toList[0]? = some c) : r[0]'h = c := by
  obtain ⟨hl, he⟩ := List.getElem?_eq_some_iff.1 hc
  rw [← he, Array.getElem_toList]
  rfl

set_option maxRecDepth 100000 in
theorem mk_size (l : List UInt8) : (⟨l.toArray⟩ : ByteArray).size = l.length := by rw [Lib.size_eq]
end Go.Proofs.Ytnpnjophlajfkaa
