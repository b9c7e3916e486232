/- The document's own answers of layer 4: First. -/
import Derived.Test.YtadgdppkokbphaaFrmRef
import Derived.Test.YtadgdppkokbphaaRef2
import Derived.Test.YtadgdppkokbphaaRegion
namespace Go.Proofs.Ytadgdppkokbphaa
open Go.RowKit

def FirstIs (t : List UInt8) (n : Nat) (x : Int) (w : World) (e : Ending) (w' : World) : Prop := e = .returned (.tuple #[.string (mk t), .int .i64 n, .int .i64 x]) ∧ Below w.heap.size w w'

set_option maxRecDepth 100000 in
theorem mk_inj {a b : List UInt8} (h : mk a = mk b) : a = b := by rw [← mk_data a, h, mk_data]

set_option maxRecDepth 100000 in
/-- What the text at the front says, where there is none. -/
theorem second_bad (s : List UInt8) (h : (Leb.second s).2.2 ≠ 0) : (Leb.second s).1 = [] ∧ (Leb.second s).2.1 = 0 := by
  unfold Leb.second at h ⊢
  split
  · split
    · exact ⟨rfl, rfl⟩
    · rename_i h1 h2
      rw [if_pos h1, if_neg h2] at h
      exact absurd rfl h
  · exact ⟨rfl, rfl⟩

end Go.Proofs.Ytadgdppkokbphaa
