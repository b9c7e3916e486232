/- What the package frame is to answer (FrameOk); two lists that are one; lists that are not far too long; a list that came in. -/
import Derived.Test.YtadgdppkokbphaaFrmRef3
import Derived.Test.YtadgdppkokbphaaTexts
import Derived.Test.YtadgdppkokbphaaFrame
import Derived.Deep.Slices
namespace Go.Proofs.Ytadgdppkokbphaa
open Go.ChangeShapes Go.WideShapes Go.ChangeAt Go.RowKit Go.Deep

/-- What the package is to answer. -/
structure FrameOk : Prop where
/-- Records that are not far too long. -/
def Light (l : List (List UInt8)) : Prop := (∀ t ∈ l, t.length ≤ 300) ∧ l.length ≤ 40
instance (l : List (List UInt8)) : Decidable (Light l) := inferInstanceAs (Decidable (_ ∧ _))

end Go.Proofs.Ytadgdppkokbphaa
