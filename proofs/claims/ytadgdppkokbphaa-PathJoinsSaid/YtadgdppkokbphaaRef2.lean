/- The document's own answer: Second. -/
import Derived.Test.YtadgdppkokbphaaRef
import Derived.WalkSpells
namespace Go.Proofs.Ytadgdppkokbphaa
open Go.RowKit

def SecondIs (t : List UInt8) (k : Nat) (x : Int) (w : World) (e : Ending) (w' : World) : Prop := e = .returned (.tuple #[.string ⟨t.toArray⟩, .int .i64 k, .int .i64 x]) ∧ w = w'

end Go.Proofs.Ytadgdppkokbphaa
