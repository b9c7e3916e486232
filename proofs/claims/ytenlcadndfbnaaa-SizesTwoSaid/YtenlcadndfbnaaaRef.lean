/- The document's own answers: Number, Text, First, Second. -/
import Derived.Test.YtenlcadndfbnaaaFrame
import Derived.Test.YtenlcadndfbnaaaMath
import Derived.Test.YtenlcadndfbnaaaBytes
import Derived.OwnWalk
import Derived.Lib.Hide
import Derived.Laws.BitsAllLaws
namespace Go.Proofs.Ytenlcadndfbnaaa
open Go.RowKit

def RefLoop (w : World) (l : List UInt8) (out : ByteArray) (m : Nat) (wr : World) : Prop :=
  ∃ f, m < 128 ^ (f + 1) ∧ f ≤ 8 ∧ out.data.toList ++ Leb.encF f m = l ∧ Below w.heap.size w wr

def TripleIs (n k : Nat) (x : Int) (w : World) (e : Ending) (w' : World) : Prop := e = .returned (.tuple #[.int .i64 n, .int .i64 k, .int .i64 x]) ∧ w = w'

def FirstRel (l : List UInt8) (k acc p : Nat) : Prop :=
  k ≤ l.length ∧ acc < 128 ^ k ∧ p = 128 ^ (min k 8) ∧ Leb.dec (9 - k) k acc (l.drop k) = Leb.first l

end Go.Proofs.Ytenlcadndfbnaaa
