/- The document's own answers: Number, Text, First, Second. -/
import Derived.Test.YtadgdppkokbphaaFrame
import Derived.Test.YtadgdppkokbphaaMath
import Derived.Test.YtadgdppkokbphaaBytes
import Derived.OwnWalk
import Derived.Lib.Hide
import Derived.Laws.BitsAllLaws
namespace Go.Proofs.Ytadgdppkokbphaa
open Go.RowKit

set_option maxRecDepth 100000 in
theorem one_byte (W : World) (g : Nat) (hg : g < 256) :
    (convert 45 9 (.slice (some ⟨W.heap.size, 0, none⟩) 1 1)).run Try.prog (W.alloc (.cells #[.int .u8 (g : Int)] 5)) = .ok (.string ⟨#[UInt8.ofNat g]⟩) (W.alloc (.cells #[.int .u8 (g : Int)] 5)) := by
  refine run_convert_bytes_back (P := Try.prog) _ 45 9 5 ⟨W.heap.size, 0, none⟩ 1 [UInt8.ofNat g] Try.underlying45 Try.underlying5 Try.underlying9 (fun j hj => ?_)
  have hj0 : j = 0 := by simpa using hj
  subst hj0
  have := (Row.made W 5 #[.int .u8 (g : Int)]).at 0
  rw [show (⟨W.heap.size, 0, none⟩ : Addr).add 0 = ⟨W.heap.size, 0, none⟩ from rfl, this]
  simp only [List.getElem_cons_zero, Leb.toNat_ofNat g hg]
  rfl

def RefLoop (w : World) (l : List UInt8) (out : ByteArray) (m : Nat) (wr : World) : Prop :=
  ∃ f, m < 128 ^ (f + 1) ∧ f ≤ 8 ∧ out.data.toList ++ Leb.encF f m = l ∧ Below w.heap.size w wr

def TripleIs (n k : Nat) (x : Int) (w : World) (e : Ending) (w' : World) : Prop := e = .returned (.tuple #[.int .i64 n, .int .i64 k, .int .i64 x]) ∧ w = w'

def FirstRel (l : List UInt8) (k acc p : Nat) : Prop :=
  k ≤ l.length ∧ acc < 128 ^ k ∧ p = 128 ^ (min k 8) ∧ Leb.dec (9 - k) k acc (l.drop k) = Leb.first l

end Go.Proofs.Ytadgdppkokbphaa
