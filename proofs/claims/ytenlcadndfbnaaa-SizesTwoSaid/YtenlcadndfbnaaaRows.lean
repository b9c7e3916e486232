/-
  No cell of these rows narrows 'for every input' (looked for: loops, veiled, ifaces, maps, wideKeys, modest, calm, conditions, laid).
  DERIVED. THE GIVEN ROWS OF THIS SEAT. 3 by the template 'for every input the law returns true; each argument reads behind the call as it read before'; 0 by the template 'total and deterministic' (their statements: YtenlcadndfbnaaaTotals.lean).
  GIVEN WITH THE SEED: the statements are not yours to turn. If you find one false, say at which input.
  Laid BY PROGRAM, IN A SANDBOX (cutbox-rows.mjs): the forced cells as the released guide's own fill.sh prints them over the translation 9ffdf2fb60418d75… (all of the seat's roots in one cut). By AI agents, Wed Nov 11 2026. No macro, syntax, notation, axiom, sorry.
-/
import Derived.Test.YtenlcadndfbnaaaChecked
import GoSem.Claim
import GoSem.ClaimJoined
import GoSem.ClaimMapViews
import Derived.JoinedTies
import Derived.KernelRfl
namespace Go.Proofs.Ytenlcadndfbnaaa
/- THE CELL 'sum', in the pinned program and in every row, IS THE sha256 OF THE DUMP (.gsa) THAT YtenlcadndfbnaaaProg.lean LOADS. Nothing in Lean hashes anything: it is a label: what it is worth is what the hold of that sum in a sandbox is worth. -/
noncomputable def Try.pinned : Pinned := { name := "ytenlcadndfbnaaa", sum := "9ffdf2fb60418d75289ee29ce3c8879da6eb3c50b58c1662585f881f255f1bb1", checked := Try.checked }
namespace Rows
def none {H : Type} : Left H := { results := [], args := [] }

/-- 'lighteragelaw08.SizesForm': WHATEVER THE INPUT: true; the input reads as it did. -/
def sizesFormSpec : ChangeSpec := { name := "sizesForm", fn := fun _ => fun
  | [d1, d2] => { results := [.lit (.bool true)], args := [d1, d2] }
  | _ => none }
def sizesFormRow : OpenClaim := { program := "ytenlcadndfbnaaa", sum := "9ffdf2fb60418d75289ee29ce3c8879da6eb3c50b58c1662585f881f255f1bb1", func := "lighterage/lighteragelaw08.SizesForm", spec := "sizesForm", unfollowed := true, recurses := true, apart := false }
def SizesFormSaid : Prop := sizesFormRow.holds Try.pinned (OpenSpec.ofChange sizesFormSpec)

/-- ITS FALSE NEIGHBOUR: 'it returns false'. Refute it at one input. -/
def sizesFormWrong : ChangeSpec := { name := "sizesForm", fn := fun _ => fun
  | [d1, d2] => { results := [.lit (.bool false)], args := [d1, d2] }
  | _ => none }
def SizesFormWrongFalsely : Prop := sizesFormRow.holds Try.pinned (OpenSpec.ofChange sizesFormWrong)

/-- 'lighteragelaw08.SizesTwo': WHATEVER THE INPUT: true; the input reads as it did. -/
def sizesTwoSpec : ChangeSpec := { name := "sizesTwo", fn := fun _ => fun
  | [d1, d2] => { results := [.lit (.bool true)], args := [d1, d2] }
  | _ => none }
def sizesTwoRow : OpenClaim := { program := "ytenlcadndfbnaaa", sum := "9ffdf2fb60418d75289ee29ce3c8879da6eb3c50b58c1662585f881f255f1bb1", func := "lighterage/lighteragelaw08.SizesTwo", spec := "sizesTwo", unfollowed := true, recurses := true, apart := false }
def SizesTwoSaid : Prop := sizesTwoRow.holds Try.pinned (OpenSpec.ofChange sizesTwoSpec)

/-- ITS FALSE NEIGHBOUR: 'it returns false'. Refute it at one input. -/
def sizesTwoWrong : ChangeSpec := { name := "sizesTwo", fn := fun _ => fun
  | [d1, d2] => { results := [.lit (.bool false)], args := [d1, d2] }
  | _ => none }
def SizesTwoWrongFalsely : Prop := sizesTwoRow.holds Try.pinned (OpenSpec.ofChange sizesTwoWrong)

/-- 'lighteragelaw08.SizesCovers': WHATEVER THE INPUT: true; the input reads as it did. -/
def sizesCoversSpec : ChangeSpec := { name := "sizesCovers", fn := fun _ => fun
  | [d1, d2] => { results := [.lit (.bool true)], args := [d1, d2] }
  | _ => none }
def sizesCoversRow : OpenClaim := { program := "ytenlcadndfbnaaa", sum := "9ffdf2fb60418d75289ee29ce3c8879da6eb3c50b58c1662585f881f255f1bb1", func := "lighterage/lighteragelaw08.SizesCovers", spec := "sizesCovers", unfollowed := true, recurses := true, apart := false }
def SizesCoversSaid : Prop := sizesCoversRow.holds Try.pinned (OpenSpec.ofChange sizesCoversSpec)

/-- ITS FALSE NEIGHBOUR: 'it returns false'. Refute it at one input. -/
def sizesCoversWrong : ChangeSpec := { name := "sizesCovers", fn := fun _ => fun
  | [d1, d2] => { results := [.lit (.bool false)], args := [d1, d2] }
  | _ => none }
def SizesCoversWrongFalsely : Prop := sizesCoversRow.holds Try.pinned (OpenSpec.ofChange sizesCoversWrong)

/- THE SECOND FORM. 'bulk': how many values and letters a reading holds, each counted each time it is reached (what is shared counts as often as it is met; a slice's spare places count too). A statement '..UptoSaid' is the law's where the arguments, and the package variables that the reading takes, are together of bulk at most 1048576: NARROWER than '..Said'. Prove '..Said' where nothing that the law and all that it calls make is longer than what came in: it says more and counts as full. Else prove '..UptoSaid'. A law counts once. -/
mutual
def uptoBulk {H : Type} : DataW H → Nat
  | .lit (.string bytes) => bytes.length + 1
  | .lit _ => 1
  | .nil => 1
  | .ptr d => uptoBulk d + 1
  | .slice elems spare => uptoBulkAll elems + uptoBulkAll spare + 1
  | .agg parts => uptoBulkAll parts + 1
  | .iface _ d => uptoBulk d + 1
  | .map entries => uptoBulkEntries entries + 1
  | .held _ => 1
def uptoBulkAll {H : Type} : List (DataW H) → Nat
  | [] => 0
  | d :: r => uptoBulk d + uptoBulkAll r
def uptoBulkEntries {H : Type} : List (Lit × DataW H) → Nat
  | [] => 0
  | x :: r => uptoBulkEntry x + uptoBulkEntries r
def uptoBulkEntry {H : Type} : Lit × DataW H → Nat
  | (.string bytes, d) => bytes.length + uptoBulk d + 1
  | (_, d) => uptoBulk d + 1
 end
def uptoSmall : (H : Type) → List (DataW H) → Bool := fun _ ds => decide (uptoBulkAll ds ≤ 1048576)
def OpenSpec.upto (s : _root_.Go.ChangeSpec) : _root_.Go.OpenSpec := { _root_.Go.OpenSpec.ofChange s with cond := some uptoSmall }

/-- 'lighteragelaw08.SizesForm', WHERE WHAT IT READS IS OF BULK AT MOST 1048576: true; the input reads as it did. -/
def sizesFormUptoRow : OpenClaim := { program := "ytenlcadndfbnaaa", sum := "9ffdf2fb60418d75289ee29ce3c8879da6eb3c50b58c1662585f881f255f1bb1", func := "lighterage/lighteragelaw08.SizesForm", spec := "sizesForm", unfollowed := true, recurses := true, apart := false, narrowed := true }
def SizesFormUptoSaid : Prop := sizesFormUptoRow.holds Try.pinned (OpenSpec.upto sizesFormSpec)

/-- 'lighteragelaw08.SizesTwo', WHERE WHAT IT READS IS OF BULK AT MOST 1048576: true; the input reads as it did. -/
def sizesTwoUptoRow : OpenClaim := { program := "ytenlcadndfbnaaa", sum := "9ffdf2fb60418d75289ee29ce3c8879da6eb3c50b58c1662585f881f255f1bb1", func := "lighterage/lighteragelaw08.SizesTwo", spec := "sizesTwo", unfollowed := true, recurses := true, apart := false, narrowed := true }
def SizesTwoUptoSaid : Prop := sizesTwoUptoRow.holds Try.pinned (OpenSpec.upto sizesTwoSpec)

/-- 'lighteragelaw08.SizesCovers', WHERE WHAT IT READS IS OF BULK AT MOST 1048576: true; the input reads as it did. -/
def sizesCoversUptoRow : OpenClaim := { program := "ytenlcadndfbnaaa", sum := "9ffdf2fb60418d75289ee29ce3c8879da6eb3c50b58c1662585f881f255f1bb1", func := "lighterage/lighteragelaw08.SizesCovers", spec := "sizesCovers", unfollowed := true, recurses := true, apart := false, narrowed := true }
def SizesCoversUptoSaid : Prop := sizesCoversUptoRow.holds Try.pinned (OpenSpec.upto sizesCoversSpec)

end Rows
end Go.Proofs.Ytenlcadndfbnaaa
