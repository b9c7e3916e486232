/-
  No cell of these rows narrows 'for every input' (looked for: loops, veiled, ifaces, maps, wideKeys, modest, calm, conditions, laid).
  DERIVED. THE GIVEN ROWS OF THIS SEAT. 4 by the template 'for every input the law returns true; each argument reads behind the call as it read before'; 0 by the template 'total and deterministic' (their statements: YtpmcjanfgamkoaaTotals.lean).
  GIVEN WITH THE SEED: the statements are not yours to turn. If you find one false, say at which input.
  Laid BY PROGRAM, IN A SANDBOX (cutbox-rows.mjs): the forced cells as the released guide's own fill.sh prints them over the translation 21797c64765b85c5… (all of the seat's roots in one cut). By AI agents, Wed Nov 11 2026. No macro, syntax, notation, axiom, sorry.
-/
import Derived.Test.YtpmcjanfgamkoaaChecked
import GoSem.Claim
import GoSem.ClaimJoined
import GoSem.ClaimMapViews
import Derived.JoinedTies
import Derived.KernelRfl
namespace Go.Proofs.Ytpmcjanfgamkoaa
/- THE CELL 'sum', in the pinned program and in every row, IS THE sha256 OF THE DUMP (.gsa) THAT YtpmcjanfgamkoaaProg.lean LOADS. Nothing in Lean hashes anything: it is a label: what it is worth is what the hold of that sum in a sandbox is worth. -/
noncomputable def Try.pinned : Pinned := { name := "ytpmcjanfgamkoaa", sum := "21797c64765b85c5b9357f780e8f4bb9e392ad0a701c65618cceeea818f42fe1", checked := Try.checked }
namespace Rows
def none {H : Type} : Left H := { results := [], args := [] }

/-- 'lighteragelaw12.VersChecks': WHATEVER THE INPUT: true; the input reads as it did. -/
def versChecksSpec : ChangeSpec := { name := "versChecks", fn := fun _ => fun
  | [d] => { results := [.lit (.bool true)], args := [d] }
  | _ => none }
def versChecksRow : OpenClaim := { program := "ytpmcjanfgamkoaa", sum := "21797c64765b85c5b9357f780e8f4bb9e392ad0a701c65618cceeea818f42fe1", func := "lighterage/lighteragelaw12.VersChecks", spec := "versChecks", unfollowed := true, recurses := true, apart := false }
def VersChecksSaid : Prop := versChecksRow.holds Try.pinned (OpenSpec.ofChange versChecksSpec)

/-- ITS FALSE NEIGHBOUR: 'it returns false'. Refute it at one input. -/
def versChecksWrong : ChangeSpec := { name := "versChecks", fn := fun _ => fun
  | [d] => { results := [.lit (.bool false)], args := [d] }
  | _ => none }
def VersChecksWrongFalsely : Prop := versChecksRow.holds Try.pinned (OpenSpec.ofChange versChecksWrong)

/-- 'lighteragelaw12.VersOrder': WHATEVER THE INPUT: true; the input reads as it did. -/
def versOrderSpec : ChangeSpec := { name := "versOrder", fn := fun _ => fun
  | [d] => { results := [.lit (.bool true)], args := [d] }
  | _ => none }
def versOrderRow : OpenClaim := { program := "ytpmcjanfgamkoaa", sum := "21797c64765b85c5b9357f780e8f4bb9e392ad0a701c65618cceeea818f42fe1", func := "lighterage/lighteragelaw12.VersOrder", spec := "versOrder", unfollowed := true, recurses := true, apart := false }
def VersOrderSaid : Prop := versOrderRow.holds Try.pinned (OpenSpec.ofChange versOrderSpec)

/-- ITS FALSE NEIGHBOUR: 'it returns false'. Refute it at one input. -/
def versOrderWrong : ChangeSpec := { name := "versOrder", fn := fun _ => fun
  | [d] => { results := [.lit (.bool false)], args := [d] }
  | _ => none }
def VersOrderWrongFalsely : Prop := versOrderRow.holds Try.pinned (OpenSpec.ofChange versOrderWrong)

/-- 'lighteragelaw12.VersSorts': WHATEVER THE INPUT: true; the input reads as it did. -/
def versSortsSpec : ChangeSpec := { name := "versSorts", fn := fun _ => fun
  | [d1, d2, d3] => { results := [.lit (.bool true)], args := [d1, d2, d3] }
  | _ => none }
def versSortsRow : OpenClaim := { program := "ytpmcjanfgamkoaa", sum := "21797c64765b85c5b9357f780e8f4bb9e392ad0a701c65618cceeea818f42fe1", func := "lighterage/lighteragelaw12.VersSorts", spec := "versSorts", unfollowed := true, recurses := true, apart := false }
def VersSortsSaid : Prop := versSortsRow.holds Try.pinned (OpenSpec.ofChange versSortsSpec)

/-- ITS FALSE NEIGHBOUR: 'it returns false'. Refute it at one input. -/
def versSortsWrong : ChangeSpec := { name := "versSorts", fn := fun _ => fun
  | [d1, d2, d3] => { results := [.lit (.bool false)], args := [d1, d2, d3] }
  | _ => none }
def VersSortsWrongFalsely : Prop := versSortsRow.holds Try.pinned (OpenSpec.ofChange versSortsWrong)

/-- 'lighteragelaw12.VersNext': WHATEVER THE INPUT: true; the input reads as it did. -/
def versNextSpec : ChangeSpec := { name := "versNext", fn := fun _ => fun
  | [d1, d2] => { results := [.lit (.bool true)], args := [d1, d2] }
  | _ => none }
def versNextRow : OpenClaim := { program := "ytpmcjanfgamkoaa", sum := "21797c64765b85c5b9357f780e8f4bb9e392ad0a701c65618cceeea818f42fe1", func := "lighterage/lighteragelaw12.VersNext", spec := "versNext", unfollowed := true, recurses := true, apart := false }
def VersNextSaid : Prop := versNextRow.holds Try.pinned (OpenSpec.ofChange versNextSpec)

/-- ITS FALSE NEIGHBOUR: 'it returns false'. Refute it at one input. -/
def versNextWrong : ChangeSpec := { name := "versNext", fn := fun _ => fun
  | [d1, d2] => { results := [.lit (.bool false)], args := [d1, d2] }
  | _ => none }
def VersNextWrongFalsely : Prop := versNextRow.holds Try.pinned (OpenSpec.ofChange versNextWrong)

/- THE SECOND FORM. 'bulk': how many values and letters a reading holds, each counted each time it is reached (what is shared counts as often as it is met; a slice's spare places count too). A statement '..UptoSaid' is the law's where the arguments, and the package variables that the reading takes, are together of bulk at most 1048576: NARROWER than '..Said'. Prove '..Said' where nothing that the law and all that it calls make is longer than what came in: it says more and counts as full. Else prove '..UptoSaid'. A law counts once. -/
mutual
def uptoBulk {H : Type} : DataW H → Nat
  | .lit (.string bytes) => bytes.length + 1
  | .lit _ => 1
  | .nil => 1
  | .ptr d => uptoBulk d + 1
  | .slice elems spare => uptoBulkAll elems + uptoBulkAll spare + 1
  | .agg parts => uptoBulkAll parts + 1
  | .iface _ d => uptoBulk d + 1
  | .map entries => uptoBulkEntries entries + 1
  | .held _ => 1
def uptoBulkAll {H : Type} : List (DataW H) → Nat
  | [] => 0
  | d :: r => uptoBulk d + uptoBulkAll r
def uptoBulkEntries {H : Type} : List (Lit × DataW H) → Nat
  | [] => 0
  | x :: r => uptoBulkEntry x + uptoBulkEntries r
def uptoBulkEntry {H : Type} : Lit × DataW H → Nat
  | (.string bytes, d) => bytes.length + uptoBulk d + 1
  | (_, d) => uptoBulk d + 1
 end
def uptoSmall : (H : Type) → List (DataW H) → Bool := fun _ ds => decide (uptoBulkAll ds ≤ 1048576)
def OpenSpec.upto (s : _root_.Go.ChangeSpec) : _root_.Go.OpenSpec := { _root_.Go.OpenSpec.ofChange s with cond := some uptoSmall }

/-- 'lighteragelaw12.VersChecks', WHERE WHAT IT READS IS OF BULK AT MOST 1048576: true; the input reads as it did. -/
def versChecksUptoRow : OpenClaim := { program := "ytpmcjanfgamkoaa", sum := "21797c64765b85c5b9357f780e8f4bb9e392ad0a701c65618cceeea818f42fe1", func := "lighterage/lighteragelaw12.VersChecks", spec := "versChecks", unfollowed := true, recurses := true, apart := false, narrowed := true }
def VersChecksUptoSaid : Prop := versChecksUptoRow.holds Try.pinned (OpenSpec.upto versChecksSpec)

/-- 'lighteragelaw12.VersOrder', WHERE WHAT IT READS IS OF BULK AT MOST 1048576: true; the input reads as it did. -/
def versOrderUptoRow : OpenClaim := { program := "ytpmcjanfgamkoaa", sum := "21797c64765b85c5b9357f780e8f4bb9e392ad0a701c65618cceeea818f42fe1", func := "lighterage/lighteragelaw12.VersOrder", spec := "versOrder", unfollowed := true, recurses := true, apart := false, narrowed := true }
def VersOrderUptoSaid : Prop := versOrderUptoRow.holds Try.pinned (OpenSpec.upto versOrderSpec)

/-- 'lighteragelaw12.VersSorts', WHERE WHAT IT READS IS OF BULK AT MOST 1048576: true; the input reads as it did. -/
def versSortsUptoRow : OpenClaim := { program := "ytpmcjanfgamkoaa", sum := "21797c64765b85c5b9357f780e8f4bb9e392ad0a701c65618cceeea818f42fe1", func := "lighterage/lighteragelaw12.VersSorts", spec := "versSorts", unfollowed := true, recurses := true, apart := false, narrowed := true }
def VersSortsUptoSaid : Prop := versSortsUptoRow.holds Try.pinned (OpenSpec.upto versSortsSpec)

/-- 'lighteragelaw12.VersNext', WHERE WHAT IT READS IS OF BULK AT MOST 1048576: true; the input reads as it did. -/
def versNextUptoRow : OpenClaim := { program := "ytpmcjanfgamkoaa", sum := "21797c64765b85c5b9357f780e8f4bb9e392ad0a701c65618cceeea818f42fe1", func := "lighterage/lighteragelaw12.VersNext", spec := "versNext", unfollowed := true, recurses := true, apart := false, narrowed := true }
def VersNextUptoSaid : Prop := versNextUptoRow.holds Try.pinned (OpenSpec.upto versNextSpec)

end Rows
end Go.Proofs.Ytpmcjanfgamkoaa
