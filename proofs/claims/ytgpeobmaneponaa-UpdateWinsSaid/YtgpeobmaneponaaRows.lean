/-
  No cell of these rows narrows 'for every input' (looked for: loops, veiled, ifaces, maps, wideKeys, modest, calm, conditions, laid).
  DERIVED. THE GIVEN ROWS OF THIS SEAT. 4 by the template 'for every input the law returns true; each argument reads behind the call as it read before'; 0 by the template 'total and deterministic' (their statements: YtgpeobmaneponaaTotals.lean).
  GIVEN WITH THE SEED: the statements are not yours to turn. If you find one false, say at which input.
  Laid BY PROGRAM, IN A SANDBOX (cutbox-rows.mjs): the forced cells as the released guide's own fill.sh prints them over the translation 0b85a03917131d9e… (all of the seat's roots in one cut). By AI agents, Wed Nov 11 2026. No macro, syntax, notation, axiom, sorry.
-/
import Derived.Test.YtgpeobmaneponaaChecked
import GoSem.Claim
import GoSem.ClaimJoined
import GoSem.ClaimMapViews
import Derived.JoinedTies
import Derived.KernelRfl
namespace Go.Proofs.Ytgpeobmaneponaa
/- THE CELL 'sum', in the pinned program and in every row, IS THE sha256 OF THE DUMP (.gsa) THAT YtgpeobmaneponaaProg.lean LOADS. Nothing in Lean hashes anything: it is a label: what it is worth is what the hold of that sum in a sandbox is worth. -/
noncomputable def Try.pinned : Pinned := { name := "ytgpeobmaneponaa", sum := "0b85a03917131d9e83e17152a81b34d6843f2fd14fc8f0408dfd62e4fcc67acc", checked := Try.checked }
namespace Rows
def none {H : Type} : Left H := { results := [], args := [] }

/-- 'lighteragelaw16.UpdateChecks': WHATEVER THE INPUT: true; the input reads as it did. -/
def updateChecksSpec : ChangeSpec := { name := "updateChecks", fn := fun _ => fun
  | [d1, d2] => { results := [.lit (.bool true)], args := [d1, d2] }
  | _ => none }
def updateChecksRow : OpenClaim := { program := "ytgpeobmaneponaa", sum := "0b85a03917131d9e83e17152a81b34d6843f2fd14fc8f0408dfd62e4fcc67acc", func := "lighterage/lighteragelaw16.UpdateChecks", spec := "updateChecks", inPlace := ["internal/bytealg.IndexByteString", "internal/bytealg.IndexString"], unfollowed := true, recurses := true, named := ["internal/bytealg.MaxLen"], plainKeys := false, apart := false }
def UpdateChecksSaid : Prop := updateChecksRow.holds Try.pinned (OpenSpec.ofChange updateChecksSpec)

/-- ITS FALSE NEIGHBOUR: 'it returns false'. Refute it at one input. -/
def updateChecksWrong : ChangeSpec := { name := "updateChecks", fn := fun _ => fun
  | [d1, d2] => { results := [.lit (.bool false)], args := [d1, d2] }
  | _ => none }
def UpdateChecksWrongFalsely : Prop := updateChecksRow.holds Try.pinned (OpenSpec.ofChange updateChecksWrong)

/-- 'lighteragelaw16.UpdateMatches': WHATEVER THE INPUT: true; the input reads as it did. -/
def updateMatchesSpec : ChangeSpec := { name := "updateMatches", fn := fun _ => fun
  | [d1, d2] => { results := [.lit (.bool true)], args := [d1, d2] }
  | _ => none }
def updateMatchesRow : OpenClaim := { program := "ytgpeobmaneponaa", sum := "0b85a03917131d9e83e17152a81b34d6843f2fd14fc8f0408dfd62e4fcc67acc", func := "lighterage/lighteragelaw16.UpdateMatches", spec := "updateMatches", inPlace := ["internal/bytealg.IndexByteString", "internal/bytealg.IndexString"], unfollowed := true, recurses := true, named := ["internal/bytealg.MaxLen"], plainKeys := false, apart := false }
def UpdateMatchesSaid : Prop := updateMatchesRow.holds Try.pinned (OpenSpec.ofChange updateMatchesSpec)

/-- ITS FALSE NEIGHBOUR: 'it returns false'. Refute it at one input. -/
def updateMatchesWrong : ChangeSpec := { name := "updateMatches", fn := fun _ => fun
  | [d1, d2] => { results := [.lit (.bool false)], args := [d1, d2] }
  | _ => none }
def UpdateMatchesWrongFalsely : Prop := updateMatchesRow.holds Try.pinned (OpenSpec.ofChange updateMatchesWrong)

/-- 'lighteragelaw16.UpdateViews': WHATEVER THE INPUT: true; the input reads as it did. -/
def updateViewsSpec : ChangeSpec := { name := "updateViews", fn := fun _ => fun
  | [d1, d2, d3] => { results := [.lit (.bool true)], args := [d1, d2, d3] }
  | _ => none }
def updateViewsRow : OpenClaim := { program := "ytgpeobmaneponaa", sum := "0b85a03917131d9e83e17152a81b34d6843f2fd14fc8f0408dfd62e4fcc67acc", func := "lighterage/lighteragelaw16.UpdateViews", spec := "updateViews", inPlace := ["internal/bytealg.IndexByteString", "internal/bytealg.IndexString"], unfollowed := true, recurses := true, named := ["internal/bytealg.MaxLen"], plainKeys := false, apart := false }
def UpdateViewsSaid : Prop := updateViewsRow.holds Try.pinned (OpenSpec.ofChange updateViewsSpec)

/-- ITS FALSE NEIGHBOUR: 'it returns false'. Refute it at one input. -/
def updateViewsWrong : ChangeSpec := { name := "updateViews", fn := fun _ => fun
  | [d1, d2, d3] => { results := [.lit (.bool false)], args := [d1, d2, d3] }
  | _ => none }
def UpdateViewsWrongFalsely : Prop := updateViewsRow.holds Try.pinned (OpenSpec.ofChange updateViewsWrong)

/-- 'lighteragelaw16.UpdateWins': WHATEVER THE INPUT: true; the input reads as it did. -/
def updateWinsSpec : ChangeSpec := { name := "updateWins", fn := fun _ => fun
  | [d1, d2, d3] => { results := [.lit (.bool true)], args := [d1, d2, d3] }
  | _ => none }
def updateWinsRow : OpenClaim := { program := "ytgpeobmaneponaa", sum := "0b85a03917131d9e83e17152a81b34d6843f2fd14fc8f0408dfd62e4fcc67acc", func := "lighterage/lighteragelaw16.UpdateWins", spec := "updateWins", inPlace := ["internal/bytealg.IndexByteString", "internal/bytealg.IndexString"], unfollowed := true, recurses := true, named := ["internal/bytealg.MaxLen"], plainKeys := false, apart := false }
def UpdateWinsSaid : Prop := updateWinsRow.holds Try.pinned (OpenSpec.ofChange updateWinsSpec)

/-- ITS FALSE NEIGHBOUR: 'it returns false'. Refute it at one input. -/
def updateWinsWrong : ChangeSpec := { name := "updateWins", fn := fun _ => fun
  | [d1, d2, d3] => { results := [.lit (.bool false)], args := [d1, d2, d3] }
  | _ => none }
def UpdateWinsWrongFalsely : Prop := updateWinsRow.holds Try.pinned (OpenSpec.ofChange updateWinsWrong)

/- THE SECOND FORM. 'bulk': how many values and letters a reading holds, each counted each time it is reached (what is shared counts as often as it is met; a slice's spare places count too). A statement '..UptoSaid' is the law's where the arguments, and the package variables that the reading takes, are together of bulk at most 1048576: NARROWER than '..Said'. Prove '..Said' where nothing that the law and all that it calls make is longer than what came in: it says more and counts as full. Else prove '..UptoSaid'. A law counts once. -/
mutual
def uptoBulk {H : Type} : DataW H → Nat
  | .lit (.string bytes) => bytes.length + 1
  | .lit _ => 1
  | .nil => 1
  | .ptr d => uptoBulk d + 1
  | .slice elems spare => uptoBulkAll elems + uptoBulkAll spare + 1
  | .agg parts => uptoBulkAll parts + 1
  | .iface _ d => uptoBulk d + 1
  | .map entries => uptoBulkEntries entries + 1
  | .held _ => 1
def uptoBulkAll {H : Type} : List (DataW H) → Nat
  | [] => 0
  | d :: r => uptoBulk d + uptoBulkAll r
def uptoBulkEntries {H : Type} : List (Lit × DataW H) → Nat
  | [] => 0
  | x :: r => uptoBulkEntry x + uptoBulkEntries r
def uptoBulkEntry {H : Type} : Lit × DataW H → Nat
  | (.string bytes, d) => bytes.length + uptoBulk d + 1
  | (_, d) => uptoBulk d + 1
 end
def uptoSmall : (H : Type) → List (DataW H) → Bool := fun _ ds => decide (uptoBulkAll ds ≤ 1048576)
def OpenSpec.upto (s : _root_.Go.ChangeSpec) : _root_.Go.OpenSpec := { _root_.Go.OpenSpec.ofChange s with cond := some uptoSmall }

/-- 'lighteragelaw16.UpdateChecks', WHERE WHAT IT READS IS OF BULK AT MOST 1048576: true; the input reads as it did. -/
def updateChecksUptoRow : OpenClaim := { program := "ytgpeobmaneponaa", sum := "0b85a03917131d9e83e17152a81b34d6843f2fd14fc8f0408dfd62e4fcc67acc", func := "lighterage/lighteragelaw16.UpdateChecks", spec := "updateChecks", inPlace := ["internal/bytealg.IndexByteString", "internal/bytealg.IndexString"], unfollowed := true, recurses := true, named := ["internal/bytealg.MaxLen"], plainKeys := false, apart := false, narrowed := true }
def UpdateChecksUptoSaid : Prop := updateChecksUptoRow.holds Try.pinned (OpenSpec.upto updateChecksSpec)

/-- 'lighteragelaw16.UpdateMatches', WHERE WHAT IT READS IS OF BULK AT MOST 1048576: true; the input reads as it did. -/
def updateMatchesUptoRow : OpenClaim := { program := "ytgpeobmaneponaa", sum := "0b85a03917131d9e83e17152a81b34d6843f2fd14fc8f0408dfd62e4fcc67acc", func := "lighterage/lighteragelaw16.UpdateMatches", spec := "updateMatches", inPlace := ["internal/bytealg.IndexByteString", "internal/bytealg.IndexString"], unfollowed := true, recurses := true, named := ["internal/bytealg.MaxLen"], plainKeys := false, apart := false, narrowed := true }
def UpdateMatchesUptoSaid : Prop := updateMatchesUptoRow.holds Try.pinned (OpenSpec.upto updateMatchesSpec)

/-- 'lighteragelaw16.UpdateViews', WHERE WHAT IT READS IS OF BULK AT MOST 1048576: true; the input reads as it did. -/
def updateViewsUptoRow : OpenClaim := { program := "ytgpeobmaneponaa", sum := "0b85a03917131d9e83e17152a81b34d6843f2fd14fc8f0408dfd62e4fcc67acc", func := "lighterage/lighteragelaw16.UpdateViews", spec := "updateViews", inPlace := ["internal/bytealg.IndexByteString", "internal/bytealg.IndexString"], unfollowed := true, recurses := true, named := ["internal/bytealg.MaxLen"], plainKeys := false, apart := false, narrowed := true }
def UpdateViewsUptoSaid : Prop := updateViewsUptoRow.holds Try.pinned (OpenSpec.upto updateViewsSpec)

/-- 'lighteragelaw16.UpdateWins', WHERE WHAT IT READS IS OF BULK AT MOST 1048576: true; the input reads as it did. -/
def updateWinsUptoRow : OpenClaim := { program := "ytgpeobmaneponaa", sum := "0b85a03917131d9e83e17152a81b34d6843f2fd14fc8f0408dfd62e4fcc67acc", func := "lighterage/lighteragelaw16.UpdateWins", spec := "updateWins", inPlace := ["internal/bytealg.IndexByteString", "internal/bytealg.IndexString"], unfollowed := true, recurses := true, named := ["internal/bytealg.MaxLen"], plainKeys := false, apart := false, narrowed := true }
def UpdateWinsUptoSaid : Prop := updateWinsUptoRow.holds Try.pinned (OpenSpec.upto updateWinsSpec)

end Rows
end Go.Proofs.Ytgpeobmaneponaa
