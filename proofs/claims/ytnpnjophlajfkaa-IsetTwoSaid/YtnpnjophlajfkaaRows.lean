/-
  No cell of these rows narrows 'for every input' (looked for: loops, veiled, ifaces, maps, wideKeys, modest, calm, conditions, laid).
  DERIVED. THE GIVEN ROWS OF THIS SEAT. 3 by the template 'for every input the law returns true; each argument reads behind the call as it read before'; 0 by the template 'total and deterministic' (their statements: YtnpnjophlajfkaaTotals.lean).
  GIVEN WITH THE SEED: the statements are not yours to turn. If you find one false, say at which input.
  Laid BY PROGRAM, IN A SANDBOX (cutbox-rows.mjs): the forced cells as the released guide's own fill.sh prints them over the translation 8fdb805d8c0f1124… (all of the seat's roots in one cut). By AI agents, Wed Nov 11 2026. No macro, syntax, notation, axiom, sorry.
-/
import Derived.Test.YtnpnjophlajfkaaChecked
import GoSem.Claim
import GoSem.ClaimJoined
import GoSem.ClaimMapViews
import Derived.JoinedTies
import Derived.KernelRfl
namespace Go.Proofs.Ytnpnjophlajfkaa
/- THE CELL 'sum', in the pinned program and in every row, IS THE sha256 OF THE DUMP (.gsa) THAT YtnpnjophlajfkaaProg.lean LOADS. Nothing in Lean hashes anything: it is a label: what it is worth is what the hold of that sum in a sandbox is worth. -/
noncomputable def Try.pinned : Pinned := { name := "ytnpnjophlajfkaa", sum := "8fdb805d8c0f1124a5130b3ba9fa2ade49a935d00a01a4d8f3b3ac02b115c15f", checked := Try.checked }
namespace Rows
def none {H : Type} : Left H := { results := [], args := [] }

/-- 'lighteragelaw14.IsetOne': WHATEVER THE INPUT: true; the input reads as it did. -/
def isetOneSpec : ChangeSpec := { name := "isetOne", fn := fun _ => fun
  | [d1, d2] => { results := [.lit (.bool true)], args := [d1, d2] }
  | _ => none }
def isetOneRow : OpenClaim := { program := "ytnpnjophlajfkaa", sum := "8fdb805d8c0f1124a5130b3ba9fa2ade49a935d00a01a4d8f3b3ac02b115c15f", func := "lighterage/lighteragelaw14.IsetOne", spec := "isetOne", unfollowed := true, recurses := true, apart := false }
def IsetOneSaid : Prop := isetOneRow.holds Try.pinned (OpenSpec.ofChange isetOneSpec)

/-- ITS FALSE NEIGHBOUR: 'it returns false'. Refute it at one input. -/
def isetOneWrong : ChangeSpec := { name := "isetOne", fn := fun _ => fun
  | [d1, d2] => { results := [.lit (.bool false)], args := [d1, d2] }
  | _ => none }
def IsetOneWrongFalsely : Prop := isetOneRow.holds Try.pinned (OpenSpec.ofChange isetOneWrong)

/-- 'lighteragelaw14.IsetTwo': WHATEVER THE INPUT: true; the input reads as it did. -/
def isetTwoSpec : ChangeSpec := { name := "isetTwo", fn := fun _ => fun
  | [d1, d2] => { results := [.lit (.bool true)], args := [d1, d2] }
  | _ => none }
def isetTwoRow : OpenClaim := { program := "ytnpnjophlajfkaa", sum := "8fdb805d8c0f1124a5130b3ba9fa2ade49a935d00a01a4d8f3b3ac02b115c15f", func := "lighterage/lighteragelaw14.IsetTwo", spec := "isetTwo", unfollowed := true, recurses := true, apart := false }
def IsetTwoSaid : Prop := isetTwoRow.holds Try.pinned (OpenSpec.ofChange isetTwoSpec)

/-- ITS FALSE NEIGHBOUR: 'it returns false'. Refute it at one input. -/
def isetTwoWrong : ChangeSpec := { name := "isetTwo", fn := fun _ => fun
  | [d1, d2] => { results := [.lit (.bool false)], args := [d1, d2] }
  | _ => none }
def IsetTwoWrongFalsely : Prop := isetTwoRow.holds Try.pinned (OpenSpec.ofChange isetTwoWrong)

/-- 'lighteragelaw14.IsetLaws': WHATEVER THE INPUT: true; the input reads as it did. -/
def isetLawsSpec : ChangeSpec := { name := "isetLaws", fn := fun _ => fun
  | [d1, d2] => { results := [.lit (.bool true)], args := [d1, d2] }
  | _ => none }
def isetLawsRow : OpenClaim := { program := "ytnpnjophlajfkaa", sum := "8fdb805d8c0f1124a5130b3ba9fa2ade49a935d00a01a4d8f3b3ac02b115c15f", func := "lighterage/lighteragelaw14.IsetLaws", spec := "isetLaws", unfollowed := true, recurses := true, apart := false }
def IsetLawsSaid : Prop := isetLawsRow.holds Try.pinned (OpenSpec.ofChange isetLawsSpec)

/-- ITS FALSE NEIGHBOUR: 'it returns false'. Refute it at one input. -/
def isetLawsWrong : ChangeSpec := { name := "isetLaws", fn := fun _ => fun
  | [d1, d2] => { results := [.lit (.bool false)], args := [d1, d2] }
  | _ => none }
def IsetLawsWrongFalsely : Prop := isetLawsRow.holds Try.pinned (OpenSpec.ofChange isetLawsWrong)

/- THE SECOND FORM. 'bulk': how many values and letters a reading holds, each counted each time it is reached (what is shared counts as often as it is met; a slice's spare places count too). A statement '..UptoSaid' is the law's where the arguments, and the package variables that the reading takes, are together of bulk at most 1048576: NARROWER than '..Said'. Prove '..Said' where nothing that the law and all that it calls make is longer than what came in: it says more and counts as full. Else prove '..UptoSaid'. A law counts once. -/
mutual
def uptoBulk {H : Type} : DataW H → Nat
  | .lit (.string bytes) => bytes.length + 1
  | .lit _ => 1
  | .nil => 1
  | .ptr d => uptoBulk d + 1
  | .slice elems spare => uptoBulkAll elems + uptoBulkAll spare + 1
  | .agg parts => uptoBulkAll parts + 1
  | .iface _ d => uptoBulk d + 1
  | .map entries => uptoBulkEntries entries + 1
  | .held _ => 1
def uptoBulkAll {H : Type} : List (DataW H) → Nat
  | [] => 0
  | d :: r => uptoBulk d + uptoBulkAll r
def uptoBulkEntries {H : Type} : List (Lit × DataW H) → Nat
  | [] => 0
  | x :: r => uptoBulkEntry x + uptoBulkEntries r
def uptoBulkEntry {H : Type} : Lit × DataW H → Nat
  | (.string bytes, d) => bytes.length + uptoBulk d + 1
  | (_, d) => uptoBulk d + 1
 end
def uptoSmall : (H : Type) → List (DataW H) → Bool := fun _ ds => decide (uptoBulkAll ds ≤ 1048576)
def OpenSpec.upto (s : _root_.Go.ChangeSpec) : _root_.Go.OpenSpec := { _root_.Go.OpenSpec.ofChange s with cond := some uptoSmall }

/-- 'lighteragelaw14.IsetOne', WHERE WHAT IT READS IS OF BULK AT MOST 1048576: true; the input reads as it did. -/
def isetOneUptoRow : OpenClaim := { program := "ytnpnjophlajfkaa", sum := "8fdb805d8c0f1124a5130b3ba9fa2ade49a935d00a01a4d8f3b3ac02b115c15f", func := "lighterage/lighteragelaw14.IsetOne", spec := "isetOne", unfollowed := true, recurses := true, apart := false, narrowed := true }
def IsetOneUptoSaid : Prop := isetOneUptoRow.holds Try.pinned (OpenSpec.upto isetOneSpec)

/-- 'lighteragelaw14.IsetTwo', WHERE WHAT IT READS IS OF BULK AT MOST 1048576: true; the input reads as it did. -/
def isetTwoUptoRow : OpenClaim := { program := "ytnpnjophlajfkaa", sum := "8fdb805d8c0f1124a5130b3ba9fa2ade49a935d00a01a4d8f3b3ac02b115c15f", func := "lighterage/lighteragelaw14.IsetTwo", spec := "isetTwo", unfollowed := true, recurses := true, apart := false, narrowed := true }
def IsetTwoUptoSaid : Prop := isetTwoUptoRow.holds Try.pinned (OpenSpec.upto isetTwoSpec)

/-- 'lighteragelaw14.IsetLaws', WHERE WHAT IT READS IS OF BULK AT MOST 1048576: true; the input reads as it did. -/
def isetLawsUptoRow : OpenClaim := { program := "ytnpnjophlajfkaa", sum := "8fdb805d8c0f1124a5130b3ba9fa2ade49a935d00a01a4d8f3b3ac02b115c15f", func := "lighterage/lighteragelaw14.IsetLaws", spec := "isetLaws", unfollowed := true, recurses := true, apart := false, narrowed := true }
def IsetLawsUptoSaid : Prop := isetLawsUptoRow.holds Try.pinned (OpenSpec.upto isetLawsSpec)

end Rows
end Go.Proofs.Ytnpnjophlajfkaa
