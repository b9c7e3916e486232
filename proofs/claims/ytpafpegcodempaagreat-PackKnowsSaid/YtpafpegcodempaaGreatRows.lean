/-
  No cell of these rows narrows 'for every input' (looked for: loops, veiled, ifaces, maps, wideKeys, modest, calm, conditions, laid).
  DERIVED. THE GIVEN ROWS OF THIS SEAT. 6 by the template 'for every input the law returns true; each argument reads behind the call as it read before'; 0 by the template 'total and deterministic' (their statements: YtpafpegcodempaaGreatTotals.lean).
  GIVEN WITH THE SEED: the statements are not yours to turn. If you find one false, say at which input.
  Laid BY PROGRAM, IN A SANDBOX (cutbox-rows.mjs): the forced cells as the released guide's own fill.sh prints them over the translation 94d12de35c395c26… (all of the seat's roots in one cut). By AI agents, Wed Nov 11 2026. No macro, syntax, notation, axiom, sorry.
-/
import Derived.Test.YtpafpegcodempaaGreatChecked
import GoSem.Claim
import GoSem.ClaimJoined
import GoSem.ClaimMapViews
import Derived.JoinedTies
import Derived.KernelRfl
namespace Go.Proofs.YtpafpegcodempaaGreat
/- THE CELL 'sum', in the pinned program and in every row, IS THE sha256 OF THE DUMP (.gsa) THAT YtpafpegcodempaaGreatProg.lean LOADS. Nothing in Lean hashes anything: it is a label: what it is worth is what the hold of that sum in a sandbox is worth. -/
noncomputable def Tryz.pinned : Pinned := { name := "ytpafpegcodempaagreat", sum := "94d12de35c395c269638449244f5e0334057b34f037973abe9987194ab83edda", checked := Tryz.checked }
namespace Rows
def none {H : Type} : Left H := { results := [], args := [] }

/-- 'lighteragelaw18.MsgPuts': WHATEVER THE INPUT: true; the input reads as it did. -/
def msgPutsSpec : ChangeSpec := { name := "msgPuts", fn := fun _ => fun
  | [d] => { results := [.lit (.bool true)], args := [d] }
  | _ => none }
def msgPutsRow : OpenClaim := { program := "ytpafpegcodempaagreat", sum := "94d12de35c395c269638449244f5e0334057b34f037973abe9987194ab83edda", func := "lighterage/lighteragelaw18.MsgPuts", spec := "msgPuts", inPlace := ["internal/bytealg.IndexByteString", "internal/bytealg.IndexString"], unfollowed := true, recurses := true, named := ["internal/bytealg.MaxLen"], plainKeys := false, apart := false }
def MsgPutsSaid : Prop := msgPutsRow.holds Tryz.pinned (OpenSpec.ofChange msgPutsSpec)

/-- ITS FALSE NEIGHBOUR: 'it returns false'. Refute it at one input. -/
def msgPutsWrong : ChangeSpec := { name := "msgPuts", fn := fun _ => fun
  | [d] => { results := [.lit (.bool false)], args := [d] }
  | _ => none }
def MsgPutsWrongFalsely : Prop := msgPutsRow.holds Tryz.pinned (OpenSpec.ofChange msgPutsWrong)

/-- 'lighteragelaw18.MsgGets': WHATEVER THE INPUT: true; the input reads as it did. -/
def msgGetsSpec : ChangeSpec := { name := "msgGets", fn := fun _ => fun
  | [d] => { results := [.lit (.bool true)], args := [d] }
  | _ => none }
def msgGetsRow : OpenClaim := { program := "ytpafpegcodempaagreat", sum := "94d12de35c395c269638449244f5e0334057b34f037973abe9987194ab83edda", func := "lighterage/lighteragelaw18.MsgGets", spec := "msgGets", inPlace := ["internal/bytealg.IndexByteString", "internal/bytealg.IndexString"], unfollowed := true, recurses := true, named := ["internal/bytealg.MaxLen"], plainKeys := false, apart := false }
def MsgGetsSaid : Prop := msgGetsRow.holds Tryz.pinned (OpenSpec.ofChange msgGetsSpec)

/-- ITS FALSE NEIGHBOUR: 'it returns false'. Refute it at one input. -/
def msgGetsWrong : ChangeSpec := { name := "msgGets", fn := fun _ => fun
  | [d] => { results := [.lit (.bool false)], args := [d] }
  | _ => none }
def MsgGetsWrongFalsely : Prop := msgGetsRow.holds Tryz.pinned (OpenSpec.ofChange msgGetsWrong)

/-- 'lighteragelaw18.MsgSizes': WHATEVER THE INPUT: true; the input reads as it did. -/
def msgSizesSpec : ChangeSpec := { name := "msgSizes", fn := fun _ => fun
  | [d1, d2, d3] => { results := [.lit (.bool true)], args := [d1, d2, d3] }
  | _ => none }
def msgSizesRow : OpenClaim := { program := "ytpafpegcodempaagreat", sum := "94d12de35c395c269638449244f5e0334057b34f037973abe9987194ab83edda", func := "lighterage/lighteragelaw18.MsgSizes", spec := "msgSizes", inPlace := ["internal/bytealg.IndexByteString", "internal/bytealg.IndexString"], unfollowed := true, recurses := true, named := ["internal/bytealg.MaxLen"], plainKeys := false, apart := false }
def MsgSizesSaid : Prop := msgSizesRow.holds Tryz.pinned (OpenSpec.ofChange msgSizesSpec)

/-- ITS FALSE NEIGHBOUR: 'it returns false'. Refute it at one input. -/
def msgSizesWrong : ChangeSpec := { name := "msgSizes", fn := fun _ => fun
  | [d1, d2, d3] => { results := [.lit (.bool false)], args := [d1, d2, d3] }
  | _ => none }
def MsgSizesWrongFalsely : Prop := msgSizesRow.holds Tryz.pinned (OpenSpec.ofChange msgSizesWrong)

/-- 'lighteragelaw18.MsgTurned': WHATEVER THE INPUT: true; the input reads as it did. -/
def msgTurnedSpec : ChangeSpec := { name := "msgTurned", fn := fun _ => fun
  | [d1, d2, d3] => { results := [.lit (.bool true)], args := [d1, d2, d3] }
  | _ => none }
def msgTurnedRow : OpenClaim := { program := "ytpafpegcodempaagreat", sum := "94d12de35c395c269638449244f5e0334057b34f037973abe9987194ab83edda", func := "lighterage/lighteragelaw18.MsgTurned", spec := "msgTurned", inPlace := ["internal/bytealg.IndexByteString", "internal/bytealg.IndexString"], unfollowed := true, recurses := true, named := ["internal/bytealg.MaxLen"], plainKeys := false, apart := false }
def MsgTurnedSaid : Prop := msgTurnedRow.holds Tryz.pinned (OpenSpec.ofChange msgTurnedSpec)

/-- ITS FALSE NEIGHBOUR: 'it returns false'. Refute it at one input. -/
def msgTurnedWrong : ChangeSpec := { name := "msgTurned", fn := fun _ => fun
  | [d1, d2, d3] => { results := [.lit (.bool false)], args := [d1, d2, d3] }
  | _ => none }
def MsgTurnedWrongFalsely : Prop := msgTurnedRow.holds Tryz.pinned (OpenSpec.ofChange msgTurnedWrong)

/-- 'lighteragelaw17.PackKnows': WHATEVER THE INPUT: true; the input reads as it did. -/
def packKnowsSpec : ChangeSpec := { name := "packKnows", fn := fun _ => fun
  | [d1, d2] => { results := [.lit (.bool true)], args := [d1, d2] }
  | _ => none }
def packKnowsRow : OpenClaim := { program := "ytpafpegcodempaagreat", sum := "94d12de35c395c269638449244f5e0334057b34f037973abe9987194ab83edda", func := "lighterage/lighteragelaw17.PackKnows", spec := "packKnows", inPlace := ["internal/bytealg.IndexByteString", "internal/bytealg.IndexString"], unfollowed := true, recurses := true, named := ["internal/bytealg.MaxLen"], plainKeys := false, apart := false }
def PackKnowsSaid : Prop := packKnowsRow.holds Tryz.pinned (OpenSpec.ofChange packKnowsSpec)

/-- ITS FALSE NEIGHBOUR: 'it returns false'. Refute it at one input. -/
def packKnowsWrong : ChangeSpec := { name := "packKnows", fn := fun _ => fun
  | [d1, d2] => { results := [.lit (.bool false)], args := [d1, d2] }
  | _ => none }
def PackKnowsWrongFalsely : Prop := packKnowsRow.holds Tryz.pinned (OpenSpec.ofChange packKnowsWrong)

/-- 'lighteragelaw15.KnowTwo': WHATEVER THE INPUT: true; the input reads as it did. -/
def knowTwoSpec : ChangeSpec := { name := "knowTwo", fn := fun _ => fun
  | [d] => { results := [.lit (.bool true)], args := [d] }
  | _ => none }
def knowTwoRow : OpenClaim := { program := "ytpafpegcodempaagreat", sum := "94d12de35c395c269638449244f5e0334057b34f037973abe9987194ab83edda", func := "lighterage/lighteragelaw15.KnowTwo", spec := "knowTwo", inPlace := ["internal/bytealg.abigen_runtime_cmpstring"], unfollowed := true, recurses := true, plainKeys := false, apart := false }
def KnowTwoSaid : Prop := knowTwoRow.holds Tryz.pinned (OpenSpec.ofChange knowTwoSpec)

/-- ITS FALSE NEIGHBOUR: 'it returns false'. Refute it at one input. -/
def knowTwoWrong : ChangeSpec := { name := "knowTwo", fn := fun _ => fun
  | [d] => { results := [.lit (.bool false)], args := [d] }
  | _ => none }
def KnowTwoWrongFalsely : Prop := knowTwoRow.holds Tryz.pinned (OpenSpec.ofChange knowTwoWrong)

/- THE SECOND FORM. 'bulk': how many values and letters a reading holds, each counted each time it is reached (what is shared counts as often as it is met; a slice's spare places count too). A statement '..UptoSaid' is the law's where the arguments, and the package variables that the reading takes, are together of bulk at most 1048576: NARROWER than '..Said'. Prove '..Said' where nothing that the law and all that it calls make is longer than what came in: it says more and counts as full. Else prove '..UptoSaid'. A law counts once. -/
mutual
def uptoBulk {H : Type} : DataW H → Nat
  | .lit (.string bytes) => bytes.length + 1
  | .lit _ => 1
  | .nil => 1
  | .ptr d => uptoBulk d + 1
  | .slice elems spare => uptoBulkAll elems + uptoBulkAll spare + 1
  | .agg parts => uptoBulkAll parts + 1
  | .iface _ d => uptoBulk d + 1
  | .map entries => uptoBulkEntries entries + 1
  | .held _ => 1
def uptoBulkAll {H : Type} : List (DataW H) → Nat
  | [] => 0
  | d :: r => uptoBulk d + uptoBulkAll r
def uptoBulkEntries {H : Type} : List (Lit × DataW H) → Nat
  | [] => 0
  | x :: r => uptoBulkEntry x + uptoBulkEntries r
def uptoBulkEntry {H : Type} : Lit × DataW H → Nat
  | (.string bytes, d) => bytes.length + uptoBulk d + 1
  | (_, d) => uptoBulk d + 1
 end
def uptoSmall : (H : Type) → List (DataW H) → Bool := fun _ ds => decide (uptoBulkAll ds ≤ 1048576)
def OpenSpec.upto (s : _root_.Go.ChangeSpec) : _root_.Go.OpenSpec := { _root_.Go.OpenSpec.ofChange s with cond := some uptoSmall }

/-- 'lighteragelaw18.MsgPuts', WHERE WHAT IT READS IS OF BULK AT MOST 1048576: true; the input reads as it did. -/
def msgPutsUptoRow : OpenClaim := { program := "ytpafpegcodempaagreat", sum := "94d12de35c395c269638449244f5e0334057b34f037973abe9987194ab83edda", func := "lighterage/lighteragelaw18.MsgPuts", spec := "msgPuts", inPlace := ["internal/bytealg.IndexByteString", "internal/bytealg.IndexString"], unfollowed := true, recurses := true, named := ["internal/bytealg.MaxLen"], plainKeys := false, apart := false, narrowed := true }
def MsgPutsUptoSaid : Prop := msgPutsUptoRow.holds Tryz.pinned (OpenSpec.upto msgPutsSpec)

/-- 'lighteragelaw18.MsgGets', WHERE WHAT IT READS IS OF BULK AT MOST 1048576: true; the input reads as it did. -/
def msgGetsUptoRow : OpenClaim := { program := "ytpafpegcodempaagreat", sum := "94d12de35c395c269638449244f5e0334057b34f037973abe9987194ab83edda", func := "lighterage/lighteragelaw18.MsgGets", spec := "msgGets", inPlace := ["internal/bytealg.IndexByteString", "internal/bytealg.IndexString"], unfollowed := true, recurses := true, named := ["internal/bytealg.MaxLen"], plainKeys := false, apart := false, narrowed := true }
def MsgGetsUptoSaid : Prop := msgGetsUptoRow.holds Tryz.pinned (OpenSpec.upto msgGetsSpec)

/-- 'lighteragelaw18.MsgSizes', WHERE WHAT IT READS IS OF BULK AT MOST 1048576: true; the input reads as it did. -/
def msgSizesUptoRow : OpenClaim := { program := "ytpafpegcodempaagreat", sum := "94d12de35c395c269638449244f5e0334057b34f037973abe9987194ab83edda", func := "lighterage/lighteragelaw18.MsgSizes", spec := "msgSizes", inPlace := ["internal/bytealg.IndexByteString", "internal/bytealg.IndexString"], unfollowed := true, recurses := true, named := ["internal/bytealg.MaxLen"], plainKeys := false, apart := false, narrowed := true }
def MsgSizesUptoSaid : Prop := msgSizesUptoRow.holds Tryz.pinned (OpenSpec.upto msgSizesSpec)

/-- 'lighteragelaw18.MsgTurned', WHERE WHAT IT READS IS OF BULK AT MOST 1048576: true; the input reads as it did. -/
def msgTurnedUptoRow : OpenClaim := { program := "ytpafpegcodempaagreat", sum := "94d12de35c395c269638449244f5e0334057b34f037973abe9987194ab83edda", func := "lighterage/lighteragelaw18.MsgTurned", spec := "msgTurned", inPlace := ["internal/bytealg.IndexByteString", "internal/bytealg.IndexString"], unfollowed := true, recurses := true, named := ["internal/bytealg.MaxLen"], plainKeys := false, apart := false, narrowed := true }
def MsgTurnedUptoSaid : Prop := msgTurnedUptoRow.holds Tryz.pinned (OpenSpec.upto msgTurnedSpec)

/-- 'lighteragelaw17.PackKnows', WHERE WHAT IT READS IS OF BULK AT MOST 1048576: true; the input reads as it did. -/
def packKnowsUptoRow : OpenClaim := { program := "ytpafpegcodempaagreat", sum := "94d12de35c395c269638449244f5e0334057b34f037973abe9987194ab83edda", func := "lighterage/lighteragelaw17.PackKnows", spec := "packKnows", inPlace := ["internal/bytealg.IndexByteString", "internal/bytealg.IndexString"], unfollowed := true, recurses := true, named := ["internal/bytealg.MaxLen"], plainKeys := false, apart := false, narrowed := true }
def PackKnowsUptoSaid : Prop := packKnowsUptoRow.holds Tryz.pinned (OpenSpec.upto packKnowsSpec)

/-- 'lighteragelaw15.KnowTwo', WHERE WHAT IT READS IS OF BULK AT MOST 1048576: true; the input reads as it did. -/
def knowTwoUptoRow : OpenClaim := { program := "ytpafpegcodempaagreat", sum := "94d12de35c395c269638449244f5e0334057b34f037973abe9987194ab83edda", func := "lighterage/lighteragelaw15.KnowTwo", spec := "knowTwo", inPlace := ["internal/bytealg.abigen_runtime_cmpstring"], unfollowed := true, recurses := true, plainKeys := false, apart := false, narrowed := true }
def KnowTwoUptoSaid : Prop := knowTwoUptoRow.holds Tryz.pinned (OpenSpec.upto knowTwoSpec)

end Rows
end Go.Proofs.YtpafpegcodempaaGreat
