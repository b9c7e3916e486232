/-
  DERIVED. GIVEN WITH THE SEED: THE CARDS: each row of YtajhmgbicliihaaGreatDoorRows.lean that lists a variable, with what it lists TIED to the program's text (the seventh form; the later family's looks); each row that meets fmt, with fmt's text TOLD by the authors' own Lean function (tested against real Go, not proved from fmt's source: count such statements apart). THE CARD IS WHAT COUNTS. Prove the row's statement (the work); the ties are given (YtajhmgbicliihaaGreatDoorTie.lean); close each card by the builder's one call (the guide's Derived/Test/ToyasCard.lean, 'card_holds'). Laid BY PROGRAM, IN A SANDBOX (cutbox-door.mjs). By AI agents, Wed Nov 11 2026. No macro, syntax, notation, axiom, sorry.
-/
import Derived.Test.YtajhmgbicliihaaGreatDoorRows
import GoSem.ClaimSeven
namespace Go.Proofs.YtajhmgbicliihaaGreatDoor
namespace Rows

/-- THE TIED CARD OF 'lighteragelaw10.CoverTwo'. -/
def coverTwoCard : Claim7 := { stood := { row := coverTwoRow, standIns := [], harness := (true, "4fd4b5bcfe5fcf7a94f7af80e51d463a9394e9b055ac3158be6fcb99cfa13bd8"), looks := false }, kinds := [], alts := [], laidByText := true, laidKinds := [.data, .data, .data], laidTests := true, laidLooks := .later }
def CoverTwoCardSaid : Prop := Claim7.holds Tryz.pinned (.plain (OpenSpec.ofChange coverTwoSpec)) coverTwoCard

/-- THE TIED CARD OF 'lighteragelaw10.CoverOrder'. -/
def coverOrderCard : Claim7 := { stood := { row := coverOrderRow, standIns := [], harness := (true, "4fd4b5bcfe5fcf7a94f7af80e51d463a9394e9b055ac3158be6fcb99cfa13bd8"), looks := false }, kinds := [], alts := [], laidByText := true, laidKinds := [.data, .data, .data], laidTests := true, laidLooks := .later }
def CoverOrderCardSaid : Prop := Claim7.holds Tryz.pinned (.plain (OpenSpec.ofChange coverOrderSpec)) coverOrderCard

/-- THE SECOND FORM's CARD OF 'lighteragelaw10.CoverTwo'. -/
def coverTwoUptoCard : Claim7 := { stood := { row := coverTwoUptoRow, standIns := [], harness := (true, "4fd4b5bcfe5fcf7a94f7af80e51d463a9394e9b055ac3158be6fcb99cfa13bd8"), looks := false }, kinds := [], alts := [], laidByText := true, laidKinds := [.data, .data, .data], laidTests := true, laidLooks := .later }
def CoverTwoUptoCardSaid : Prop := Claim7.holds Tryz.pinned (.plain (OpenSpec.upto coverTwoSpec)) coverTwoUptoCard

/-- THE SECOND FORM's CARD OF 'lighteragelaw10.CoverOrder'. -/
def coverOrderUptoCard : Claim7 := { stood := { row := coverOrderUptoRow, standIns := [], harness := (true, "4fd4b5bcfe5fcf7a94f7af80e51d463a9394e9b055ac3158be6fcb99cfa13bd8"), looks := false }, kinds := [], alts := [], laidByText := true, laidKinds := [.data, .data, .data], laidTests := true, laidLooks := .later }
def CoverOrderUptoCardSaid : Prop := Claim7.holds Tryz.pinned (.plain (OpenSpec.upto coverOrderSpec)) coverOrderUptoCard
end Rows
end Go.Proofs.YtajhmgbicliihaaGreatDoor
