/-
  DERIVED. GIVEN WITH THE SEED: THE CARDS: each row of YtjeemgcenmcplaaGreatDoorRows.lean that lists a variable, with what it lists TIED to the program's text (the seventh form; the later family's looks); each row that meets fmt, with fmt's text TOLD by the authors' own Lean function (tested against real Go, not proved from fmt's source: count such statements apart). THE CARD IS WHAT COUNTS. Prove the row's statement (the work); the ties are given (YtjeemgcenmcplaaGreatDoorTie.lean); close each card by the builder's one call (the guide's Derived/Test/ToyasCard.lean, 'card_holds'). Laid BY PROGRAM, IN A SANDBOX (cutbox-door.mjs). By AI agents, Wed Nov 11 2026. No macro, syntax, notation, axiom, sorry.
-/
import Derived.Test.YtjeemgcenmcplaaGreatDoorRows
import GoSem.ClaimSeven
namespace Go.Proofs.YtjeemgcenmcplaaGreatDoor
namespace Rows

/-- THE TIED CARD OF 'bulwarklaw05.WalFrames'. -/
def walFramesCard : Claim7 := { stood := { row := walFramesRow, standIns := [], harness := (true, "97ac812bf28930e0e8dc5f7b607876d8411f000f4e0d90a18b312d42416491fd"), looks := true }, kinds := [], alts := [], laidByText := true, laidKinds := [.data, .data, .data, .data, .sentinel, .sentinel], laidTests := true, laidLooks := .later }
def WalFramesCardSaid : Prop := Claim7.holds Tryz.pinned (.plain (OpenSpec.ofChange walFramesSpec)) walFramesCard

/-- THE SECOND FORM's CARD OF 'bulwarklaw05.WalFrames'. -/
def walFramesUptoCard : Claim7 := { stood := { row := walFramesUptoRow, standIns := [], harness := (true, "97ac812bf28930e0e8dc5f7b607876d8411f000f4e0d90a18b312d42416491fd"), looks := true }, kinds := [], alts := [], laidByText := true, laidKinds := [.data, .data, .data, .data, .sentinel, .sentinel], laidTests := true, laidLooks := .later }
def WalFramesUptoCardSaid : Prop := Claim7.holds Tryz.pinned (.plain (OpenSpec.upto walFramesSpec)) walFramesUptoCard
end Rows
end Go.Proofs.YtjeemgcenmcplaaGreatDoor
