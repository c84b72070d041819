/-
  DERIVED. GIVEN WITH THE SEED: THE CARDS: each row of YtdonkmkjblofpaaGreatDoorRows.lean that lists a variable, with what it lists TIED to the program's text (the seventh form; the later family's looks); each row that meets fmt, with fmt's text TOLD by the authors' own Lean function (tested against real Go, not proved from fmt's source: count such statements apart). THE CARD IS WHAT COUNTS. Prove the row's statement (the work); the ties are given (YtdonkmkjblofpaaGreatDoorTie.lean); close each card by the builder's one call (the guide's Derived/Test/ToyasCard.lean, 'card_holds'). Laid BY PROGRAM, IN A SANDBOX (cutbox-door.mjs). By AI agents, Wed Nov 11 2026. No macro, syntax, notation, axiom, sorry.
-/
import Derived.Test.YtdonkmkjblofpaaGreatDoorRows
import GoSem.ClaimSeven
namespace Go.Proofs.YtdonkmkjblofpaaGreatDoor
namespace Rows

/-- THE TIED CARD OF 'bulwarklaw05.WalFrames'. -/
def walFramesCard : Claim7 := { stood := { row := walFramesRow, standIns := [], harness := (true, "df09006c00c121c7ba459e13be571d878f41e9807053c7be29201c807f5c9c19"), looks := true }, kinds := [], alts := [], laidByText := true, laidKinds := [.data, .data, .data, .data, .sentinel, .sentinel], laidTests := true, laidLooks := .later }
def WalFramesCardSaid : Prop := Claim7.holds Tryz.pinned (.plain (OpenSpec.ofChange walFramesSpec)) walFramesCard

/-- THE TIED CARD OF 'bulwarklaw06.SnapBytes'. -/
def snapBytesCard : Claim7 := { stood := { row := snapBytesRow, standIns := [], harness := (true, "df09006c00c121c7ba459e13be571d878f41e9807053c7be29201c807f5c9c19"), looks := true }, kinds := [], alts := [], laidByText := true, laidKinds := [.data, .data, .data, .data, .sentinel, .sentinel], laidTests := true, laidLooks := .later }
def SnapBytesCardSaid : Prop := Claim7.holds Tryz.pinned (.plain (OpenSpec.ofChange snapBytesSpec)) snapBytesCard

/-- THE TIED CARD OF 'bulwarklaw06.SnapDoes'. -/
def snapDoesCard : Claim7 := { stood := { row := snapDoesRow, standIns := [], harness := (true, "df09006c00c121c7ba459e13be571d878f41e9807053c7be29201c807f5c9c19"), looks := true }, kinds := [], alts := [], laidByText := true, laidKinds := [.data, .data, .data, .data, .sentinel, .sentinel], laidTests := true, laidLooks := .later }
def SnapDoesCardSaid : Prop := Claim7.holds Tryz.pinned (.plain (OpenSpec.ofChange snapDoesSpec)) snapDoesCard

/-- THE SECOND FORM's CARD OF 'bulwarklaw05.WalFrames'. -/
def walFramesUptoCard : Claim7 := { stood := { row := walFramesUptoRow, standIns := [], harness := (true, "df09006c00c121c7ba459e13be571d878f41e9807053c7be29201c807f5c9c19"), looks := true }, kinds := [], alts := [], laidByText := true, laidKinds := [.data, .data, .data, .data, .sentinel, .sentinel], laidTests := true, laidLooks := .later }
def WalFramesUptoCardSaid : Prop := Claim7.holds Tryz.pinned (.plain (OpenSpec.upto walFramesSpec)) walFramesUptoCard

/-- THE SECOND FORM's CARD OF 'bulwarklaw06.SnapBytes'. -/
def snapBytesUptoCard : Claim7 := { stood := { row := snapBytesUptoRow, standIns := [], harness := (true, "df09006c00c121c7ba459e13be571d878f41e9807053c7be29201c807f5c9c19"), looks := true }, kinds := [], alts := [], laidByText := true, laidKinds := [.data, .data, .data, .data, .sentinel, .sentinel], laidTests := true, laidLooks := .later }
def SnapBytesUptoCardSaid : Prop := Claim7.holds Tryz.pinned (.plain (OpenSpec.upto snapBytesSpec)) snapBytesUptoCard

/-- THE SECOND FORM's CARD OF 'bulwarklaw06.SnapDoes'. -/
def snapDoesUptoCard : Claim7 := { stood := { row := snapDoesUptoRow, standIns := [], harness := (true, "df09006c00c121c7ba459e13be571d878f41e9807053c7be29201c807f5c9c19"), looks := true }, kinds := [], alts := [], laidByText := true, laidKinds := [.data, .data, .data, .data, .sentinel, .sentinel], laidTests := true, laidLooks := .later }
def SnapDoesUptoCardSaid : Prop := Claim7.holds Tryz.pinned (.plain (OpenSpec.upto snapDoesSpec)) snapDoesUptoCard
end Rows
end Go.Proofs.YtdonkmkjblofpaaGreatDoor
