/-
  DERIVED. GIVEN WITH THE SEED: THE CARDS: each row of YtdonkmkjblofpaaDoorRows.lean that lists a variable, with what it lists TIED to the program's text (the seventh form; the later family's looks); each row that meets fmt, with fmt's text TOLD by the authors' own Lean function (tested against real Go, not proved from fmt's source: count such statements apart). THE CARD IS WHAT COUNTS. Prove the row's statement (the work); the ties are given (YtdonkmkjblofpaaDoorTie.lean); close each card by the builder's one call (the guide's Derived/Test/ToyasCard.lean, 'card_holds'). Laid BY PROGRAM, IN A SANDBOX (cutbox-door.mjs). By AI agents, Wed Nov 11 2026. No macro, syntax, notation, axiom, sorry.
-/
import Derived.Test.YtdonkmkjblofpaaDoorRows
import GoSem.ClaimSeven
namespace Go.Proofs.YtdonkmkjblofpaaDoor
namespace Rows

/-- THE TIED CARD OF 'bulwarklaw05.WalLoses'. -/
def walLosesCard : Claim7 := { stood := { row := walLosesRow, standIns := [], harness := (true, "8c5eb1d44e0db744908e24aafa09b251ab1b44a5ac6cf8d0b08aa46df1a667a6"), looks := true }, kinds := [], alts := [], laidByText := true, laidKinds := [.data, .data, .data, .data, .sentinel, .sentinel], laidTests := true, laidLooks := .later }
def WalLosesCardSaid : Prop := Claim7.holds Tryd.pinned (.plain (OpenSpec.ofChange walLosesSpec)) walLosesCard

/-- THE TIED CARD OF 'bulwarklaw05.WalFull'. -/
def walFullCard : Claim7 := { stood := { row := walFullRow, standIns := [], harness := (true, "8c5eb1d44e0db744908e24aafa09b251ab1b44a5ac6cf8d0b08aa46df1a667a6"), looks := true }, kinds := [], alts := [], laidByText := true, laidKinds := [.data, .data, .data, .data, .sentinel, .sentinel], laidTests := true, laidLooks := .later }
def WalFullCardSaid : Prop := Claim7.holds Tryd.pinned (.plain (OpenSpec.ofChange walFullSpec)) walFullCard

/-- THE TIED CARD OF 'bulwarklaw05.WalSegments'. -/
def walSegmentsCard : Claim7 := { stood := { row := walSegmentsRow, standIns := [], harness := (true, "8c5eb1d44e0db744908e24aafa09b251ab1b44a5ac6cf8d0b08aa46df1a667a6"), looks := true }, kinds := [], alts := [], laidByText := true, laidKinds := [.data, .data, .data, .data, .sentinel, .sentinel], laidTests := true, laidLooks := .later }
def WalSegmentsCardSaid : Prop := Claim7.holds Tryd.pinned (.plain (OpenSpec.ofChange walSegmentsSpec)) walSegmentsCard

/-- THE TIED CARD OF 'bulwarklaw06.SnapLoses'. -/
def snapLosesCard : Claim7 := { stood := { row := snapLosesRow, standIns := [], harness := (true, "8c5eb1d44e0db744908e24aafa09b251ab1b44a5ac6cf8d0b08aa46df1a667a6"), looks := true }, kinds := [], alts := [], laidByText := true, laidKinds := [.data, .data, .data, .data, .sentinel, .sentinel], laidTests := true, laidLooks := .later }
def SnapLosesCardSaid : Prop := Claim7.holds Tryd.pinned (.plain (OpenSpec.ofChange snapLosesSpec)) snapLosesCard

/-- THE TIED CARD OF 'bulwarklaw06.SnapBack'. -/
def snapBackCard : Claim7 := { stood := { row := snapBackRow, standIns := [], harness := (true, "8c5eb1d44e0db744908e24aafa09b251ab1b44a5ac6cf8d0b08aa46df1a667a6"), looks := true }, kinds := [], alts := [], laidByText := true, laidKinds := [.data, .data, .data, .data, .sentinel, .sentinel], laidTests := true, laidLooks := .later }
def SnapBackCardSaid : Prop := Claim7.holds Tryd.pinned (.plain (OpenSpec.ofChange snapBackSpec)) snapBackCard

/-- THE TIED CARD OF 'bulwarklaw06.SnapKeeps'. -/
def snapKeepsCard : Claim7 := { stood := { row := snapKeepsRow, standIns := [], harness := (true, "8c5eb1d44e0db744908e24aafa09b251ab1b44a5ac6cf8d0b08aa46df1a667a6"), looks := true }, kinds := [], alts := [], laidByText := true, laidKinds := [.data, .data, .data, .data, .sentinel, .sentinel], laidTests := true, laidLooks := .later }
def SnapKeepsCardSaid : Prop := Claim7.holds Tryd.pinned (.plain (OpenSpec.ofChange snapKeepsSpec)) snapKeepsCard

/-- THE SECOND FORM's CARD OF 'bulwarklaw05.WalLoses'. -/
def walLosesUptoCard : Claim7 := { stood := { row := walLosesUptoRow, standIns := [], harness := (true, "8c5eb1d44e0db744908e24aafa09b251ab1b44a5ac6cf8d0b08aa46df1a667a6"), looks := true }, kinds := [], alts := [], laidByText := true, laidKinds := [.data, .data, .data, .data, .sentinel, .sentinel], laidTests := true, laidLooks := .later }
def WalLosesUptoCardSaid : Prop := Claim7.holds Tryd.pinned (.plain (OpenSpec.upto walLosesSpec)) walLosesUptoCard

/-- THE SECOND FORM's CARD OF 'bulwarklaw05.WalFull'. -/
def walFullUptoCard : Claim7 := { stood := { row := walFullUptoRow, standIns := [], harness := (true, "8c5eb1d44e0db744908e24aafa09b251ab1b44a5ac6cf8d0b08aa46df1a667a6"), looks := true }, kinds := [], alts := [], laidByText := true, laidKinds := [.data, .data, .data, .data, .sentinel, .sentinel], laidTests := true, laidLooks := .later }
def WalFullUptoCardSaid : Prop := Claim7.holds Tryd.pinned (.plain (OpenSpec.upto walFullSpec)) walFullUptoCard

/-- THE SECOND FORM's CARD OF 'bulwarklaw05.WalSegments'. -/
def walSegmentsUptoCard : Claim7 := { stood := { row := walSegmentsUptoRow, standIns := [], harness := (true, "8c5eb1d44e0db744908e24aafa09b251ab1b44a5ac6cf8d0b08aa46df1a667a6"), looks := true }, kinds := [], alts := [], laidByText := true, laidKinds := [.data, .data, .data, .data, .sentinel, .sentinel], laidTests := true, laidLooks := .later }
def WalSegmentsUptoCardSaid : Prop := Claim7.holds Tryd.pinned (.plain (OpenSpec.upto walSegmentsSpec)) walSegmentsUptoCard

/-- THE SECOND FORM's CARD OF 'bulwarklaw06.SnapLoses'. -/
def snapLosesUptoCard : Claim7 := { stood := { row := snapLosesUptoRow, standIns := [], harness := (true, "8c5eb1d44e0db744908e24aafa09b251ab1b44a5ac6cf8d0b08aa46df1a667a6"), looks := true }, kinds := [], alts := [], laidByText := true, laidKinds := [.data, .data, .data, .data, .sentinel, .sentinel], laidTests := true, laidLooks := .later }
def SnapLosesUptoCardSaid : Prop := Claim7.holds Tryd.pinned (.plain (OpenSpec.upto snapLosesSpec)) snapLosesUptoCard

/-- THE SECOND FORM's CARD OF 'bulwarklaw06.SnapBack'. -/
def snapBackUptoCard : Claim7 := { stood := { row := snapBackUptoRow, standIns := [], harness := (true, "8c5eb1d44e0db744908e24aafa09b251ab1b44a5ac6cf8d0b08aa46df1a667a6"), looks := true }, kinds := [], alts := [], laidByText := true, laidKinds := [.data, .data, .data, .data, .sentinel, .sentinel], laidTests := true, laidLooks := .later }
def SnapBackUptoCardSaid : Prop := Claim7.holds Tryd.pinned (.plain (OpenSpec.upto snapBackSpec)) snapBackUptoCard

/-- THE SECOND FORM's CARD OF 'bulwarklaw06.SnapKeeps'. -/
def snapKeepsUptoCard : Claim7 := { stood := { row := snapKeepsUptoRow, standIns := [], harness := (true, "8c5eb1d44e0db744908e24aafa09b251ab1b44a5ac6cf8d0b08aa46df1a667a6"), looks := true }, kinds := [], alts := [], laidByText := true, laidKinds := [.data, .data, .data, .data, .sentinel, .sentinel], laidTests := true, laidLooks := .later }
def SnapKeepsUptoCardSaid : Prop := Claim7.holds Tryd.pinned (.plain (OpenSpec.upto snapKeepsSpec)) snapKeepsUptoCard
end Rows
end Go.Proofs.YtdonkmkjblofpaaDoor
