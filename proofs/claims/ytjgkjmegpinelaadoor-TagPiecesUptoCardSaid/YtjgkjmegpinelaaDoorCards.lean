/-
  DERIVED. GIVEN WITH THE SEED: THE CARDS: each row of YtjgkjmegpinelaaDoorRows.lean that lists a variable, with what it lists TIED to the program's text (the seventh form; the later family's looks); each row that meets fmt, with fmt's text TOLD by the authors' own Lean function (tested against real Go, not proved from fmt's source: count such statements apart). THE CARD IS WHAT COUNTS. Prove the row's statement (the work); the ties are given (YtjgkjmegpinelaaDoorTie.lean); close each card by the builder's one call (the guide's Derived/Test/ToyasCard.lean, 'card_holds'). Laid BY PROGRAM, IN A SANDBOX (cutbox-door.mjs). By AI agents, Wed Nov 11 2026. No macro, syntax, notation, axiom, sorry.
-/
import Derived.Test.YtjgkjmegpinelaaDoorRows
import GoSem.ClaimSeven
namespace Go.Proofs.YtjgkjmegpinelaaDoor
namespace Rows

/-- THE TIED CARD OF 'bulwarklaw07.TagMakes'. -/
def tagMakesCard : Claim7 := { stood := { row := tagMakesRow, standIns := [], harness := (true, "68c3afd3c6013d54ceb9c4621d93f2c4d98372453fabfe656ba60990aba3a776"), looks := true }, kinds := [], alts := [], laidByText := true, laidKinds := [.data, .data, .data], laidTests := true, laidLooks := .later }
def TagMakesCardSaid : Prop := Claim7.holds Tryd.pinned (.plain (OpenSpec.ofChange tagMakesSpec)) tagMakesCard

/-- THE TIED CARD OF 'bulwarklaw07.TagReads'. -/
def tagReadsCard : Claim7 := { stood := { row := tagReadsRow, standIns := [], harness := (true, "68c3afd3c6013d54ceb9c4621d93f2c4d98372453fabfe656ba60990aba3a776"), looks := true }, kinds := [], alts := [], laidByText := true, laidKinds := [.data, .data, .data, .data, .sentinel, .sentinel, .pinned], laidTests := true, laidLooks := .later }
def TagReadsCardSaid : Prop := Claim7.holds Tryd.pinned (.plain (OpenSpec.ofChange tagReadsSpec)) tagReadsCard

/-- THE TIED CARD OF 'bulwarklaw07.TagFrames'. -/
def tagFramesCard : Claim7 := { stood := { row := tagFramesRow, standIns := [], harness := (true, "68c3afd3c6013d54ceb9c4621d93f2c4d98372453fabfe656ba60990aba3a776"), looks := true }, kinds := [], alts := [], laidByText := true, laidKinds := [.data, .data, .data, .data, .sentinel, .sentinel, .pinned], laidTests := true, laidLooks := .later }
def TagFramesCardSaid : Prop := Claim7.holds Tryd.pinned (.plain (OpenSpec.ofChange tagFramesSpec)) tagFramesCard

/-- THE TIED CARD OF 'bulwarklaw07.TagBack'. -/
def tagBackCard : Claim7 := { stood := { row := tagBackRow, standIns := [], harness := (true, "68c3afd3c6013d54ceb9c4621d93f2c4d98372453fabfe656ba60990aba3a776"), looks := true }, kinds := [], alts := [], laidByText := true, laidKinds := [.data, .data, .data, .data, .sentinel, .sentinel, .pinned], laidTests := true, laidLooks := .later }
def TagBackCardSaid : Prop := Claim7.holds Tryd.pinned (.plain (OpenSpec.ofChange tagBackSpec)) tagBackCard

/-- THE TIED CARD OF 'bulwarklaw07.TagPieces'. -/
def tagPiecesCard : Claim7 := { stood := { row := tagPiecesRow, standIns := [], harness := (true, "68c3afd3c6013d54ceb9c4621d93f2c4d98372453fabfe656ba60990aba3a776"), looks := true }, kinds := [], alts := [], laidByText := true, laidKinds := [.data, .data, .data, .data, .sentinel, .sentinel, .pinned], laidTests := true, laidLooks := .later }
def TagPiecesCardSaid : Prop := Claim7.holds Tryd.pinned (.plain (OpenSpec.ofChange tagPiecesSpec)) tagPiecesCard

/-- THE TIED CARD OF 'bulwarklaw07.TagTells'. -/
def tagTellsCard : Claim7 := { stood := { row := tagTellsRow, standIns := [], harness := (true, "68c3afd3c6013d54ceb9c4621d93f2c4d98372453fabfe656ba60990aba3a776"), looks := true }, kinds := [], alts := [], laidByText := true, laidKinds := [.data, .data, .data, .data, .sentinel, .sentinel, .pinned], laidTests := true, laidLooks := .later }
def TagTellsCardSaid : Prop := Claim7.holds Tryd.pinned (.plain (OpenSpec.ofChange tagTellsSpec)) tagTellsCard

/-- THE TIED CARD OF 'bulwarklaw07.TagKeeps'. -/
def tagKeepsCard : Claim7 := { stood := { row := tagKeepsRow, standIns := [], harness := (true, "68c3afd3c6013d54ceb9c4621d93f2c4d98372453fabfe656ba60990aba3a776"), looks := true }, kinds := [], alts := [], laidByText := true, laidKinds := [.data, .data, .data, .data, .sentinel, .sentinel, .pinned], laidTests := true, laidLooks := .later }
def TagKeepsCardSaid : Prop := Claim7.holds Tryd.pinned (.plain (OpenSpec.ofChange tagKeepsSpec)) tagKeepsCard

/-- THE SECOND FORM's CARD OF 'bulwarklaw07.TagMakes'. -/
def tagMakesUptoCard : Claim7 := { stood := { row := tagMakesUptoRow, standIns := [], harness := (true, "68c3afd3c6013d54ceb9c4621d93f2c4d98372453fabfe656ba60990aba3a776"), looks := true }, kinds := [], alts := [], laidByText := true, laidKinds := [.data, .data, .data], laidTests := true, laidLooks := .later }
def TagMakesUptoCardSaid : Prop := Claim7.holds Tryd.pinned (.plain (OpenSpec.upto tagMakesSpec)) tagMakesUptoCard

/-- THE SECOND FORM's CARD OF 'bulwarklaw07.TagReads'. -/
def tagReadsUptoCard : Claim7 := { stood := { row := tagReadsUptoRow, standIns := [], harness := (true, "68c3afd3c6013d54ceb9c4621d93f2c4d98372453fabfe656ba60990aba3a776"), looks := true }, kinds := [], alts := [], laidByText := true, laidKinds := [.data, .data, .data, .data, .sentinel, .sentinel, .pinned], laidTests := true, laidLooks := .later }
def TagReadsUptoCardSaid : Prop := Claim7.holds Tryd.pinned (.plain (OpenSpec.upto tagReadsSpec)) tagReadsUptoCard

/-- THE SECOND FORM's CARD OF 'bulwarklaw07.TagFrames'. -/
def tagFramesUptoCard : Claim7 := { stood := { row := tagFramesUptoRow, standIns := [], harness := (true, "68c3afd3c6013d54ceb9c4621d93f2c4d98372453fabfe656ba60990aba3a776"), looks := true }, kinds := [], alts := [], laidByText := true, laidKinds := [.data, .data, .data, .data, .sentinel, .sentinel, .pinned], laidTests := true, laidLooks := .later }
def TagFramesUptoCardSaid : Prop := Claim7.holds Tryd.pinned (.plain (OpenSpec.upto tagFramesSpec)) tagFramesUptoCard

/-- THE SECOND FORM's CARD OF 'bulwarklaw07.TagBack'. -/
def tagBackUptoCard : Claim7 := { stood := { row := tagBackUptoRow, standIns := [], harness := (true, "68c3afd3c6013d54ceb9c4621d93f2c4d98372453fabfe656ba60990aba3a776"), looks := true }, kinds := [], alts := [], laidByText := true, laidKinds := [.data, .data, .data, .data, .sentinel, .sentinel, .pinned], laidTests := true, laidLooks := .later }
def TagBackUptoCardSaid : Prop := Claim7.holds Tryd.pinned (.plain (OpenSpec.upto tagBackSpec)) tagBackUptoCard

/-- THE SECOND FORM's CARD OF 'bulwarklaw07.TagPieces'. -/
def tagPiecesUptoCard : Claim7 := { stood := { row := tagPiecesUptoRow, standIns := [], harness := (true, "68c3afd3c6013d54ceb9c4621d93f2c4d98372453fabfe656ba60990aba3a776"), looks := true }, kinds := [], alts := [], laidByText := true, laidKinds := [.data, .data, .data, .data, .sentinel, .sentinel, .pinned], laidTests := true, laidLooks := .later }
def TagPiecesUptoCardSaid : Prop := Claim7.holds Tryd.pinned (.plain (OpenSpec.upto tagPiecesSpec)) tagPiecesUptoCard

/-- THE SECOND FORM's CARD OF 'bulwarklaw07.TagTells'. -/
def tagTellsUptoCard : Claim7 := { stood := { row := tagTellsUptoRow, standIns := [], harness := (true, "68c3afd3c6013d54ceb9c4621d93f2c4d98372453fabfe656ba60990aba3a776"), looks := true }, kinds := [], alts := [], laidByText := true, laidKinds := [.data, .data, .data, .data, .sentinel, .sentinel, .pinned], laidTests := true, laidLooks := .later }
def TagTellsUptoCardSaid : Prop := Claim7.holds Tryd.pinned (.plain (OpenSpec.upto tagTellsSpec)) tagTellsUptoCard

/-- THE SECOND FORM's CARD OF 'bulwarklaw07.TagKeeps'. -/
def tagKeepsUptoCard : Claim7 := { stood := { row := tagKeepsUptoRow, standIns := [], harness := (true, "68c3afd3c6013d54ceb9c4621d93f2c4d98372453fabfe656ba60990aba3a776"), looks := true }, kinds := [], alts := [], laidByText := true, laidKinds := [.data, .data, .data, .data, .sentinel, .sentinel, .pinned], laidTests := true, laidLooks := .later }
def TagKeepsUptoCardSaid : Prop := Claim7.holds Tryd.pinned (.plain (OpenSpec.upto tagKeepsSpec)) tagKeepsUptoCard
end Rows
end Go.Proofs.YtjgkjmegpinelaaDoor
