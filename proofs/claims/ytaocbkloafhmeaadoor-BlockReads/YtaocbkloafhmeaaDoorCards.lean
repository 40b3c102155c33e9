/-
  DERIVED. GIVEN WITH THE SEED: THE CARDS: each row of YtaocbkloafhmeaaDoorRows.lean that lists a variable, with what it lists TIED to the program's text (the seventh form; the later family's looks); each row that meets fmt, with fmt's text TOLD by the authors' own Lean function (tested against real Go, not proved from fmt's source: count such statements apart). THE CARD IS WHAT COUNTS. Prove the row's statement (the work); the ties are given (YtaocbkloafhmeaaDoorTie.lean); close each card by the builder's one call (the guide's Derived/Test/ToyasCard.lean, 'card_holds'). Laid BY PROGRAM, IN A SANDBOX (cutbox-door.mjs). By AI agents, Wed Nov 11 2026. No macro, syntax, notation, axiom, sorry.
-/
import Derived.Test.YtaocbkloafhmeaaDoorRows
import GoSem.ClaimSeven
namespace Go.Proofs.YtaocbkloafhmeaaDoor
namespace Rows

/-- THE TIED CARD OF 'parchmentlaw09.BlockRevs'. -/
def blockRevsCard : Claim7 := { stood := { row := blockRevsRow, standIns := [], harness := (true, "40e7f1381cee0cbdb89156a3353a0b38242dcd65691eaad4f4cf21263191b3a0"), looks := false }, kinds := [], alts := [], laidByText := true, laidKinds := [.data, .data, .data], laidTests := true, laidLooks := .later }
def BlockRevsCardSaid : Prop := Claim7.holds Tryd.pinned (.plain (OpenSpec.ofChange blockRevsSpec)) blockRevsCard

/-- THE TIED CARD OF 'parchmentlaw09.BlockHashes'. -/
def blockHashesCard : Claim7 := { stood := { row := blockHashesRow, standIns := [], harness := (true, "40e7f1381cee0cbdb89156a3353a0b38242dcd65691eaad4f4cf21263191b3a0"), looks := false }, kinds := [], alts := [], laidByText := true, laidKinds := [.data, .data, .data], laidTests := true, laidLooks := .later }
def BlockHashesCardSaid : Prop := Claim7.holds Tryd.pinned (.plain (OpenSpec.ofChange blockHashesSpec)) blockHashesCard

/-- THE TIED CARD OF 'parchmentlaw09.BlockFrames'. -/
def blockFramesCard : Claim7 := { stood := { row := blockFramesRow, standIns := [], harness := (true, "40e7f1381cee0cbdb89156a3353a0b38242dcd65691eaad4f4cf21263191b3a0"), looks := false }, kinds := [], alts := [], laidByText := true, laidKinds := [.data, .data, .data], laidTests := true, laidLooks := .later }
def BlockFramesCardSaid : Prop := Claim7.holds Tryd.pinned (.plain (OpenSpec.ofChange blockFramesSpec)) blockFramesCard

/-- THE TIED CARD OF 'parchmentlaw09.BlockReads'. -/
def blockReadsCard : Claim7 := { stood := { row := blockReadsRow, standIns := [], harness := (true, "40e7f1381cee0cbdb89156a3353a0b38242dcd65691eaad4f4cf21263191b3a0"), looks := false }, kinds := [], alts := [], laidByText := true, laidKinds := [.data, .data, .data], laidTests := true, laidLooks := .later }
def BlockReadsCardSaid : Prop := Claim7.holds Tryd.pinned (.plain (OpenSpec.ofChange blockReadsSpec)) blockReadsCard

/-- THE TIED CARD OF 'parchmentlaw09.BlockBodies'. -/
def blockBodiesCard : Claim7 := { stood := { row := blockBodiesRow, standIns := [], harness := (true, "40e7f1381cee0cbdb89156a3353a0b38242dcd65691eaad4f4cf21263191b3a0"), looks := false }, kinds := [], alts := [], laidByText := true, laidKinds := [.data, .data, .data], laidTests := true, laidLooks := .later }
def BlockBodiesCardSaid : Prop := Claim7.holds Tryd.pinned (.plain (OpenSpec.ofChange blockBodiesSpec)) blockBodiesCard

/-- THE TIED CARD OF 'parchmentlaw09.BlockUnlike'. -/
def blockUnlikeCard : Claim7 := { stood := { row := blockUnlikeRow, standIns := [], harness := (true, "40e7f1381cee0cbdb89156a3353a0b38242dcd65691eaad4f4cf21263191b3a0"), looks := false }, kinds := [], alts := [], laidByText := true, laidKinds := [.data, .data, .data], laidTests := true, laidLooks := .later }
def BlockUnlikeCardSaid : Prop := Claim7.holds Tryd.pinned (.plain (OpenSpec.ofChange blockUnlikeSpec)) blockUnlikeCard

/-- THE SECOND FORM's CARD OF 'parchmentlaw09.BlockRevs'. -/
def blockRevsUptoCard : Claim7 := { stood := { row := blockRevsUptoRow, standIns := [], harness := (true, "40e7f1381cee0cbdb89156a3353a0b38242dcd65691eaad4f4cf21263191b3a0"), looks := false }, kinds := [], alts := [], laidByText := true, laidKinds := [.data, .data, .data], laidTests := true, laidLooks := .later }
def BlockRevsUptoCardSaid : Prop := Claim7.holds Tryd.pinned (.plain (OpenSpec.upto blockRevsSpec)) blockRevsUptoCard

/-- THE SECOND FORM's CARD OF 'parchmentlaw09.BlockHashes'. -/
def blockHashesUptoCard : Claim7 := { stood := { row := blockHashesUptoRow, standIns := [], harness := (true, "40e7f1381cee0cbdb89156a3353a0b38242dcd65691eaad4f4cf21263191b3a0"), looks := false }, kinds := [], alts := [], laidByText := true, laidKinds := [.data, .data, .data], laidTests := true, laidLooks := .later }
def BlockHashesUptoCardSaid : Prop := Claim7.holds Tryd.pinned (.plain (OpenSpec.upto blockHashesSpec)) blockHashesUptoCard

/-- THE SECOND FORM's CARD OF 'parchmentlaw09.BlockFrames'. -/
def blockFramesUptoCard : Claim7 := { stood := { row := blockFramesUptoRow, standIns := [], harness := (true, "40e7f1381cee0cbdb89156a3353a0b38242dcd65691eaad4f4cf21263191b3a0"), looks := false }, kinds := [], alts := [], laidByText := true, laidKinds := [.data, .data, .data], laidTests := true, laidLooks := .later }
def BlockFramesUptoCardSaid : Prop := Claim7.holds Tryd.pinned (.plain (OpenSpec.upto blockFramesSpec)) blockFramesUptoCard

/-- THE SECOND FORM's CARD OF 'parchmentlaw09.BlockReads'. -/
def blockReadsUptoCard : Claim7 := { stood := { row := blockReadsUptoRow, standIns := [], harness := (true, "40e7f1381cee0cbdb89156a3353a0b38242dcd65691eaad4f4cf21263191b3a0"), looks := false }, kinds := [], alts := [], laidByText := true, laidKinds := [.data, .data, .data], laidTests := true, laidLooks := .later }
def BlockReadsUptoCardSaid : Prop := Claim7.holds Tryd.pinned (.plain (OpenSpec.upto blockReadsSpec)) blockReadsUptoCard

/-- THE SECOND FORM's CARD OF 'parchmentlaw09.BlockBodies'. -/
def blockBodiesUptoCard : Claim7 := { stood := { row := blockBodiesUptoRow, standIns := [], harness := (true, "40e7f1381cee0cbdb89156a3353a0b38242dcd65691eaad4f4cf21263191b3a0"), looks := false }, kinds := [], alts := [], laidByText := true, laidKinds := [.data, .data, .data], laidTests := true, laidLooks := .later }
def BlockBodiesUptoCardSaid : Prop := Claim7.holds Tryd.pinned (.plain (OpenSpec.upto blockBodiesSpec)) blockBodiesUptoCard

/-- THE SECOND FORM's CARD OF 'parchmentlaw09.BlockUnlike'. -/
def blockUnlikeUptoCard : Claim7 := { stood := { row := blockUnlikeUptoRow, standIns := [], harness := (true, "40e7f1381cee0cbdb89156a3353a0b38242dcd65691eaad4f4cf21263191b3a0"), looks := false }, kinds := [], alts := [], laidByText := true, laidKinds := [.data, .data, .data], laidTests := true, laidLooks := .later }
def BlockUnlikeUptoCardSaid : Prop := Claim7.holds Tryd.pinned (.plain (OpenSpec.upto blockUnlikeSpec)) blockUnlikeUptoCard
end Rows
end Go.Proofs.YtaocbkloafhmeaaDoor
