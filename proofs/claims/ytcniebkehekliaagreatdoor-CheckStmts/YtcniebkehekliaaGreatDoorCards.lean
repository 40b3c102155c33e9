/-
  DERIVED. GIVEN WITH THE SEED: THE CARDS: each row of YtcniebkehekliaaGreatDoorRows.lean that lists a variable, with what it lists TIED to the program's text (the seventh form; the later family's looks); each row that meets fmt, with fmt's text TOLD by the authors' own Lean function (tested against real Go, not proved from fmt's source: count such statements apart). THE CARD IS WHAT COUNTS. Prove the row's statement (the work); the ties are given (YtcniebkehekliaaGreatDoorTie.lean); close each card by the builder's one call (the guide's Derived/Test/ToyasCard.lean, 'card_holds'). Laid BY PROGRAM, IN A SANDBOX (cutbox-door.mjs). By AI agents, Wed Nov 11 2026. No macro, syntax, notation, axiom, sorry.
-/
import Derived.Test.YtcniebkehekliaaGreatDoorRows
import GoSem.ClaimSeven
namespace Go.Proofs.YtcniebkehekliaaGreatDoor
namespace Rows

/-- THE TIED CARD OF 'parchmentlaw13.CheckKinds'. -/
def checkKindsCard : Claim7 := { stood := { row := checkKindsRow, standIns := [], harness := (true, "f788a3864f779b9fbaa687d636754582935c566e9a25cecda83efadd9b67909d"), looks := true }, kinds := [], alts := [], laidByText := true, laidKinds := [.data, .data, .data, .sentinel, .sentinel], laidTests := true, laidLooks := .later }
def CheckKindsCardSaid : Prop := Claim7.holds Tryz.pinned (.plain (OpenSpec.ofChange checkKindsSpec)) checkKindsCard

/-- THE TIED CARD OF 'parchmentlaw13.CheckStmts'. -/
def checkStmtsCard : Claim7 := { stood := { row := checkStmtsRow, standIns := [], harness := (true, "f788a3864f779b9fbaa687d636754582935c566e9a25cecda83efadd9b67909d"), looks := true }, kinds := [], alts := [], laidByText := true, laidKinds := [.data, .data, .data, .sentinel, .sentinel], laidTests := true, laidLooks := .later }
def CheckStmtsCardSaid : Prop := Claim7.holds Tryz.pinned (.plain (OpenSpec.ofChange checkStmtsSpec)) checkStmtsCard

/-- THE TIED CARD OF 'parchmentlaw13.CheckSound'. -/
def checkSoundCard : Claim7 := { stood := { row := checkSoundRow, standIns := [], harness := (true, "f788a3864f779b9fbaa687d636754582935c566e9a25cecda83efadd9b67909d"), looks := true }, kinds := [], alts := [], laidByText := true, laidKinds := [.data, .data, .data, .sentinel, .sentinel], laidTests := true, laidLooks := .later }
def CheckSoundCardSaid : Prop := Claim7.holds Tryz.pinned (.plain (OpenSpec.ofChange checkSoundSpec)) checkSoundCard

/-- THE SECOND FORM's CARD OF 'parchmentlaw13.CheckKinds'. -/
def checkKindsUptoCard : Claim7 := { stood := { row := checkKindsUptoRow, standIns := [], harness := (true, "f788a3864f779b9fbaa687d636754582935c566e9a25cecda83efadd9b67909d"), looks := true }, kinds := [], alts := [], laidByText := true, laidKinds := [.data, .data, .data, .sentinel, .sentinel], laidTests := true, laidLooks := .later }
def CheckKindsUptoCardSaid : Prop := Claim7.holds Tryz.pinned (.plain (OpenSpec.upto checkKindsSpec)) checkKindsUptoCard

/-- THE SECOND FORM's CARD OF 'parchmentlaw13.CheckStmts'. -/
def checkStmtsUptoCard : Claim7 := { stood := { row := checkStmtsUptoRow, standIns := [], harness := (true, "f788a3864f779b9fbaa687d636754582935c566e9a25cecda83efadd9b67909d"), looks := true }, kinds := [], alts := [], laidByText := true, laidKinds := [.data, .data, .data, .sentinel, .sentinel], laidTests := true, laidLooks := .later }
def CheckStmtsUptoCardSaid : Prop := Claim7.holds Tryz.pinned (.plain (OpenSpec.upto checkStmtsSpec)) checkStmtsUptoCard

/-- THE SECOND FORM's CARD OF 'parchmentlaw13.CheckSound'. -/
def checkSoundUptoCard : Claim7 := { stood := { row := checkSoundUptoRow, standIns := [], harness := (true, "f788a3864f779b9fbaa687d636754582935c566e9a25cecda83efadd9b67909d"), looks := true }, kinds := [], alts := [], laidByText := true, laidKinds := [.data, .data, .data, .sentinel, .sentinel], laidTests := true, laidLooks := .later }
def CheckSoundUptoCardSaid : Prop := Claim7.holds Tryz.pinned (.plain (OpenSpec.upto checkSoundSpec)) checkSoundUptoCard
end Rows
end Go.Proofs.YtcniebkehekliaaGreatDoor
