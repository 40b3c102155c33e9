/-
  DERIVED. GIVEN WITH THE SEED: THE CARDS: each row of YthgddfkinbcphaaDoorRows.lean that lists a variable, with what it lists TIED to the program's text (the seventh form; the later family's looks); each row that meets fmt, with fmt's text TOLD by the authors' own Lean function (tested against real Go, not proved from fmt's source: count such statements apart). THE CARD IS WHAT COUNTS. Prove the row's statement (the work); the ties are given (YthgddfkinbcphaaDoorTie.lean); close each card by the builder's one call (the guide's Derived/Test/ToyasCard.lean, 'card_holds'). Laid BY PROGRAM, IN A SANDBOX (cutbox-door.mjs). By AI agents, Wed Nov 11 2026. No macro, syntax, notation, axiom, sorry.
-/
import Derived.Test.YthgddfkinbcphaaDoorRows
import GoSem.ClaimSeven
namespace Go.Proofs.YthgddfkinbcphaaDoor
namespace Rows

/-- THE TIED CARD OF 'parchmentlaw01.HashMixes'. -/
def hashMixesCard : Claim7 := { stood := { row := hashMixesRow, standIns := [], harness := (true, "2f7b4ea264860844308ed9c597a3a0f98d8f86925d053f085490a976a409ff04"), looks := false }, kinds := [], alts := [], laidByText := true, laidKinds := [.data], laidTests := true, laidLooks := .later }
def HashMixesCardSaid : Prop := Claim7.holds Tryd.pinned (.plain (OpenSpec.ofChange hashMixesSpec)) hashMixesCard

/-- THE TIED CARD OF 'parchmentlaw01.HashStarts'. -/
def hashStartsCard : Claim7 := { stood := { row := hashStartsRow, standIns := [], harness := (true, "2f7b4ea264860844308ed9c597a3a0f98d8f86925d053f085490a976a409ff04"), looks := false }, kinds := [], alts := [], laidByText := true, laidKinds := [.data], laidTests := true, laidLooks := .later }
def HashStartsCardSaid : Prop := Claim7.holds Tryd.pinned (.plain (OpenSpec.ofChange hashStartsSpec)) hashStartsCard

/-- THE TIED CARD OF 'parchmentlaw01.HashSums'. -/
def hashSumsCard : Claim7 := { stood := { row := hashSumsRow, standIns := [], harness := (true, "2f7b4ea264860844308ed9c597a3a0f98d8f86925d053f085490a976a409ff04"), looks := false }, kinds := [], alts := [], laidByText := true, laidKinds := [.data], laidTests := true, laidLooks := .later }
def HashSumsCardSaid : Prop := Claim7.holds Tryd.pinned (.plain (OpenSpec.ofChange hashSumsSpec)) hashSumsCard

/-- THE TIED CARD OF 'parchmentlaw01.HashLeaves'. -/
def hashLeavesCard : Claim7 := { stood := { row := hashLeavesRow, standIns := [], harness := (true, "2f7b4ea264860844308ed9c597a3a0f98d8f86925d053f085490a976a409ff04"), looks := false }, kinds := [], alts := [], laidByText := true, laidKinds := [.data], laidTests := true, laidLooks := .later }
def HashLeavesCardSaid : Prop := Claim7.holds Tryd.pinned (.plain (OpenSpec.ofChange hashLeavesSpec)) hashLeavesCard

/-- THE TIED CARD OF 'parchmentlaw01.HashCollides'. -/
def hashCollidesCard : Claim7 := { stood := { row := hashCollidesRow, standIns := [], harness := (true, "2f7b4ea264860844308ed9c597a3a0f98d8f86925d053f085490a976a409ff04"), looks := false }, kinds := [], alts := [], laidByText := true, laidKinds := [.data], laidTests := true, laidLooks := .later }
def HashCollidesCardSaid : Prop := Claim7.holds Tryd.pinned (.plain (OpenSpec.ofChange hashCollidesSpec)) hashCollidesCard

/-- THE SECOND FORM's CARD OF 'parchmentlaw01.HashMixes'. -/
def hashMixesUptoCard : Claim7 := { stood := { row := hashMixesUptoRow, standIns := [], harness := (true, "2f7b4ea264860844308ed9c597a3a0f98d8f86925d053f085490a976a409ff04"), looks := false }, kinds := [], alts := [], laidByText := true, laidKinds := [.data], laidTests := true, laidLooks := .later }
def HashMixesUptoCardSaid : Prop := Claim7.holds Tryd.pinned (.plain (OpenSpec.upto hashMixesSpec)) hashMixesUptoCard

/-- THE SECOND FORM's CARD OF 'parchmentlaw01.HashStarts'. -/
def hashStartsUptoCard : Claim7 := { stood := { row := hashStartsUptoRow, standIns := [], harness := (true, "2f7b4ea264860844308ed9c597a3a0f98d8f86925d053f085490a976a409ff04"), looks := false }, kinds := [], alts := [], laidByText := true, laidKinds := [.data], laidTests := true, laidLooks := .later }
def HashStartsUptoCardSaid : Prop := Claim7.holds Tryd.pinned (.plain (OpenSpec.upto hashStartsSpec)) hashStartsUptoCard

/-- THE SECOND FORM's CARD OF 'parchmentlaw01.HashSums'. -/
def hashSumsUptoCard : Claim7 := { stood := { row := hashSumsUptoRow, standIns := [], harness := (true, "2f7b4ea264860844308ed9c597a3a0f98d8f86925d053f085490a976a409ff04"), looks := false }, kinds := [], alts := [], laidByText := true, laidKinds := [.data], laidTests := true, laidLooks := .later }
def HashSumsUptoCardSaid : Prop := Claim7.holds Tryd.pinned (.plain (OpenSpec.upto hashSumsSpec)) hashSumsUptoCard

/-- THE SECOND FORM's CARD OF 'parchmentlaw01.HashLeaves'. -/
def hashLeavesUptoCard : Claim7 := { stood := { row := hashLeavesUptoRow, standIns := [], harness := (true, "2f7b4ea264860844308ed9c597a3a0f98d8f86925d053f085490a976a409ff04"), looks := false }, kinds := [], alts := [], laidByText := true, laidKinds := [.data], laidTests := true, laidLooks := .later }
def HashLeavesUptoCardSaid : Prop := Claim7.holds Tryd.pinned (.plain (OpenSpec.upto hashLeavesSpec)) hashLeavesUptoCard

/-- THE SECOND FORM's CARD OF 'parchmentlaw01.HashCollides'. -/
def hashCollidesUptoCard : Claim7 := { stood := { row := hashCollidesUptoRow, standIns := [], harness := (true, "2f7b4ea264860844308ed9c597a3a0f98d8f86925d053f085490a976a409ff04"), looks := false }, kinds := [], alts := [], laidByText := true, laidKinds := [.data], laidTests := true, laidLooks := .later }
def HashCollidesUptoCardSaid : Prop := Claim7.holds Tryd.pinned (.plain (OpenSpec.upto hashCollidesSpec)) hashCollidesUptoCard
end Rows
end Go.Proofs.YthgddfkinbcphaaDoor
