/-
  DERIVED. GIVEN WITH THE SEED: THE CARDS: each row of YtjamahpccblkiabDoorRows.lean that lists a variable, with what it lists TIED to the program's text (the seventh form; the later family's looks); each row that meets fmt, with fmt's text TOLD by the authors' own Lean function (tested against real Go, not proved from fmt's source: count such statements apart). THE CARD IS WHAT COUNTS. Prove the row's statement (the work); the ties are given (YtjamahpccblkiabDoorTie.lean); close each card by the builder's one call (the guide's Derived/Test/ToyasCard.lean, 'card_holds'). Laid BY PROGRAM, IN A SANDBOX (cutbox-door.mjs). By AI agents, Wed Nov 11 2026. No macro, syntax, notation, axiom, sorry.
-/
import Derived.Test.YtjamahpccblkiabDoorRows
import GoSem.ClaimSeven
namespace Go.Proofs.YtjamahpccblkiabDoor
namespace Rows

/-- THE TIED CARD OF 'parchmentlaw08.MerkleChains'. -/
def merkleChainsCard : Claim7 := { stood := { row := merkleChainsRow, standIns := [], harness := (true, "a2f1ffcb1e8693affc980c194a01191e6651e7923859b95008e199abc86ab5cf"), looks := false }, kinds := [], alts := [], laidByText := true, laidKinds := [.data, .data, .data], laidTests := true, laidLooks := .later }
def MerkleChainsCardSaid : Prop := Claim7.holds Tryd.pinned (.plain (OpenSpec.ofChange merkleChainsSpec)) merkleChainsCard

/-- THE SECOND FORM's CARD OF 'parchmentlaw08.MerkleChains'. -/
def merkleChainsUptoCard : Claim7 := { stood := { row := merkleChainsUptoRow, standIns := [], harness := (true, "a2f1ffcb1e8693affc980c194a01191e6651e7923859b95008e199abc86ab5cf"), looks := false }, kinds := [], alts := [], laidByText := true, laidKinds := [.data, .data, .data], laidTests := true, laidLooks := .later }
def MerkleChainsUptoCardSaid : Prop := Claim7.holds Tryd.pinned (.plain (OpenSpec.upto merkleChainsSpec)) merkleChainsUptoCard
end Rows
end Go.Proofs.YtjamahpccblkiabDoor
