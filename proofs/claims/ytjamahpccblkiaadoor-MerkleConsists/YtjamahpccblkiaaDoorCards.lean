/-
  DERIVED. GIVEN WITH THE SEED: THE CARDS: each row of YtjamahpccblkiaaDoorRows.lean that lists a variable, with what it lists TIED to the program's text (the seventh form; the later family's looks); each row that meets fmt, with fmt's text TOLD by the authors' own Lean function (tested against real Go, not proved from fmt's source: count such statements apart). THE CARD IS WHAT COUNTS. Prove the row's statement (the work); the ties are given (YtjamahpccblkiaaDoorTie.lean); close each card by the builder's one call (the guide's Derived/Test/ToyasCard.lean, 'card_holds'). Laid BY PROGRAM, IN A SANDBOX (cutbox-door.mjs). By AI agents, Wed Nov 11 2026. No macro, syntax, notation, axiom, sorry.
-/
import Derived.Test.YtjamahpccblkiaaDoorRows
import GoSem.ClaimSeven
namespace Go.Proofs.YtjamahpccblkiaaDoor
namespace Rows

/-- THE TIED CARD OF 'parchmentlaw08.MerkleRoots'. -/
def merkleRootsCard : Claim7 := { stood := { row := merkleRootsRow, standIns := [], harness := (true, "903f1cbc29b573e22eccba4aedabfe1cf251ee41e8385f096d59db9cd26f7c51"), looks := false }, kinds := [], alts := [], laidByText := true, laidKinds := [.data, .data, .data], laidTests := true, laidLooks := .later }
def MerkleRootsCardSaid : Prop := Claim7.holds Tryd.pinned (.plain (OpenSpec.ofChange merkleRootsSpec)) merkleRootsCard

/-- THE TIED CARD OF 'parchmentlaw08.MerklePaths'. -/
def merklePathsCard : Claim7 := { stood := { row := merklePathsRow, standIns := [], harness := (true, "903f1cbc29b573e22eccba4aedabfe1cf251ee41e8385f096d59db9cd26f7c51"), looks := false }, kinds := [], alts := [], laidByText := true, laidKinds := [.data, .data, .data], laidTests := true, laidLooks := .later }
def MerklePathsCardSaid : Prop := Claim7.holds Tryd.pinned (.plain (OpenSpec.ofChange merklePathsSpec)) merklePathsCard

/-- THE TIED CARD OF 'parchmentlaw08.MerkleGrows'. -/
def merkleGrowsCard : Claim7 := { stood := { row := merkleGrowsRow, standIns := [], harness := (true, "903f1cbc29b573e22eccba4aedabfe1cf251ee41e8385f096d59db9cd26f7c51"), looks := false }, kinds := [], alts := [], laidByText := true, laidKinds := [.data, .data, .data], laidTests := true, laidLooks := .later }
def MerkleGrowsCardSaid : Prop := Claim7.holds Tryd.pinned (.plain (OpenSpec.ofChange merkleGrowsSpec)) merkleGrowsCard

/-- THE TIED CARD OF 'parchmentlaw08.MerkleVerifies'. -/
def merkleVerifiesCard : Claim7 := { stood := { row := merkleVerifiesRow, standIns := [], harness := (true, "903f1cbc29b573e22eccba4aedabfe1cf251ee41e8385f096d59db9cd26f7c51"), looks := false }, kinds := [], alts := [], laidByText := true, laidKinds := [.data, .data, .data], laidTests := true, laidLooks := .later }
def MerkleVerifiesCardSaid : Prop := Claim7.holds Tryd.pinned (.plain (OpenSpec.ofChange merkleVerifiesSpec)) merkleVerifiesCard

/-- THE TIED CARD OF 'parchmentlaw08.MerkleConsists'. -/
def merkleConsistsCard : Claim7 := { stood := { row := merkleConsistsRow, standIns := [], harness := (true, "903f1cbc29b573e22eccba4aedabfe1cf251ee41e8385f096d59db9cd26f7c51"), looks := false }, kinds := [], alts := [], laidByText := true, laidKinds := [.data, .data, .data], laidTests := true, laidLooks := .later }
def MerkleConsistsCardSaid : Prop := Claim7.holds Tryd.pinned (.plain (OpenSpec.ofChange merkleConsistsSpec)) merkleConsistsCard

/-- THE TIED CARD OF 'parchmentlaw08.MerkleNone'. -/
def merkleNoneCard : Claim7 := { stood := { row := merkleNoneRow, standIns := [], harness := (true, "903f1cbc29b573e22eccba4aedabfe1cf251ee41e8385f096d59db9cd26f7c51"), looks := false }, kinds := [], alts := [], laidByText := true, laidKinds := [.data, .data, .data], laidTests := true, laidLooks := .later }
def MerkleNoneCardSaid : Prop := Claim7.holds Tryd.pinned (.plain (OpenSpec.ofChange merkleNoneSpec)) merkleNoneCard

/-- THE SECOND FORM's CARD OF 'parchmentlaw08.MerkleRoots'. -/
def merkleRootsUptoCard : Claim7 := { stood := { row := merkleRootsUptoRow, standIns := [], harness := (true, "903f1cbc29b573e22eccba4aedabfe1cf251ee41e8385f096d59db9cd26f7c51"), looks := false }, kinds := [], alts := [], laidByText := true, laidKinds := [.data, .data, .data], laidTests := true, laidLooks := .later }
def MerkleRootsUptoCardSaid : Prop := Claim7.holds Tryd.pinned (.plain (OpenSpec.upto merkleRootsSpec)) merkleRootsUptoCard

/-- THE SECOND FORM's CARD OF 'parchmentlaw08.MerklePaths'. -/
def merklePathsUptoCard : Claim7 := { stood := { row := merklePathsUptoRow, standIns := [], harness := (true, "903f1cbc29b573e22eccba4aedabfe1cf251ee41e8385f096d59db9cd26f7c51"), looks := false }, kinds := [], alts := [], laidByText := true, laidKinds := [.data, .data, .data], laidTests := true, laidLooks := .later }
def MerklePathsUptoCardSaid : Prop := Claim7.holds Tryd.pinned (.plain (OpenSpec.upto merklePathsSpec)) merklePathsUptoCard

/-- THE SECOND FORM's CARD OF 'parchmentlaw08.MerkleGrows'. -/
def merkleGrowsUptoCard : Claim7 := { stood := { row := merkleGrowsUptoRow, standIns := [], harness := (true, "903f1cbc29b573e22eccba4aedabfe1cf251ee41e8385f096d59db9cd26f7c51"), looks := false }, kinds := [], alts := [], laidByText := true, laidKinds := [.data, .data, .data], laidTests := true, laidLooks := .later }
def MerkleGrowsUptoCardSaid : Prop := Claim7.holds Tryd.pinned (.plain (OpenSpec.upto merkleGrowsSpec)) merkleGrowsUptoCard

/-- THE SECOND FORM's CARD OF 'parchmentlaw08.MerkleVerifies'. -/
def merkleVerifiesUptoCard : Claim7 := { stood := { row := merkleVerifiesUptoRow, standIns := [], harness := (true, "903f1cbc29b573e22eccba4aedabfe1cf251ee41e8385f096d59db9cd26f7c51"), looks := false }, kinds := [], alts := [], laidByText := true, laidKinds := [.data, .data, .data], laidTests := true, laidLooks := .later }
def MerkleVerifiesUptoCardSaid : Prop := Claim7.holds Tryd.pinned (.plain (OpenSpec.upto merkleVerifiesSpec)) merkleVerifiesUptoCard

/-- THE SECOND FORM's CARD OF 'parchmentlaw08.MerkleConsists'. -/
def merkleConsistsUptoCard : Claim7 := { stood := { row := merkleConsistsUptoRow, standIns := [], harness := (true, "903f1cbc29b573e22eccba4aedabfe1cf251ee41e8385f096d59db9cd26f7c51"), looks := false }, kinds := [], alts := [], laidByText := true, laidKinds := [.data, .data, .data], laidTests := true, laidLooks := .later }
def MerkleConsistsUptoCardSaid : Prop := Claim7.holds Tryd.pinned (.plain (OpenSpec.upto merkleConsistsSpec)) merkleConsistsUptoCard

/-- THE SECOND FORM's CARD OF 'parchmentlaw08.MerkleNone'. -/
def merkleNoneUptoCard : Claim7 := { stood := { row := merkleNoneUptoRow, standIns := [], harness := (true, "903f1cbc29b573e22eccba4aedabfe1cf251ee41e8385f096d59db9cd26f7c51"), looks := false }, kinds := [], alts := [], laidByText := true, laidKinds := [.data, .data, .data], laidTests := true, laidLooks := .later }
def MerkleNoneUptoCardSaid : Prop := Claim7.holds Tryd.pinned (.plain (OpenSpec.upto merkleNoneSpec)) merkleNoneUptoCard
end Rows
end Go.Proofs.YtjamahpccblkiaaDoor
