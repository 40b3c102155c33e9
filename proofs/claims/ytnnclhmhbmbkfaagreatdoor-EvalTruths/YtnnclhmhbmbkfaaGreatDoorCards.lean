/-
  DERIVED. GIVEN WITH THE SEED: THE CARDS: each row of YtnnclhmhbmbkfaaGreatDoorRows.lean that lists a variable, with what it lists TIED to the program's text (the seventh form; the later family's looks); each row that meets fmt, with fmt's text TOLD by the authors' own Lean function (tested against real Go, not proved from fmt's source: count such statements apart). THE CARD IS WHAT COUNTS. Prove the row's statement (the work); the ties are given (YtnnclhmhbmbkfaaGreatDoorTie.lean); close each card by the builder's one call (the guide's Derived/Test/ToyasCard.lean, 'card_holds'). Laid BY PROGRAM, IN A SANDBOX (cutbox-door.mjs). By AI agents, Wed Nov 11 2026. No macro, syntax, notation, axiom, sorry.
-/
import Derived.Test.YtnnclhmhbmbkfaaGreatDoorRows
import GoSem.ClaimSeven
namespace Go.Proofs.YtnnclhmhbmbkfaaGreatDoor
namespace Rows

/-- THE TIED CARD OF 'parchmentlaw18.EvalReckons'. -/
def evalReckonsCard : Claim7 := { stood := { row := evalReckonsRow, standIns := [], harness := (true, "51eaae8751cec7536f44d81a2eb88475159071a670368f84108994cc64cb0f50"), looks := true }, kinds := [], alts := [], laidByText := true, laidKinds := [.data, .data, .data, .data, .sentinel, .sentinel, .pinned], laidTests := true, laidLooks := .later }
def EvalReckonsCardSaid : Prop := Claim7.holds Tryz.pinned (.plain (OpenSpec.ofChange evalReckonsSpec)) evalReckonsCard

/-- THE TIED CARD OF 'parchmentlaw18.EvalRaw'. -/
def evalRawCard : Claim7 := { stood := { row := evalRawRow, standIns := [], harness := (true, "51eaae8751cec7536f44d81a2eb88475159071a670368f84108994cc64cb0f50"), looks := true }, kinds := [], alts := [], laidByText := true, laidKinds := [.data, .data, .data, .data, .sentinel, .sentinel, .pinned], laidTests := true, laidLooks := .later }
def EvalRawCardSaid : Prop := Claim7.holds Tryz.pinned (.plain (OpenSpec.ofChange evalRawSpec)) evalRawCard

/-- THE TIED CARD OF 'parchmentlaw18.EvalTruths'. -/
def evalTruthsCard : Claim7 := { stood := { row := evalTruthsRow, standIns := [], harness := (true, "51eaae8751cec7536f44d81a2eb88475159071a670368f84108994cc64cb0f50"), looks := true }, kinds := [], alts := [], laidByText := true, laidKinds := [.data, .data, .data, .data, .sentinel, .sentinel, .pinned], laidTests := true, laidLooks := .later }
def EvalTruthsCardSaid : Prop := Claim7.holds Tryz.pinned (.plain (OpenSpec.ofChange evalTruthsSpec)) evalTruthsCard

/-- THE SECOND FORM's CARD OF 'parchmentlaw18.EvalReckons'. -/
def evalReckonsUptoCard : Claim7 := { stood := { row := evalReckonsUptoRow, standIns := [], harness := (true, "51eaae8751cec7536f44d81a2eb88475159071a670368f84108994cc64cb0f50"), looks := true }, kinds := [], alts := [], laidByText := true, laidKinds := [.data, .data, .data, .data, .sentinel, .sentinel, .pinned], laidTests := true, laidLooks := .later }
def EvalReckonsUptoCardSaid : Prop := Claim7.holds Tryz.pinned (.plain (OpenSpec.upto evalReckonsSpec)) evalReckonsUptoCard

/-- THE SECOND FORM's CARD OF 'parchmentlaw18.EvalRaw'. -/
def evalRawUptoCard : Claim7 := { stood := { row := evalRawUptoRow, standIns := [], harness := (true, "51eaae8751cec7536f44d81a2eb88475159071a670368f84108994cc64cb0f50"), looks := true }, kinds := [], alts := [], laidByText := true, laidKinds := [.data, .data, .data, .data, .sentinel, .sentinel, .pinned], laidTests := true, laidLooks := .later }
def EvalRawUptoCardSaid : Prop := Claim7.holds Tryz.pinned (.plain (OpenSpec.upto evalRawSpec)) evalRawUptoCard

/-- THE SECOND FORM's CARD OF 'parchmentlaw18.EvalTruths'. -/
def evalTruthsUptoCard : Claim7 := { stood := { row := evalTruthsUptoRow, standIns := [], harness := (true, "51eaae8751cec7536f44d81a2eb88475159071a670368f84108994cc64cb0f50"), looks := true }, kinds := [], alts := [], laidByText := true, laidKinds := [.data, .data, .data, .data, .sentinel, .sentinel, .pinned], laidTests := true, laidLooks := .later }
def EvalTruthsUptoCardSaid : Prop := Claim7.holds Tryz.pinned (.plain (OpenSpec.upto evalTruthsSpec)) evalTruthsUptoCard
end Rows
end Go.Proofs.YtnnclhmhbmbkfaaGreatDoor
