/-
  No cell of these rows narrows 'for every input' (looked for: loops, veiled, ifaces, maps, wideKeys, modest, calm, conditions, laid).
  DERIVED. THE GIVEN ROWS OF THIS SEAT. 4 by the template 'for every input the law returns true; each argument reads behind the call as it read before'; 0 by the template 'total and deterministic' (their statements: YtiplmlalhmldbaaTotals.lean).
  GIVEN WITH THE SEED: the statements are not yours to turn. If you find one false, say at which input.
  Laid BY PROGRAM, IN A SANDBOX (cutbox-rows.mjs): the forced cells as the released guide's own fill.sh prints them over the translation 5b6e9bbe98ea4dde… (all of the seat's roots in one cut). By AI agents, Wed Nov 11 2026. No macro, syntax, notation, axiom, sorry.
-/
import Derived.Test.YtiplmlalhmldbaaChecked
import GoSem.Claim
import GoSem.ClaimJoined
import GoSem.ClaimMapViews
import Derived.JoinedTies
import Derived.KernelRfl
namespace Go.Proofs.Ytiplmlalhmldbaa
/- THE CELL 'sum', in the pinned program and in every row, IS THE sha256 OF THE DUMP (.gsa) THAT YtiplmlalhmldbaaProg.lean LOADS. Nothing in Lean hashes anything: it is a label: what it is worth is what the hold of that sum in a sandbox is worth. -/
noncomputable def Try.pinned : Pinned := { name := "ytiplmlalhmldbaa", sum := "5b6e9bbe98ea4ddeed1cbf3011bc016b80f73303a0f8d8172555f8bad40920b6", checked := Try.checked }
namespace Rows
def none {H : Type} : Left H := { results := [], args := [] }

/-- 'parchmentlaw10.BtreePlays': WHATEVER THE INPUT: true; the input reads as it did. -/
def btreePlaysSpec : ChangeSpec := { name := "btreePlays", fn := fun _ => fun
  | [d1, d2] => { results := [.lit (.bool true)], args := [d1, d2] }
  | _ => none }
def btreePlaysRow : OpenClaim := { program := "ytiplmlalhmldbaa", sum := "5b6e9bbe98ea4ddeed1cbf3011bc016b80f73303a0f8d8172555f8bad40920b6", func := "parchment/parchmentlaw10.BtreePlays", spec := "btreePlays", unfollowed := true, recurses := true, apart := false }
def BtreePlaysSaid : Prop := btreePlaysRow.holds Try.pinned (OpenSpec.ofChange btreePlaysSpec)

/-- ITS FALSE NEIGHBOUR: 'it returns false'. Refute it at one input. -/
def btreePlaysWrong : ChangeSpec := { name := "btreePlays", fn := fun _ => fun
  | [d1, d2] => { results := [.lit (.bool false)], args := [d1, d2] }
  | _ => none }
def BtreePlaysWrongFalsely : Prop := btreePlaysRow.holds Try.pinned (OpenSpec.ofChange btreePlaysWrong)

/-- 'parchmentlaw10.BtreeMany': WHATEVER THE INPUT: true; the input reads as it did. -/
def btreeManySpec : ChangeSpec := { name := "btreeMany", fn := fun _ => fun
  | [d1, d2, d3] => { results := [.lit (.bool true)], args := [d1, d2, d3] }
  | _ => none }
def btreeManyRow : OpenClaim := { program := "ytiplmlalhmldbaa", sum := "5b6e9bbe98ea4ddeed1cbf3011bc016b80f73303a0f8d8172555f8bad40920b6", func := "parchment/parchmentlaw10.BtreeMany", spec := "btreeMany", unfollowed := true, recurses := true, apart := false }
def BtreeManySaid : Prop := btreeManyRow.holds Try.pinned (OpenSpec.ofChange btreeManySpec)

/-- ITS FALSE NEIGHBOUR: 'it returns false'. Refute it at one input. -/
def btreeManyWrong : ChangeSpec := { name := "btreeMany", fn := fun _ => fun
  | [d1, d2, d3] => { results := [.lit (.bool false)], args := [d1, d2, d3] }
  | _ => none }
def BtreeManyWrongFalsely : Prop := btreeManyRow.holds Try.pinned (OpenSpec.ofChange btreeManyWrong)

/-- 'parchmentlaw10.BtreeSpans': WHATEVER THE INPUT: true; the input reads as it did. -/
def btreeSpansSpec : ChangeSpec := { name := "btreeSpans", fn := fun _ => fun
  | [d1, d2, d3] => { results := [.lit (.bool true)], args := [d1, d2, d3] }
  | _ => none }
def btreeSpansRow : OpenClaim := { program := "ytiplmlalhmldbaa", sum := "5b6e9bbe98ea4ddeed1cbf3011bc016b80f73303a0f8d8172555f8bad40920b6", func := "parchment/parchmentlaw10.BtreeSpans", spec := "btreeSpans", unfollowed := true, recurses := true, apart := false }
def BtreeSpansSaid : Prop := btreeSpansRow.holds Try.pinned (OpenSpec.ofChange btreeSpansSpec)

/-- ITS FALSE NEIGHBOUR: 'it returns false'. Refute it at one input. -/
def btreeSpansWrong : ChangeSpec := { name := "btreeSpans", fn := fun _ => fun
  | [d1, d2, d3] => { results := [.lit (.bool false)], args := [d1, d2, d3] }
  | _ => none }
def BtreeSpansWrongFalsely : Prop := btreeSpansRow.holds Try.pinned (OpenSpec.ofChange btreeSpansWrong)

/-- 'parchmentlaw10.BtreeNone': WHATEVER THE INPUT: true; the input reads as it did. -/
def btreeNoneSpec : ChangeSpec := { name := "btreeNone", fn := fun _ => fun
  | [d1, d2] => { results := [.lit (.bool true)], args := [d1, d2] }
  | _ => none }
def btreeNoneRow : OpenClaim := { program := "ytiplmlalhmldbaa", sum := "5b6e9bbe98ea4ddeed1cbf3011bc016b80f73303a0f8d8172555f8bad40920b6", func := "parchment/parchmentlaw10.BtreeNone", spec := "btreeNone", unfollowed := true, recurses := true, apart := false }
def BtreeNoneSaid : Prop := btreeNoneRow.holds Try.pinned (OpenSpec.ofChange btreeNoneSpec)

/-- ITS FALSE NEIGHBOUR: 'it returns false'. Refute it at one input. -/
def btreeNoneWrong : ChangeSpec := { name := "btreeNone", fn := fun _ => fun
  | [d1, d2] => { results := [.lit (.bool false)], args := [d1, d2] }
  | _ => none }
def BtreeNoneWrongFalsely : Prop := btreeNoneRow.holds Try.pinned (OpenSpec.ofChange btreeNoneWrong)

/- THE SECOND FORM. 'bulk': how many values and letters a reading holds, each counted each time it is reached (what is shared counts as often as it is met; a slice's spare places count too). A statement '..UptoSaid' is the law's where the arguments, and the package variables that the reading takes, are together of bulk at most 1048576: NARROWER than '..Said'. Prove '..Said' where nothing that the law and all that it calls make is longer than what came in: it says more and counts as full. Else prove '..UptoSaid'. A law counts once. -/
mutual
def uptoBulk {H : Type} : DataW H → Nat
  | .lit (.string bytes) => bytes.length + 1
  | .lit _ => 1
  | .nil => 1
  | .ptr d => uptoBulk d + 1
  | .slice elems spare => uptoBulkAll elems + uptoBulkAll spare + 1
  | .agg parts => uptoBulkAll parts + 1
  | .iface _ d => uptoBulk d + 1
  | .map entries => uptoBulkEntries entries + 1
  | .held _ => 1
def uptoBulkAll {H : Type} : List (DataW H) → Nat
  | [] => 0
  | d :: r => uptoBulk d + uptoBulkAll r
def uptoBulkEntries {H : Type} : List (Lit × DataW H) → Nat
  | [] => 0
  | x :: r => uptoBulkEntry x + uptoBulkEntries r
def uptoBulkEntry {H : Type} : Lit × DataW H → Nat
  | (.string bytes, d) => bytes.length + uptoBulk d + 1
  | (_, d) => uptoBulk d + 1
 end
def uptoSmall : (H : Type) → List (DataW H) → Bool := fun _ ds => decide (uptoBulkAll ds ≤ 1048576)
def OpenSpec.upto (s : _root_.Go.ChangeSpec) : _root_.Go.OpenSpec := { _root_.Go.OpenSpec.ofChange s with cond := some uptoSmall }

/-- 'parchmentlaw10.BtreePlays', WHERE WHAT IT READS IS OF BULK AT MOST 1048576: true; the input reads as it did. -/
def btreePlaysUptoRow : OpenClaim := { program := "ytiplmlalhmldbaa", sum := "5b6e9bbe98ea4ddeed1cbf3011bc016b80f73303a0f8d8172555f8bad40920b6", func := "parchment/parchmentlaw10.BtreePlays", spec := "btreePlays", unfollowed := true, recurses := true, apart := false, narrowed := true }
def BtreePlaysUptoSaid : Prop := btreePlaysUptoRow.holds Try.pinned (OpenSpec.upto btreePlaysSpec)

/-- 'parchmentlaw10.BtreeMany', WHERE WHAT IT READS IS OF BULK AT MOST 1048576: true; the input reads as it did. -/
def btreeManyUptoRow : OpenClaim := { program := "ytiplmlalhmldbaa", sum := "5b6e9bbe98ea4ddeed1cbf3011bc016b80f73303a0f8d8172555f8bad40920b6", func := "parchment/parchmentlaw10.BtreeMany", spec := "btreeMany", unfollowed := true, recurses := true, apart := false, narrowed := true }
def BtreeManyUptoSaid : Prop := btreeManyUptoRow.holds Try.pinned (OpenSpec.upto btreeManySpec)

/-- 'parchmentlaw10.BtreeSpans', WHERE WHAT IT READS IS OF BULK AT MOST 1048576: true; the input reads as it did. -/
def btreeSpansUptoRow : OpenClaim := { program := "ytiplmlalhmldbaa", sum := "5b6e9bbe98ea4ddeed1cbf3011bc016b80f73303a0f8d8172555f8bad40920b6", func := "parchment/parchmentlaw10.BtreeSpans", spec := "btreeSpans", unfollowed := true, recurses := true, apart := false, narrowed := true }
def BtreeSpansUptoSaid : Prop := btreeSpansUptoRow.holds Try.pinned (OpenSpec.upto btreeSpansSpec)

/-- 'parchmentlaw10.BtreeNone', WHERE WHAT IT READS IS OF BULK AT MOST 1048576: true; the input reads as it did. -/
def btreeNoneUptoRow : OpenClaim := { program := "ytiplmlalhmldbaa", sum := "5b6e9bbe98ea4ddeed1cbf3011bc016b80f73303a0f8d8172555f8bad40920b6", func := "parchment/parchmentlaw10.BtreeNone", spec := "btreeNone", unfollowed := true, recurses := true, apart := false, narrowed := true }
def BtreeNoneUptoSaid : Prop := btreeNoneUptoRow.holds Try.pinned (OpenSpec.upto btreeNoneSpec)

end Rows
end Go.Proofs.Ytiplmlalhmldbaa
