/- The law HashSums as a walk: of any string that fits, with the round numbers laid, the call returns true and nothing that was there has changed. -/
import Derived.Test.YtaocbkloafhmeaaDoorSumr
import Derived.WalkKit
import Derived.WalkSpells
import Derived.WalkLawsBesides
import Derived.Deep.QuietTactic
import Derived.BigQuiet
namespace Go.Proofs.YtaocbkloafhmeaaDoor
open Go.RowKit
def sumS (s : ByteArray) : ByteArray := ⟨(sumB s.data.toList).toArray⟩
theorem hsum (s : ByteArray) (hs : s.size ≤ 72057594037927936) (w : World) (hG : GL w) :
    Calls Tryd.prog 41 #[.string s] w fun e w' => e = .returned (.string (sumS s)) ∧ Below w.heap.size w w' := sum_any s hs w hG
theorem rsum (s : ByteArray) (hs : s.size ≤ 72057594037927936) (w : World) :
    Calls Tryd.prog 45 #[.string s] w fun e w' => e = .returned (.string (sumS s)) ∧ Below w.heap.size w w' := rsum_any s hs w
theorem q_at {P : Program} {o : Oper} {a : Act} {C : World → Prop} {K : Act → Prop} {v : Value} (hrun : ∀ W, C W → (execOp a.eval o).run P W = .ok (.value v) W) (hk : K (a.put o.dst v)) : o.quiet P a C K :=
  ⟨v, fun W hW => by unfold Oper.quietAt; rw [hrun W hW]; exact ⟨rfl, rfl⟩, hk⟩
theorem beq_of_ne {a b : ByteArray} (h : a ≠ b) : (a.toList == b.toList) = false := by
  rw [beq_eq_false_iff_ne]
  intro e
  rw [ByteArray.toList_eq, ByteArray.toList_eq] at e
  exact h (ByteArray.ext (Array.toList_inj.1 e))
theorem below2 {w w1 w2 : World} (h1 : Below w.heap.size w w1) (h2 : Below w1.heap.size w1 w2) : Below w.heap.size w w2 :=
  h1.trans (h2.mono h1.size)
end Go.Proofs.YtaocbkloafhmeaaDoor
