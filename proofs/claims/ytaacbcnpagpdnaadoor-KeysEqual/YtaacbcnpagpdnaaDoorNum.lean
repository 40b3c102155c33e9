/- The calls of a cursor that look ahead: number, count, piece; of a nil cursor, of one that has an error, and of one that has none. -/
import Derived.Test.YtaacbcnpagpdnaaDoorFirst
import Derived.WalkKit
import Derived.WalkSpells
import Derived.WalkLawsBesides
import Derived.Deep.QuietTactic
import Derived.BigQuiet
import Derived.Lib.Strings
namespace Go.Proofs.YtaacbcnpagpdnaaDoor
open Go.RowKit
theorem drop_extract (s : ByteArray) (o : Nat) : (s.extract o s.size).data.toList = s.data.toList.drop o := by
  rw [Lib.extract_data, List.take_of_length_le]
  rw [List.length_drop, ← Lib.size_eq]; exact Nat.le_refl _
def cnt (T : Tk) (most : Int) : Tk := if T.er = 0 ∧ (most < 0 ∨ most < (T.n : Int)) then ⟨0, 0, 3⟩ else T
theorem extract2 (s : ByteArray) (a n : Nat) (h : a + n ≤ s.size) : (s.extract a s.size).extract 0 n = s.extract a (a + n) := by
  have e : ((s.extract a s.size).extract 0 n).data.toList = (s.extract a (a + n)).data.toList := by
    rw [Lib.extract_data, Lib.extract_data, Lib.extract_data, List.drop_zero, Nat.sub_zero, List.take_take]
    congr 1; omega
  have e2 := Array.toList_inj.mp e
  exact ByteArray.ext e2
end Go.Proofs.YtaacbcnpagpdnaaDoor
