/- The laws' text: so many bytes of one kind. -/
import Derived.Test.YtgjalfcpfgbneaaGreatDoorDk5
namespace Go.Proofs.YtgjalfcpfgbneaaGreatDoor
open Go.RowKit
def repB (c : UInt8) (n : Nat) : ByteArray := ⟨(List.replicate n c).toArray⟩
theorem repB_size (c : UInt8) (n : Nat) : (repB c n).size = n := by
  show (List.replicate n c).toArray.size = n
  simp
theorem repB_cells (c : UInt8) (n : Nat) : Lib.strCells (repB c n) = List.replicate n (.int .u8 (c.toNat : Int)) := by
  unfold Lib.strCells repB
  simp
theorem intOf_i64 (x : Int) : intOf (.int .i64 x) = x := rfl
theorem rep_snoc (x : Value) (n : Nat) : List.replicate n x ++ [x] = List.replicate (n + 1) x := by
  rw [← List.replicate_succ']
end Go.Proofs.YtgjalfcpfgbneaaGreatDoor
