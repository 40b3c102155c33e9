/- The file that takes what is added next, where none was read (open). -/
import Derived.Test.YtgjalfcpfgbneaaGreatDoorJn4
namespace Go.Proofs.YtgjalfcpfgbneaaGreatDoor
open Go.RowKit Go.Shelf
set_option maxRecDepth 20000 in
set_option maxHeartbeats 1000000 in
theorem jopen_new {j d : Nat} {most : Int} {rv : Value} (w : World) (hj : Jr w j d most rv 0) :
    Calls Tryz.prog 41 #[.pointer (some ⟨j, 0, none⟩)] w fun e w' => e = .returned (.int .i64 1) ∧ w' = w := by
  obtain ⟨c0, c1, c2, c3⟩ := hj.cells
  clear hj
  go_enter Tryz.func41, Tryz.ntmps41
  go_wp2
  go_ret
  exact ⟨rfl, rfl⟩
end Go.Proofs.YtgjalfcpfgbneaaGreatDoor
