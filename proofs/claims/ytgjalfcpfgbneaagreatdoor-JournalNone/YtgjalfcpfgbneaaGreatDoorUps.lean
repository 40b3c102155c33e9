/- Up of a disk that is there: whether it had no power; then it has. -/
import Derived.Test.YtgjalfcpfgbneaaGreatDoorDk1
namespace Go.Proofs.YtgjalfcpfgbneaaGreatDoor
open Go.RowKit
set_option maxHeartbeats 1000000 in
theorem up_any {d : Nat} {mp : Value} {sec used ch : Int} {pl : Value} {dead : Bool} (w : World) (h : Dk w d mp sec used ch pl dead) :
    Calls Tryz.prog 14 #[.pointer (some ⟨d, 0, none⟩)] w fun e w' => e = .returned (.bool dead) ∧ Dk w' d mp sec used ch pl false ∧ Chg (fun k => k = d) w w' := by
  obtain ⟨c0, c1, c2, c3, c4, c5⟩ := h.cells
  have f5 := h.fro 5
  go_enter Tryz.func14, Tryz.ntmps14
  go_wp2
  go_ret
  refine ⟨rfl, row_setCell (k := 5) h _, ⟨rfl, rfl, rfl, by simp, fun k hk hd => ?_⟩⟩
  exact Below.heap_setCell _ _ _ _ (by show k ≠ d; exact hd)
end Go.Proofs.YtgjalfcpfgbneaaGreatDoor
