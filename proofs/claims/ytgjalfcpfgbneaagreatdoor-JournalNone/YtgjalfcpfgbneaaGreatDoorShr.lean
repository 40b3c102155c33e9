/- What the rows' proofs share: the sixteen numbers as the program's text lays them give the cells that the walks read. No condition of our own. -/
import Derived.Test.YtgjalfcpfgbneaaGreatDoorRows
import Derived.Test.YtgjalfcpfgbneaaGreatDoorFChk
import Derived.ProofKit
import Derived.LaidMore
import Derived.OpenShut
import Derived.ShutString
import Derived.Stop.Joined
import Derived.Lib.LaidTab
namespace Go.Proofs.YtgjalfcpfgbneaaGreatDoor
open F Go.ChangeShapes Go.WideShapes Go.ChangeAt Go.WideMaps Go.WideElems Go.RowKit
theorem Tryz.laidOut : laidOutB Tryz.prog = true := by kernel_rfl
theorem own : ownKnob Tryz.prog.godebug = none := by kernel_rfl
abbrev laid1 : List (String × DataW Unit) := [("parchment/frame.fourSteps", Rows.laid_parchment_frame_fourSteps)]
theorem gNums : Tryz.prog.globalNamed "parchment/frame.fourSteps" = some 0 := by kernel_rfl
theorem tNums : (Tryz.prog.globals[0]?).map (·.type) = some 163 := by kernel_rfl
theorem laid_tab : (Rows.laid_parchment_frame_fourSteps : DataW Unit) = Lib.tabData .u32 (tabB.map n32) := rfl
theorem of_laid {W : World} (h : laidMetH Tryz.prog laid1 W) : F.GL W := by
  rw [MakeChecks.laidMetH_plain _ _ _ (by kernel_rfl)] at h
  unfold laid1 at h
  rw [laid_tab] at h
  have ht := Lib.tabIs_of_head gNums tNums Tryz.underlying163 Tryz.underlying43 (by kernel_rfl) (by kernel_rfl) h
  intro i hi
  have hc := ht.cell gNums i (by simpa [tabB] using hi)
  rw [hc]
  congr 2
  have hl : i < tabB.length := by simpa [tabB] using hi
  simp [tabF, List.getD_eq_getElem?_getD, hl]
theorem door_met (os : Os) (args : Array Value) : laidMetH Tryz.prog laid1 ((World.doorLaid Tryz.prog 400 os).forCall (fun _ _ => 0) ⟨#[], args, []⟩).memory :=
  laidMetH_of_parts3 (fuel := 8) (laidMet_of_run' 8 (by kernel_rfl) (by kernel_rfl)) (by kernel_rfl) (by kernel_rfl)
end Go.Proofs.YtgjalfcpfgbneaaGreatDoor
