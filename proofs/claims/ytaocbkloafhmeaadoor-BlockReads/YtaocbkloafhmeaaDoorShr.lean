/- What the rows' proofs share: the tables as the program's text lays them give the cells that the walks read; how a slice of strings that is handed in is read. No condition of our own. -/
import Derived.Test.YtaocbkloafhmeaaDoorRows
import Derived.Test.YtaocbkloafhmeaaDoorTz
import Derived.ProofKit
import Derived.LaidMore
import Derived.OpenShut
import Derived.ShutString
import Derived.Stop.Joined
import Derived.Lib.LaidTab
import Derived.Deep.Strs
namespace Go.Proofs.YtaocbkloafhmeaaDoor
open Go.ChangeShapes Go.WideShapes Go.ChangeAt Go.WideMaps Go.WideElems Go.RowKit Go.Deep
theorem Tryd.laidOut : laidOutB Tryd.prog = true := by kernel_rfl
theorem own : ownKnob Tryd.prog.godebug = none := by kernel_rfl
abbrev laid3 : List (String × DataW Unit) := [("math/bits.deBruijn32tab", Rows.laid_math_bits_deBruijn32tab), ("math/bits.deBruijn64tab", Rows.laid_math_bits_deBruijn64tab), ("parchment/hash.roundNumbers", Rows.laid_parchment_hash_roundNumbers)]
theorem laid_tail {P : Program} {W : World} {x : String × DataW Unit} {r : List (String × DataW Unit)} (h : laidMet P (x :: r) W) : laidMet P r W := by
  obtain ⟨ps, ⟨g, t, cs, fuel, p, q, _, _, _, _, hr, rfl⟩, hn, hc⟩ := h
  exact ⟨q, hr, (List.nodup_append.1 hn).2.1, fun b off hb => hc b off (by simp [hb])⟩
theorem gNums : Tryd.prog.globalNamed "parchment/hash.roundNumbers" = some 0 := by kernel_rfl
theorem tNums : (Tryd.prog.globals[0]?).map (·.type) = some 126 := by kernel_rfl
theorem gTab : Tryd.prog.globalNamed "math/bits.deBruijn64tab" = some 2 := by kernel_rfl
theorem tTab : (Tryd.prog.globals[2]?).map (·.type) = some 142 := by kernel_rfl
theorem laid_nums : (Rows.laid_parchment_hash_roundNumbers : DataW Unit) = Lib.tabData .u32 (saltsB.map n32) := rfl
theorem laid_db : (Rows.laid_math_bits_deBruijn64tab : DataW Unit) = Lib.tabData .u8 (dbT.map (fun n : Nat => (n : Int))) := rfl
theorem of_laid {W : World} (h : laidMetH Tryd.prog laid3 W) : GL W ∧ GD W := by
  rw [MakeChecks.laidMetH_plain _ _ _ (by kernel_rfl)] at h
  have h1 := laid_tail h
  have h2 := laid_tail h1
  rw [laid_nums] at h2
  rw [laid_db] at h1
  have ht := Lib.tabIs_of_head gNums tNums Tryd.underlying126 Tryd.underlying100 (by kernel_rfl) (by kernel_rfl) h2
  have hu := Lib.tabIs_of_head gTab tTab Tryd.underlying142 Tryd.underlying5 (by kernel_rfl) (by kernel_rfl) h1
  refine ⟨fun i hi => ?_, fun i hi => ?_⟩
  · have hc := ht.cell gNums i (by simpa [saltsB] using hi)
    rw [hc]
    congr 2
    have hl : i < saltsB.length := by simpa [saltsB] using hi
    simp [List.getD_eq_getElem?_getD, hl]
  · have hc := hu.cell gTab i (by simpa [dbT] using hi)
    rw [hc]
    congr 2
    have hl : i < dbT.length := by simpa [dbT] using hi
    simp [List.getD_eq_getElem?_getD, hl]
theorem door_met (os : Os) (args : Array Value) : laidMetH Tryd.prog laid3 ((World.doorLaid Tryd.prog 400 os).forCall (fun _ _ => 0) ⟨#[], args, []⟩).memory :=
  laidMetH_of_parts3 (fuel := 8) (laidMet_of_run' 8 (by kernel_rfl) (by kernel_rfl)) (by kernel_rfl) (by kernel_rfl)
end Go.Proofs.YtaocbkloafhmeaaDoor
