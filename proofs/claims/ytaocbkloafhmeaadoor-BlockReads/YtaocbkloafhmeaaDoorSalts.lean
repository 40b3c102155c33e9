/- The numbers of the rounds as the document has them (salts): the call returns them, and nothing that was there has changed. -/
import Derived.Test.YtaocbkloafhmeaaDoorRref
import Derived.WalkKit
import Derived.WalkSpells
import Derived.WalkLawsBesides
import Derived.Deep.QuietTactic
import Derived.BigQuiet
import Derived.Deep.RegionWith
import Derived.Deep.RegionHeld3
import Derived.Deep.DrawnRows
import Derived.BigRegion
namespace Go.Proofs.YtaocbkloafhmeaaDoor
open Go.RowKit
theorem info39z : (Tryd.prog.info? 126).map (·.size) = some (rowA []).size := by kernel_rfl
theorem there39r {W : World} {g : Nat} {l : List (BitVec 32)} (h : W.heap[g]? = some (.cells (rowA l) 126 (0, 0))) (hl : l.length ≤ 64) (L : List (BitVec 32)) (hL : L.length ≤ 64) : W.there g 0 (rowA L).size := by
  rw [rowA_size L hL]; exact row_there h hl
set_option maxRecDepth 100000 in
set_option maxHeartbeats 1000000 in
theorem salts_any (w : World) :
    Calls Tryd.prog 95 #[] w fun e w' => e = .returned (.agg (rowA saltsB)) ∧ Below w.heap.size w w' := by
  have h0 : (w.alloc (.cells (rowA []) 126)).heap[w.heap.size]? = some (.cells (rowA []) 126 (0, 0)) := heap_alloc_new _ _
  go_enter Tryd.func95, Tryd.ntmps95
  go_wp2_with (rw [zero64]; refine wpList_store_mid rfl 126 (.tmp 0) (.tmp 1) rfl w.heap.size 0 (rowA saltsB) rfl (by kernel_rfl) (there39r h0 (by simp) saltsB (by decide)) (info39 saltsB rfl) (rowA_one saltsB) ?_)
  exact bodyPost_ret (v := .agg (rowA saltsB)) (results_cell_row Tryd.results95 _ _ w.heap.size 126 _ (0, 0) _ rfl (setCells_row h0 (by rw [rowA_size saltsB (by decide), rowA_size [] (by simp)])) Tryd.underlying126 rfl (info39 saltsB rfl)) rfl ⟨rfl, below_setCells' (Nat.le_refl _) _ _ _ ((Below.refl _ _).alloc (Nat.le_refl _) _)⟩
end Go.Proofs.YtaocbkloafhmeaaDoor
