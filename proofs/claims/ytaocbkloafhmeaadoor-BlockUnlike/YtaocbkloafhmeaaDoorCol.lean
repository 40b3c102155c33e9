/- Collides of two unlike texts of one digest, called. -/
import Derived.Test.YtaocbkloafhmeaaDoorAny
import Derived.Test.YtaocbkloafhmeaaDoorSums
import Derived.Test.YtaocbkloafhmeaaDoorMrx
import Derived.Deep.Cut
namespace Go.Proofs.YtaocbkloafhmeaaDoor
open Go.RowKit
set_option maxRecDepth 100000 in
set_option maxHeartbeats 2000000 in
theorem collides_yes (A B : ByteArray) (hA : A.size ≤ 72057594037927936) (hB : B.size ≤ 72057594037927936) (hne : A ≠ B) (hs : sumS A = sumS B) (w : World) (hG : GL w) :
    Calls Tryd.prog 33 #[.agg #[.string A, .string B]] w fun e w' => e = .returned (.bool true) ∧ Below w.heap.size w w' := by
  have k1 := fun W hG => hsum A hA W hG
  have k2 := fun W hG => hsum B hB W hG
  rw [hs] at k1
  obtain ⟨y, hy⟩ : ∃ y, sumS B = y := ⟨_, rfl⟩
  rw [hy] at k1 k2
  have hcmp := beq_of_ne hne
  clear hs hy hne
  go_enter Tryd.func33, Tryd.ntmps33
  go_upto_region 1 with fail
  obtain ⟨w1, hW1⟩ : ∃ w1, (w.alloc (.cells #[.string A, .string B] 63)) = w1 := ⟨_, rfl⟩
  have hrow : w1.heap[w.heap.size]? = some (.cells #[.string A, .string B] 63 (0, 0)) := by rw [← hW1]; exact heap_alloc_new _ _
  have hb1 : Below w.heap.size w w1 := by rw [← hW1]; exact (Below.refl _ w).alloc (Nat.le_refl _) _
  have hlt : w.heap.size < w1.heap.size := lt_of_row hrow
  have hG1 := hG.later hb1
  rw [hW1]
  clear hW1
  refine quiet_class (C := fun W => Below w1.heap.size w1 W) (by kernel_rfl) (by kernel_rfl) (below_drewN (Below.refl _ _) 1) ?_
  refine BigFrame.wpQuiet_want (by rfl) (fun K hK => q_pure (v := .pointer (some ⟨w.heap.size, 0, none⟩)) (fun W => ?_) (hK _ ?_))
  · go_simp
  simp only [Act.put, List.setIfInBounds_toArray, List.set_cons_zero, List.set_cons_succ]
  refine BigFrame.wpQuiet_want (by rfl) (fun K hK => q_at (v := .string A) (fun W hW => ?_) (hK _ ?_))
  · have hcW : W.cell? ⟨w.heap.size, 0, none⟩ = some (.string A) := cell_of_row W _ 0 _ _ _ ((hW.block _ hlt).trans hrow)
    go_simp
  simp only [Act.put, List.setIfInBounds_toArray, List.set_cons_zero, List.set_cons_succ]
  refine BigFrame.wpQuiet_want (by rfl) (fun K hK => q_pure (v := .pointer (some ⟨w.heap.size, 1, none⟩)) (fun W => ?_) (hK _ ?_))
  · go_simp
  simp only [Act.put, List.setIfInBounds_toArray, List.set_cons_zero, List.set_cons_succ]
  refine BigFrame.wpQuiet_want (by rfl) (fun K hK => q_at (v := .string B) (fun W hW => ?_) (hK _ ?_))
  · have hcW : W.cell? ⟨w.heap.size, 1, none⟩ = some (.string B) := cell_of_row W _ 1 _ _ _ ((hW.block _ hlt).trans hrow)
    go_simp
  simp only [Act.put, List.setIfInBounds_toArray, List.set_cons_zero, List.set_cons_succ]
  refine BigFrame.wpQuiet_want (by rfl) (fun K hK => q_pure (v := .bool true) (fun W => ?_) (hK _ ?_))
  · go_simp
  simp only [Act.put, List.setIfInBounds_toArray, List.set_cons_zero, List.set_cons_succ]
  go_big_quiet_step (fail)
  refine BigFrame.wpQuiet_want (by rfl) (fun K hK => q_pure (v := .pointer (some ⟨w.heap.size, 0, none⟩)) (fun W => ?_) (hK _ ?_))
  · go_simp
  simp only [Act.put, List.setIfInBounds_toArray, List.set_cons_zero, List.set_cons_succ]
  refine BigFrame.wpQuiet_want (by rfl) (fun K hK => q_at (v := .string A) (fun W hW => ?_) (hK _ ?_))
  · have hcW : W.cell? ⟨w.heap.size, 0, none⟩ = some (.string A) := cell_of_row W _ 0 _ _ _ ((hW.block _ hlt).trans hrow)
    go_simp
  simp only [Act.put, List.setIfInBounds_toArray, List.set_cons_zero, List.set_cons_succ]
  refine BigFrame.wpQuiet_want (by rfl) (fun K hK => q_call (v := .string y) (f := 41) (args := #[.string A]) (fun W => ?_) (fun W hW => ?_) (hK _ ?_))
  · go_simp
  · refine (k1 W (hG1.later hW)).mono ?_
    rintro e w' ⟨rfl, hb'⟩
    exact ⟨rfl, hW.trans (hb'.mono hW.size)⟩
  simp only [Act.put, List.setIfInBounds_toArray, List.set_cons_zero, List.set_cons_succ]
  refine BigFrame.wpQuiet_want (by rfl) (fun K hK => q_pure (v := .pointer (some ⟨w.heap.size, 1, none⟩)) (fun W => ?_) (hK _ ?_))
  · go_simp
  simp only [Act.put, List.setIfInBounds_toArray, List.set_cons_zero, List.set_cons_succ]
  refine BigFrame.wpQuiet_want (by rfl) (fun K hK => q_at (v := .string B) (fun W hW => ?_) (hK _ ?_))
  · have hcW : W.cell? ⟨w.heap.size, 1, none⟩ = some (.string B) := cell_of_row W _ 1 _ _ _ ((hW.block _ hlt).trans hrow)
    go_simp
  simp only [Act.put, List.setIfInBounds_toArray, List.set_cons_zero, List.set_cons_succ]
  refine BigFrame.wpQuiet_want (by rfl) (fun K hK => q_call (v := .string y) (f := 41) (args := #[.string B]) (fun W => ?_) (fun W hW => ?_) (hK _ ?_))
  · go_simp
  · refine (k2 W (hG1.later hW)).mono ?_
    rintro e w' ⟨rfl, hb'⟩
    exact ⟨rfl, hW.trans (hb'.mono hW.size)⟩
  simp only [Act.put, List.setIfInBounds_toArray, List.set_cons_zero, List.set_cons_succ]
  refine BigFrame.wpQuiet_want (by rfl) (fun K hK => q_pure (v := .bool true) (fun W => ?_) (hK _ ?_))
  · go_simp
  simp only [Act.put, List.setIfInBounds_toArray, List.set_cons_zero, List.set_cons_succ]
  refine BigFrame.wpQuiet_want (by rfl) (fun K hK => q_pure (v := .bool true) (fun W => ?_) (hK _ ?_))
  · go_simp
  simp only [Act.put, List.setIfInBounds_toArray, List.set_cons_zero, List.set_cons_succ]
  go_big_quiet_step (fail)
  refine wpQuiet_nil ?_
  intro w2 hw2
  go_wp2
  go_ret
  exact ⟨rfl, hb1.trans (hw2.mono hb1.size)⟩
end Go.Proofs.YtaocbkloafhmeaaDoor
