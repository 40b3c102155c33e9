/- The laws' Ref of a value without parts (function 15). -/
import Derived.Test.YtcniebkehekliaaGreatDoorChx
namespace Go.Proofs.YtcniebkehekliaaGreatDoor
open Go.RowKit Go.Shelf
attribute [local go_sem] Oper.semAt_some
theorem info41 : (Tryz.prog.info? 41).map (·.size) = some 6 := by kernel_rfl
set_option maxRecDepth 100000 in
set_option maxHeartbeats 4000000 in
theorem ref_leaf (k : Int) (b : Bool) (n : Int) (s : ByteArray) (w : World) :
    Calls Tryz.prog 15 #[.agg #[.int .i64 k, .bool b, .int .i64 n, .string s, .slice none 0 0, .slice none 0 0]] w fun r w' => r = .returned (.agg #[.int .i64 k, .bool b, .int .i64 n, .string s, .slice none 0 0, .slice none 0 0]) ∧ Below w.heap.size w w' := by
  obtain ⟨w1, hw1⟩ : ∃ w1, (w.alloc (.cells #[.int .i64 k, .bool b, .int .i64 n, .string s, .slice none 0 0, .slice none 0 0] 25)).alloc (.cells #[.int .i64 0, .bool false, .int .i64 0, .string ⟨#[]⟩, .slice none 0 0, .slice none 0 0] 41) = w1 := ⟨_, rfl⟩
  have hb1 : Below w.heap.size w w1 := by rw [← hw1]; exact ((Below.refl _ w).alloc (Nat.le_refl _) _).alloc (by simp) _
  have s1 : w1.heap.size = w.heap.size + 2 := by rw [← hw1]; simp
  have r0 : w1.heap[w.heap.size]? = some (.cells #[.int .i64 k, .bool b, .int .i64 n, .string s, .slice none 0 0, .slice none 0 0] 25 (0, 0)) := by
    rw [← hw1, heap_alloc_old _ _ (by simp)]
    exact heap_alloc_new _ _
  have r1 : w1.heap[w.heap.size + 1]? = some (.cells zero6 41 (0, 0)) := by
    rw [← hw1]
    have e := heap_alloc_new (w.alloc (.cells #[.int .i64 k, .bool b, .int .i64 n, .string s, .slice none 0 0, .slice none 0 0] 25)) (.cells #[.int .i64 0, .bool false, .int .i64 0, .string ⟨#[]⟩, .slice none 0 0, .slice none 0 0] 41)
    have e2 : (w.alloc (.cells #[.int .i64 k, .bool b, .int .i64 n, .string s, .slice none 0 0, .slice none 0 0] 25)).heap.size = w.heap.size + 1 := by simp
    rw [e2] at e
    exact e
  have c0 : w1.cell? ⟨w.heap.size, 0, none⟩ = some (.int .i64 k) := cell_of_row w1 _ 0 _ _ _ r0
  have c1 : w1.cell? ⟨w.heap.size, 1, none⟩ = some (.bool b) := cell_of_row w1 _ 1 _ _ _ r0
  have c2 : w1.cell? ⟨w.heap.size, 2, none⟩ = some (.int .i64 n) := cell_of_row w1 _ 2 _ _ _ r0
  have c3 : w1.cell? ⟨w.heap.size, 3, none⟩ = some (.string s) := cell_of_row w1 _ 3 _ _ _ r0
  have c5 : w1.cell? ⟨w.heap.size, 5, none⟩ = some (.slice none 0 0) := cell_of_row w1 _ 5 _ _ _ r0
  obtain ⟨w2, hw2⟩ : ∃ w2, put (w1.alloc (.cells #[.int .i64 0, .bool false, .int .i64 0, .string ⟨#[]⟩, .slice none 0 0, .slice none 0 0] 41)) w1.heap.size #[.int .i64 k, .bool b, .int .i64 n, .string s, .slice none 0 0, .slice none 0 0] = w2 := ⟨_, rfl⟩
  have rz : (w1.alloc (.cells #[.int .i64 0, .bool false, .int .i64 0, .string ⟨#[]⟩, .slice none 0 0, .slice none 0 0] 41)).heap[w1.heap.size]? = some (.cells zero6 41 (0, 0)) := heap_alloc_new _ _
  have hb2 : Below w1.heap.size w1 w2 := by rw [← hw2]; exact put_below ((Below.refl _ w1).alloc (Nat.le_refl _) _) _ (Nat.le_refl _) _
  have r2 : w2.heap[w1.heap.size]? = some (.cells #[.int .i64 k, .bool b, .int .i64 n, .string s, .slice none 0 0, .slice none 0 0] 41 (0, 0)) := by rw [← hw2]; exact put_row _ rz rfl
  have q0 := (hb2.block _ (by omega)).trans r0
  have q1 := (hb2.block _ (by omega)).trans r1
  have d4 : w2.cell? ⟨w.heap.size, 4, none⟩ = some (.slice none 0 0) := cell_of_row w2 _ 4 _ _ _ q0
  have HH : Hid (Below w.heap.size w w2 ∧ w2.heap[w.heap.size + 1]? = some (.cells zero6 41 (0, 0)) ∧ w2.heap[w1.heap.size]? = some (.cells #[.int .i64 k, .bool b, .int .i64 n, .string s, .slice none 0 0, .slice none 0 0] 41 (0, 0)) ∧ (w1.alloc (.cells #[.int .i64 0, .bool false, .int .i64 0, .string ⟨#[]⟩, .slice none 0 0, .slice none 0 0] 41)).heap[w1.heap.size]? = some (.cells zero6 41 (0, 0))) := ⟨hb1.trans (hb2.mono hb1.size), q1, r2, rz⟩
  have HS : Hid (w1.heap.size = w.heap.size + 2) := s1
  clear hb1 hb2 r0 r1 r2 q0 q1 rz s1
  go_enter Tryz.func15, Tryz.ntmps15
  go_wp2_with (first | (refine wpList_put rfl 41 (.tmp 3) (.tmp 15) rfl rfl rfl rfl HH.out.2.2.2 rfl info41 (by simp [Value.oneCell']) ?_; rw [hw2]) | fail)
  go_loopw [4] (fun c4 wr => c4 = .int .i64 0 ∧ wr = w2) (fun _ _ => 0)
  case atStart => exact ⟨rfl, rfl⟩
  case round =>
    obtain ⟨rfl, hwr⟩ := hrel
    have hwr' := hwr.symm
    clear hwr
    subst hwr'
    go_wp2_with (first | (refine wpList_get rfl 41 (.tmp 3) rfl rfl HH.out.2.2.1 Tryz.underlying41 rfl info41 ?_; simp only [Act.put, List.setIfInBounds_toArray, List.set_cons_zero, List.set_cons_succ]) | (refine wpList_put rfl 41 (.tmp 2) (.tmp 34) rfl rfl rfl rfl HH.out.2.1 rfl info41 (by simp [Value.oneCell']) ?_) | fail)
    refine bodyPost_ret (results_cell_row Tryz.results15 _ _ (w.heap.size + 1) 41 _ (0, 0) _ rfl (put_row _ HH.out.2.1 rfl) Tryz.underlying41 rfl info41) rfl ⟨rfl, put_below HH.out.1 _ (Nat.le_succ _) _⟩
end Go.Proofs.YtcniebkehekliaaGreatDoor
