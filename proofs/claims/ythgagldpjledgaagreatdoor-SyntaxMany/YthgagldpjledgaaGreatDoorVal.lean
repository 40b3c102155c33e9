/- Values of literals (None, Bool, Int, Str, Bytes). -/
import Derived.Test.YthgagldpjledgaaGreatDoorBnr
namespace Go.Proofs.YthgagldpjledgaaGreatDoor
open Go.RowKit Go.Shelf
attribute [local go_sem] Oper.semAt_some fw0 fw1 fw2
def vlV (k : Int) (b : Bool) (n : Int) (s : ByteArray) : Value := .agg #[.int .i64 k, .bool b, .int .i64 n, .string s, .slice none 0 0, .slice none 0 0]
set_option maxRecDepth 100000 in
set_option maxHeartbeats 4000000 in
theorem vint_any (n : Int) (w : World) : Calls Tryz.prog 156 #[.int .i64 n] w fun r w' => r = .returned (vlV 2 false n ⟨#[]⟩) ∧ Below w.heap.size w w' := by
  unfold vlV
  go_enter Tryz.func156, Tryz.ntmps156
  go_wp2
  exact bodyPost_ret (results_cell_row Tryz.results156 _ _ w.heap.size 25 _ (0, 0) _ rfl (heap_alloc_new _ _) Tryz.underlying25 rfl (by kernel_rfl)) rfl ⟨rfl, (Below.refl _ w).alloc (Nat.le_refl _) _⟩
set_option maxRecDepth 100000 in
set_option maxHeartbeats 4000000 in
theorem vstr_any (s : ByteArray) (w : World) : Calls Tryz.prog 157 #[.string s] w fun r w' => r = .returned (vlV 3 false 0 s) ∧ Below w.heap.size w w' := by
  unfold vlV
  go_enter Tryz.func157, Tryz.ntmps157
  go_wp2
  exact bodyPost_ret (results_cell_row Tryz.results157 _ _ w.heap.size 25 _ (0, 0) _ rfl (heap_alloc_new _ _) Tryz.underlying25 rfl (by kernel_rfl)) rfl ⟨rfl, (Below.refl _ w).alloc (Nat.le_refl _) _⟩
set_option maxRecDepth 100000 in
set_option maxHeartbeats 4000000 in
theorem vbytes_any (s : ByteArray) (w : World) : Calls Tryz.prog 158 #[.string s] w fun r w' => r = .returned (vlV 4 false 0 s) ∧ Below w.heap.size w w' := by
  unfold vlV
  go_enter Tryz.func158, Tryz.ntmps158
  go_wp2
  exact bodyPost_ret (results_cell_row Tryz.results158 _ _ w.heap.size 25 _ (0, 0) _ rfl (heap_alloc_new _ _) Tryz.underlying25 rfl (by kernel_rfl)) rfl ⟨rfl, (Below.refl _ w).alloc (Nat.le_refl _) _⟩
set_option maxRecDepth 100000 in
set_option maxHeartbeats 4000000 in
theorem vnone_any (w : World) : Calls Tryz.prog 162 #[] w fun r w' => r = .returned (vlV 0 false 0 ⟨#[]⟩) ∧ Below w.heap.size w w' := by
  unfold vlV
  go_enter Tryz.func162, Tryz.ntmps162
  go_wp2
  exact bodyPost_ret (results_cell_row Tryz.results162 _ _ w.heap.size 25 _ (0, 0) _ rfl (heap_alloc_new _ _) Tryz.underlying25 rfl (by kernel_rfl)) rfl ⟨rfl, (Below.refl _ w).alloc (Nat.le_refl _) _⟩
set_option maxRecDepth 100000 in
set_option maxHeartbeats 4000000 in
theorem vbool_any (b : Bool) (w : World) : Calls Tryz.prog 163 #[.bool b] w fun r w' => r = .returned (vlV 1 b 0 ⟨#[]⟩) ∧ Below w.heap.size w w' := by
  unfold vlV
  go_enter Tryz.func163, Tryz.ntmps163
  go_wp2
  exact bodyPost_ret (results_cell_row Tryz.results163 _ _ w.heap.size 25 _ (0, 0) _ rfl (heap_alloc_new _ _) Tryz.underlying25 rfl (by kernel_rfl)) rfl ⟨rfl, (Below.refl _ w).alloc (Nat.le_refl _) _⟩
end Go.Proofs.YthgagldpjledgaaGreatDoor
