/- At of a nil journal. -/
import Derived.Test.YtgjalfcpfgbneaaGreatDoorJn2
import Derived.Laws.ResultCell
namespace Go.Proofs.YtgjalfcpfgbneaaGreatDoor
open Go.RowKit Go.Shelf
set_option maxRecDepth 20000 in
set_option maxHeartbeats 1000000 in
theorem nat_nil (n : Int) (w : World) : Calls Tryz.prog 22 #[.pointer none, .int .i64 n] w fun e w' => (∃ v, e = .returned (.tuple #[v, .bool false])) ∧ Below w.heap.size w w' := by
  have k := nlen
  by_cases h : n < 0
  · have h1 : decide (n < 0) = true := decide_eq_true h
    go_enter Tryz.func22, Tryz.ntmps22
    go_wp2
    refine bodyPost_ret (v := .tuple #[.agg #[.int .i64 0, .int .i64 0, .string ⟨#[]⟩, .bool false], .bool false]) (by rw [results_cell_tmp Tryz.results22]; simp [asAddr, go_sem]) rfl ⟨⟨_, rfl⟩, ?_⟩
    exact (Below.refl _ w).alloc (Nat.le_refl _) _
  · have h1 : decide (n < 0) = false := decide_eq_false h
    have h2 : 0 ≤ n := by omega
    go_enter Tryz.func22, Tryz.ntmps22
    go_wp2_with fail
    refine (k _).mono ?_
    rintro e w1 ⟨rfl, rfl⟩
    go_wp2
    refine bodyPost_ret (v := .tuple #[.agg #[.int .i64 0, .int .i64 0, .string ⟨#[]⟩, .bool false], .bool false]) (by rw [results_cell_tmp Tryz.results22]; simp [asAddr, go_sem]) rfl ⟨⟨_, rfl⟩, ?_⟩
    exact (Below.refl _ w).alloc (Nat.le_refl _) _
end Go.Proofs.YtgjalfcpfgbneaaGreatDoor
