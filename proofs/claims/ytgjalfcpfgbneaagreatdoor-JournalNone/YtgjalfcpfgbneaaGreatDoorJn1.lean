/- A nil journal; Open without a disk, on a dead one, with files of no bytes, on a disk without files. -/
import Derived.Test.YtgjalfcpfgbneaaGreatDoorSur
namespace Go.Proofs.YtgjalfcpfgbneaaGreatDoor
open Go.RowKit Go.Shelf
theorem nlen (w : World) : Calls Tryz.prog 21 #[.pointer none] w fun e w' => e = .returned (.int .i64 0) ∧ w' = w := by
  go_enter Tryz.func21, Tryz.ntmps21
  go_wp2
  go_ret
  exact ⟨rfl, rfl⟩
theorem nfilesJ (w : World) : Calls Tryz.prog 24 #[.pointer none] w fun e w' => e = .returned (.int .i64 0) ∧ w' = w := by
  go_enter Tryz.func24, Tryz.ntmps24
  go_wp2
  go_ret
  exact ⟨rfl, rfl⟩
theorem nadd (v : Value) (w : World) : Calls Tryz.prog 16 #[.pointer none, v] w fun e w' => e = .returned (.tuple #[.int .i64 0, .int .i64 1]) ∧ w' = w := by
  go_enter Tryz.func16, Tryz.ntmps16
  go_wp2
  go_ret2
  exact ⟨rfl, rfl⟩
set_option maxRecDepth 20000 in
set_option maxHeartbeats 1000000 in
theorem nkeep (n : Int) (w : World) : Calls Tryz.prog 9 #[.pointer none, .int .i64 n] w fun e w' => e = .returned (.int .i64 1) ∧ Below w.heap.size w w' := by
  go_enter Tryz.func9, Tryz.ntmps9
  go_wp2
  refine bodyPost_ret (v := .int .i64 1) (by simp [results, Tryz.results9, asAddr, go_sem]) rfl ⟨rfl, ?_⟩
  exact ((Below.refl _ w).alloc (Nat.le_refl _) _).alloc (by simp) _
set_option maxRecDepth 20000 in
set_option maxHeartbeats 1000000 in
theorem nblank (n a b : Int) (w : World) : Calls Tryz.prog 11 #[.pointer none, .int .i64 n, .int .i64 a, .int .i64 b] w fun e w' => e = .returned (.int .i64 1) ∧ w' = w := by
  have k := nlen w
  by_cases h : n < 0
  · have h1 : decide (n < 0) = true := decide_eq_true h
    go_enter Tryz.func11, Tryz.ntmps11
    go_wp2
    go_ret
    exact ⟨rfl, rfl⟩
  · have h1 : decide (n < 0) = false := decide_eq_false h
    have h2 : 0 ≤ n := by omega
    go_enter Tryz.func11, Tryz.ntmps11
    go_wp2_with fail
    refine k.mono ?_
    rintro e w1 ⟨rfl, rfl⟩
    go_wp2
    go_ret
    exact ⟨rfl, rfl⟩
set_option maxRecDepth 20000 in
set_option maxHeartbeats 1000000 in
theorem open_nil (w : World) : Calls Tryz.prog 7 #[.pointer none, .int .i64 5] w fun e w' => e = .returned (.tuple #[.pointer none, .int .i64 1]) ∧ w' = w := by
  go_enter Tryz.func7, Tryz.ntmps7
  go_wp2
  go_ret2
  exact ⟨rfl, rfl⟩
set_option maxRecDepth 20000 in
set_option maxHeartbeats 1000000 in
theorem open_few (d : Nat) (most : Int) (h : most < 1) (w : World) : Calls Tryz.prog 7 #[.pointer (some ⟨d, 0, none⟩), .int .i64 most] w fun e w' => e = .returned (.tuple #[.pointer none, .int .i64 1]) ∧ w' = w := by
  have h1 : decide (most < 1) = true := decide_eq_true h
  go_enter Tryz.func7, Tryz.ntmps7
  go_wp2
  go_ret2
  exact ⟨rfl, rfl⟩
set_option maxRecDepth 20000 in
set_option maxHeartbeats 1000000 in
theorem open_dead {d : Nat} {mp : Value} {sec used ch : Int} {pl : Value} (w : World) (h : Dk w d mp sec used ch pl true) : Calls Tryz.prog 7 #[.pointer (some ⟨d, 0, none⟩), .int .i64 5] w fun e w' => e = .returned (.tuple #[.pointer none, .int .i64 7]) ∧ w' = w := by
  have k := dead_any w h
  clear h
  go_enter Tryz.func7, Tryz.ntmps7
  go_wp2_with fail
  refine k.mono ?_
  rintro e w1 ⟨rfl, rfl⟩
  go_wp2
  go_ret2
  exact ⟨rfl, rfl⟩
def Jr (w : World) (j d : Nat) (most : Int) (rv : Value) (files : Int) : Prop := w.heap[j]? = some (.cells #[.pointer (some ⟨d, 0, none⟩), .int .i64 most, rv, .int .i64 files] 72 (0, 0))
theorem Jr.cells {w : World} {j d : Nat} {most : Int} {rv : Value} {files : Int} (h : Jr w j d most rv files) : w.cell? ⟨j, 0, none⟩ = some (.pointer (some ⟨d, 0, none⟩)) ∧ w.cell? ⟨j, 1, none⟩ = some (.int .i64 most) ∧ w.cell? ⟨j, 2, none⟩ = some rv ∧ w.cell? ⟨j, 3, none⟩ = some (.int .i64 files) :=
  ⟨cell_of_row _ _ 0 _ _ _ h, cell_of_row _ _ 1 _ _ _ h, cell_of_row _ _ 2 _ _ _ h, cell_of_row _ _ 3 _ _ _ h⟩
theorem Jr.fro {w : World} {j d : Nat} {most : Int} {rv : Value} {files : Int} (h : Jr w j d most rv files) (k : Nat) : w.frozen? ⟨j, k, none⟩ = false := frozen_of_row _ _ k _ _ h
set_option maxRecDepth 20000 in
set_option maxHeartbeats 1000000 in
theorem jread_none {j d : Nat} {most files : Int} {rv : Value} {sec used ch : Int} {pl : Value} (n : Int) (hI : I64 n) (w : World) (hj : Jr w j d most rv files) (h : Dk w d (.map none) sec used ch pl false) :
    Calls Tryz.prog 25 #[.pointer (some ⟨j, 0, none⟩), .int .i64 n] w fun e w' => e = .returned (.bool false) ∧ w' = w := by
  have k := read_none n hI w h
  obtain ⟨c0, c1, c2, c3⟩ := hj.cells
  clear h hj
  go_enter Tryz.func25, Tryz.ntmps25
  go_wp2_with fail
  refine k.mono ?_
  rintro e w1 ⟨rfl, rfl⟩
  go_wp2
  go_ret
  exact ⟨rfl, rfl⟩
set_option maxRecDepth 20000 in
set_option maxHeartbeats 1000000 in
theorem open_new {d : Nat} {sec used ch : Int} {pl : Value} (most : Int) (hm : 1 ≤ most) (w : World) (h : Dk w d (.map none) sec used ch pl false) :
    Calls Tryz.prog 7 #[.pointer (some ⟨d, 0, none⟩), .int .i64 most] w fun e w' => e = .returned (.tuple #[.pointer (some ⟨w.heap.size, 0, none⟩), .int .i64 0]) ∧ w' = w.alloc (.cells #[.pointer (some ⟨d, 0, none⟩), .int .i64 most, .slice none 0 0, .int .i64 0] 72) := by
  have k := dead_any w h
  have h1 : decide (most < 1) = false := decide_eq_false (by omega)
  obtain ⟨w1, hw1⟩ : ∃ w1, w.alloc (.cells #[.pointer (some ⟨d, 0, none⟩), .int .i64 most, .slice none 0 0, .int .i64 0] 72) = w1 := ⟨_, rfl⟩
  have hj : Jr w1 w.heap.size d most (.slice none 0 0) 0 := by rw [← hw1]; exact heap_alloc_new _ _
  have hd1 : Dk w1 d (.map none) sec used ch pl false := by
    have hb : Below w.heap.size w w1 := by rw [← hw1]; exact (Below.refl _ w).alloc (Nat.le_refl _) _
    exact (hb.block _ (lt_of_row h)).trans h
  have kr := jread_none 1 ⟨by omega, by omega⟩ w1 hj hd1
  have HW : Hid (w.alloc (.cells #[.pointer (some ⟨d, 0, none⟩), .int .i64 most, .slice none 0 0, .int .i64 0] 72) = w1) := hw1
  rw [hw1]
  clear h hw1 hj hd1
  go_enter Tryz.func7, Tryz.ntmps7
  go_wp2_with fail
  refine k.mono ?_
  rintro e w2 ⟨rfl, rfl⟩
  go_wp2_with (first | rw [HW.out] | fail)
  go_loopw [7] (fun v wr => v = .int .i64 1 ∧ wr = w1) (fun _ _ => 0)
  case atStart => exact ⟨rfl, rfl⟩
  case round =>
    obtain ⟨rfl, rfl⟩ := hrel
    go_wp2_with fail
    refine kr.mono ?_
    rintro e w3 ⟨rfl, rfl⟩
    go_wp2
    go_ret2
    exact ⟨rfl, rfl⟩
end Go.Proofs.YtgjalfcpfgbneaaGreatDoor
