/- bound of the ranks of NOT, of a comparison, of the strongest: each calls its own function. -/
import Derived.Test.YthgagldpjledgaaGreatDoorBnd
namespace Go.Proofs.YthgagldpjledgaaGreatDoor
open Go.RowKit Go.Shelf
attribute [local go_sem] Oper.semAt_some fw0 fw1 fw2
set_option maxRecDepth 100000 in
set_option maxHeartbeats 8000000 in
theorem bound_not {w : World} {b : Nat} {p : Option Addr} {c : Nat} {ws : List Wd} {s : PS} (H : Ps w b p c ws s) (X : Et × PS)
    (kb : ∀ W, Ps W b p c ws s → Calls Tryz.prog 112 #[.pointer (some ⟨b, 0, none⟩)] W (Gives ws (fun k => W.heap.size ≤ k) W b p c X)) :
    Calls Tryz.prog 92 #[.pointer (some ⟨b, 0, none⟩), .int .i64 2] w (Gives ws (fun k => w.heap.size ≤ k) w b p c X) := by
  have hold := H.old
  have lb := lt_of_row H.row
  obtain ⟨w1, hw1⟩ : ∃ w1, w.alloc (.cells #[.int .i64 0, .string ⟨#[]⟩, .int .i64 0, .bool false, .int .i64 0, .string ⟨#[]⟩, .slice none 0 0, .slice none 0 0, .slice none 0 0, .slice none 0 0] 28) = w1 := ⟨_, rfl⟩
  have hb1 : Below w.heap.size w w1 := by rw [← hw1]; exact (Below.refl _ w).alloc (Nat.le_refl _) _
  have hs1 : w1.heap.size = w.heap.size + 1 := by rw [← hw1]; simp
  have rz1 : w1.heap[w.heap.size]? = some (.cells #[.int .i64 0, .string ⟨#[]⟩, .int .i64 0, .bool false, .int .i64 0, .string ⟨#[]⟩, .slice none 0 0, .slice none 0 0, .slice none 0 0, .slice none 0 0] 28 (0, 0)) := by rw [← hw1]; exact heap_alloc_new _ _
  have k1 := kb w1 (H.later hb1)
  have HB : Hid (Below w.heap.size w w1) := hb1
  clear H hb1 kb
  go_enter Tryz.func92, Tryz.ntmps92
  go_wp2_with fail
  refine k1.mono ?_
  rintro q w6 ⟨d6, v6, rfl, hL6, hP6, hO6⟩
  have s6 := hO6.size
  have rz6 := (hO6.block _ (by omega) (by omega)).trans rz1
  obtain ⟨R6, rfl⟩ := hL6.row
  have q0 := cell_of_row w6 _ 0 _ _ _ rz6
  have g0 := frozen_of_row w6 _ 0 _ _ rz6
  have q1 := cell_of_row w6 _ 1 _ _ _ rz6
  have g1 := frozen_of_row w6 _ 1 _ _ rz6
  have q2 := cell_of_row w6 _ 2 _ _ _ rz6
  have g2 := frozen_of_row w6 _ 2 _ _ rz6
  have q3 := cell_of_row w6 _ 3 _ _ _ rz6
  have g3 := frozen_of_row w6 _ 3 _ _ rz6
  have q4 := cell_of_row w6 _ 4 _ _ _ rz6
  have g4 := frozen_of_row w6 _ 4 _ _ rz6
  have q5 := cell_of_row w6 _ 5 _ _ _ rz6
  have g5 := frozen_of_row w6 _ 5 _ _ rz6
  have q6 := cell_of_row w6 _ 6 _ _ _ rz6
  have g6 := frozen_of_row w6 _ 6 _ _ rz6
  have q7 := cell_of_row w6 _ 7 _ _ _ rz6
  have g7 := frozen_of_row w6 _ 7 _ _ rz6
  have q8 := cell_of_row w6 _ 8 _ _ _ rz6
  have g8 := frozen_of_row w6 _ 8 _ _ rz6
  have q9 := cell_of_row w6 _ 9 _ _ _ rz6
  have g9 := frozen_of_row w6 _ 9 _ _ rz6
  have H6 : Hid (LiesE w6 (fun k => w1.heap.size ≤ k) d6 X.1 (rowX R6) ∧ Ps w6 b p c ws X.2 ∧ Onl b w1 w6 ∧ w6.heap[w.heap.size]? = some (.cells #[.int .i64 0, .string ⟨#[]⟩, .int .i64 0, .bool false, .int .i64 0, .string ⟨#[]⟩, .slice none 0 0, .slice none 0 0, .slice none 0 0, .slice none 0 0] 28 (0, 0))) := ⟨hL6, hP6, hO6, rz6⟩
  clear k1 hL6 hP6 hO6 rz6 rz1 hw1
  unfold rowX
  go_wp2
  obtain ⟨hL6, hP6, hO6, rz6⟩ := H6.out
  refine bodyPost_ret (results_cell_row Tryz.results92 _ _ w.heap.size 28 _ (0, 0) _ rfl (setR_row rz6 rfl R6) Tryz.underlying28 rfl (by kernel_rfl)) rfl ⟨d6, rowX R6, rfl, ?_, ?_, ?_⟩
  · exact (hL6.since (Since.set10 (by omega) w6 _ _ _ _ _ _ _ _ _ _)).imp fun k hk _ => by omega
  · exact hP6.kept (z := w.heap.size) lb hold (fun j hj => set10_other hj _ _ _ _ _ _ _ _ _ _) (Nat.le_of_eq (set10_size _ _ _ _ _ _ _ _ _ _ _ _).symm)
  · exact ((Onl.of HB.out).trans hO6).set10 _ (Nat.le_refl _) _ _ _ _ _ _ _ _ _ _
set_option maxRecDepth 100000 in
set_option maxHeartbeats 8000000 in
theorem bound_cmp {w : World} {b : Nat} {p : Option Addr} {c : Nat} {ws : List Wd} {s : PS} (H : Ps w b p c ws s) (X : Et × PS)
    (kb : ∀ W, Ps W b p c ws s → Calls Tryz.prog 113 #[.pointer (some ⟨b, 0, none⟩)] W (Gives ws (fun k => W.heap.size ≤ k) W b p c X)) :
    Calls Tryz.prog 92 #[.pointer (some ⟨b, 0, none⟩), .int .i64 3] w (Gives ws (fun k => w.heap.size ≤ k) w b p c X) := by
  have hold := H.old
  have lb := lt_of_row H.row
  obtain ⟨w1, hw1⟩ : ∃ w1, w.alloc (.cells #[.int .i64 0, .string ⟨#[]⟩, .int .i64 0, .bool false, .int .i64 0, .string ⟨#[]⟩, .slice none 0 0, .slice none 0 0, .slice none 0 0, .slice none 0 0] 28) = w1 := ⟨_, rfl⟩
  have hb1 : Below w.heap.size w w1 := by rw [← hw1]; exact (Below.refl _ w).alloc (Nat.le_refl _) _
  have hs1 : w1.heap.size = w.heap.size + 1 := by rw [← hw1]; simp
  have rz1 : w1.heap[w.heap.size]? = some (.cells #[.int .i64 0, .string ⟨#[]⟩, .int .i64 0, .bool false, .int .i64 0, .string ⟨#[]⟩, .slice none 0 0, .slice none 0 0, .slice none 0 0, .slice none 0 0] 28 (0, 0)) := by rw [← hw1]; exact heap_alloc_new _ _
  have k1 := kb w1 (H.later hb1)
  have HB : Hid (Below w.heap.size w w1) := hb1
  clear H hb1 kb
  go_enter Tryz.func92, Tryz.ntmps92
  go_wp2_with fail
  refine k1.mono ?_
  rintro q w6 ⟨d6, v6, rfl, hL6, hP6, hO6⟩
  have s6 := hO6.size
  have rz6 := (hO6.block _ (by omega) (by omega)).trans rz1
  obtain ⟨R6, rfl⟩ := hL6.row
  have q0 := cell_of_row w6 _ 0 _ _ _ rz6
  have g0 := frozen_of_row w6 _ 0 _ _ rz6
  have q1 := cell_of_row w6 _ 1 _ _ _ rz6
  have g1 := frozen_of_row w6 _ 1 _ _ rz6
  have q2 := cell_of_row w6 _ 2 _ _ _ rz6
  have g2 := frozen_of_row w6 _ 2 _ _ rz6
  have q3 := cell_of_row w6 _ 3 _ _ _ rz6
  have g3 := frozen_of_row w6 _ 3 _ _ rz6
  have q4 := cell_of_row w6 _ 4 _ _ _ rz6
  have g4 := frozen_of_row w6 _ 4 _ _ rz6
  have q5 := cell_of_row w6 _ 5 _ _ _ rz6
  have g5 := frozen_of_row w6 _ 5 _ _ rz6
  have q6 := cell_of_row w6 _ 6 _ _ _ rz6
  have g6 := frozen_of_row w6 _ 6 _ _ rz6
  have q7 := cell_of_row w6 _ 7 _ _ _ rz6
  have g7 := frozen_of_row w6 _ 7 _ _ rz6
  have q8 := cell_of_row w6 _ 8 _ _ _ rz6
  have g8 := frozen_of_row w6 _ 8 _ _ rz6
  have q9 := cell_of_row w6 _ 9 _ _ _ rz6
  have g9 := frozen_of_row w6 _ 9 _ _ rz6
  have H6 : Hid (LiesE w6 (fun k => w1.heap.size ≤ k) d6 X.1 (rowX R6) ∧ Ps w6 b p c ws X.2 ∧ Onl b w1 w6 ∧ w6.heap[w.heap.size]? = some (.cells #[.int .i64 0, .string ⟨#[]⟩, .int .i64 0, .bool false, .int .i64 0, .string ⟨#[]⟩, .slice none 0 0, .slice none 0 0, .slice none 0 0, .slice none 0 0] 28 (0, 0))) := ⟨hL6, hP6, hO6, rz6⟩
  clear k1 hL6 hP6 hO6 rz6 rz1 hw1
  unfold rowX
  go_wp2
  obtain ⟨hL6, hP6, hO6, rz6⟩ := H6.out
  refine bodyPost_ret (results_cell_row Tryz.results92 _ _ w.heap.size 28 _ (0, 0) _ rfl (setR_row rz6 rfl R6) Tryz.underlying28 rfl (by kernel_rfl)) rfl ⟨d6, rowX R6, rfl, ?_, ?_, ?_⟩
  · exact (hL6.since (Since.set10 (by omega) w6 _ _ _ _ _ _ _ _ _ _)).imp fun k hk _ => by omega
  · exact hP6.kept (z := w.heap.size) lb hold (fun j hj => set10_other hj _ _ _ _ _ _ _ _ _ _) (Nat.le_of_eq (set10_size _ _ _ _ _ _ _ _ _ _ _ _).symm)
  · exact ((Onl.of HB.out).trans hO6).set10 _ (Nat.le_refl _) _ _ _ _ _ _ _ _ _ _
set_option maxRecDepth 100000 in
set_option maxHeartbeats 8000000 in
theorem bound_top {w : World} {b : Nat} {p : Option Addr} {c : Nat} {ws : List Wd} {s : PS} (H : Ps w b p c ws s) (X : Et × PS)
    (kb : ∀ W, Ps W b p c ws s → Calls Tryz.prog 114 #[.pointer (some ⟨b, 0, none⟩)] W (Gives ws (fun k => W.heap.size ≤ k) W b p c X)) :
    Calls Tryz.prog 92 #[.pointer (some ⟨b, 0, none⟩), .int .i64 6] w (Gives ws (fun k => w.heap.size ≤ k) w b p c X) := by
  have hold := H.old
  have lb := lt_of_row H.row
  obtain ⟨w1, hw1⟩ : ∃ w1, w.alloc (.cells #[.int .i64 0, .string ⟨#[]⟩, .int .i64 0, .bool false, .int .i64 0, .string ⟨#[]⟩, .slice none 0 0, .slice none 0 0, .slice none 0 0, .slice none 0 0] 28) = w1 := ⟨_, rfl⟩
  have hb1 : Below w.heap.size w w1 := by rw [← hw1]; exact (Below.refl _ w).alloc (Nat.le_refl _) _
  have hs1 : w1.heap.size = w.heap.size + 1 := by rw [← hw1]; simp
  have rz1 : w1.heap[w.heap.size]? = some (.cells #[.int .i64 0, .string ⟨#[]⟩, .int .i64 0, .bool false, .int .i64 0, .string ⟨#[]⟩, .slice none 0 0, .slice none 0 0, .slice none 0 0, .slice none 0 0] 28 (0, 0)) := by rw [← hw1]; exact heap_alloc_new _ _
  have k1 := kb w1 (H.later hb1)
  have HB : Hid (Below w.heap.size w w1) := hb1
  clear H hb1 kb
  go_enter Tryz.func92, Tryz.ntmps92
  go_wp2_with fail
  refine k1.mono ?_
  rintro q w6 ⟨d6, v6, rfl, hL6, hP6, hO6⟩
  have s6 := hO6.size
  have rz6 := (hO6.block _ (by omega) (by omega)).trans rz1
  obtain ⟨R6, rfl⟩ := hL6.row
  have q0 := cell_of_row w6 _ 0 _ _ _ rz6
  have g0 := frozen_of_row w6 _ 0 _ _ rz6
  have q1 := cell_of_row w6 _ 1 _ _ _ rz6
  have g1 := frozen_of_row w6 _ 1 _ _ rz6
  have q2 := cell_of_row w6 _ 2 _ _ _ rz6
  have g2 := frozen_of_row w6 _ 2 _ _ rz6
  have q3 := cell_of_row w6 _ 3 _ _ _ rz6
  have g3 := frozen_of_row w6 _ 3 _ _ rz6
  have q4 := cell_of_row w6 _ 4 _ _ _ rz6
  have g4 := frozen_of_row w6 _ 4 _ _ rz6
  have q5 := cell_of_row w6 _ 5 _ _ _ rz6
  have g5 := frozen_of_row w6 _ 5 _ _ rz6
  have q6 := cell_of_row w6 _ 6 _ _ _ rz6
  have g6 := frozen_of_row w6 _ 6 _ _ rz6
  have q7 := cell_of_row w6 _ 7 _ _ _ rz6
  have g7 := frozen_of_row w6 _ 7 _ _ rz6
  have q8 := cell_of_row w6 _ 8 _ _ _ rz6
  have g8 := frozen_of_row w6 _ 8 _ _ rz6
  have q9 := cell_of_row w6 _ 9 _ _ _ rz6
  have g9 := frozen_of_row w6 _ 9 _ _ rz6
  have H6 : Hid (LiesE w6 (fun k => w1.heap.size ≤ k) d6 X.1 (rowX R6) ∧ Ps w6 b p c ws X.2 ∧ Onl b w1 w6 ∧ w6.heap[w.heap.size]? = some (.cells #[.int .i64 0, .string ⟨#[]⟩, .int .i64 0, .bool false, .int .i64 0, .string ⟨#[]⟩, .slice none 0 0, .slice none 0 0, .slice none 0 0, .slice none 0 0] 28 (0, 0))) := ⟨hL6, hP6, hO6, rz6⟩
  clear k1 hL6 hP6 hO6 rz6 rz1 hw1
  unfold rowX
  go_wp2
  obtain ⟨hL6, hP6, hO6, rz6⟩ := H6.out
  refine bodyPost_ret (results_cell_row Tryz.results92 _ _ w.heap.size 28 _ (0, 0) _ rfl (setR_row rz6 rfl R6) Tryz.underlying28 rfl (by kernel_rfl)) rfl ⟨d6, rowX R6, rfl, ?_, ?_, ?_⟩
  · exact (hL6.since (Since.set10 (by omega) w6 _ _ _ _ _ _ _ _ _ _)).imp fun k hk _ => by omega
  · exact hP6.kept (z := w.heap.size) lb hold (fun j hj => set10_other hj _ _ _ _ _ _ _ _ _ _) (Nat.le_of_eq (set10_size _ _ _ _ _ _ _ _ _ _ _ _).symm)
  · exact ((Onl.of HB.out).trans hO6).set10 _ (Nat.le_refl _) _ _ _ _ _ _ _ _ _ _
end Go.Proofs.YthgagldpjledgaaGreatDoor
