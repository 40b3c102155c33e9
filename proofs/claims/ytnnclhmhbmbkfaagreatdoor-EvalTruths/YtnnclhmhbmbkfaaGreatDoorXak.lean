/- The law's own literals, and what AND, OR and NOT of two of them come to. A field of a document, + and = of numbers: part, all, signed, reckon. -/
import Derived.Test.YtnnclhmhbmbkfaaGreatDoorRk4
import Derived.Test.YtnnclhmhbmbkfaaGreatDoorRk3
namespace Go.Proofs.YtnnclhmhbmbkfaaGreatDoor
open Go.RowKit Go.Shelf
attribute [local go_sem] Oper.semAt_some
theorem bits3 (a : Int) : bits .and .i64 a 3 = 0 ∨ bits .and .i64 a 3 = 1 ∨ bits .and .i64 a 3 = 2 ∨ bits .and .i64 a 3 = 3 := by
  unfold bits
  have h : (BitVec.ofInt IntKind.i64.bits a &&& BitVec.ofInt IntKind.i64.bits 3).toNat ≤ 3 := by
    rw [BitVec.toNat_and]
    exact Nat.and_le_right
  obtain ⟨n, hn⟩ : ∃ n, (BitVec.ofInt IntKind.i64.bits a &&& BitVec.ofInt IntKind.i64.bits 3).toNat = n := ⟨_, rfl⟩
  rw [hn] at h
  show IntKind.i64.wrap (((BitVec.ofInt IntKind.i64.bits a &&& BitVec.ofInt IntKind.i64.bits 3).toNat : Nat) : Int) = 0 ∨ IntKind.i64.wrap (((BitVec.ofInt IntKind.i64.bits a &&& BitVec.ofInt IntKind.i64.bits 3).toNat : Nat) : Int) = 1 ∨ IntKind.i64.wrap (((BitVec.ofInt IntKind.i64.bits a &&& BitVec.ofInt IntKind.i64.bits 3).toNat : Nat) : Int) = 2 ∨ IntKind.i64.wrap (((BitVec.ofInt IntKind.i64.bits a &&& BitVec.ofInt IntKind.i64.bits 3).toNat : Nat) : Int) = 3
  rw [hn]
  obtain rfl | rfl | rfl | rfl : n = 0 ∨ n = 1 ∨ n = 2 ∨ n = 3 := by omega
  · left; decide +kernel
  · right; left; decide +kernel
  · right; right; left; decide +kernel
  · right; right; right; decide +kernel
def lfK (p : Nat) : Lf := if p = 0 then okL false else if p = 1 then okL true else if p = 2 then noL else inL 1
set_option maxRecDepth 100000 in
set_option maxHeartbeats 4000000 in
theorem lit_0 (w : World) : Calls Tryz.prog 17 #[.int .i64 0] w fun r w' => r = .returned (.agg #[.int .i64 1, .string ⟨#[]⟩, .int .i64 1, .bool false, .int .i64 0, .string ⟨#[]⟩, .slice none 0 0, .slice none 0 0, .slice none 0 0, .slice none 0 0]) ∧ Below w.heap.size w w' := by
  have kf : ∀ W : World, Calls Tryz.prog 32 #[.bool false] W fun r w' => r = .returned (.agg #[.int .i64 1, .bool false, .int .i64 0, .string ⟨#[]⟩, .slice none 0 0, .slice none 0 0]) ∧ Below W.heap.size W w' := bool_any false
  have kt : ∀ W : World, Calls Tryz.prog 32 #[.bool true] W fun r w' => r = .returned (.agg #[.int .i64 1, .bool true, .int .i64 0, .string ⟨#[]⟩, .slice none 0 0, .slice none 0 0]) ∧ Below W.heap.size W w' := bool_any true
  have kn : ∀ W : World, Calls Tryz.prog 18 #[] W fun r w' => r = .returned (.agg #[.int .i64 0, .bool false, .int .i64 0, .string ⟨#[]⟩, .slice none 0 0, .slice none 0 0]) ∧ Below W.heap.size W w' := V.vnone
  have ki : ∀ W : World, Calls Tryz.prog 16 #[.int .i64 1] W fun r w' => r = .returned (.agg #[.int .i64 2, .bool false, .int .i64 1, .string ⟨#[]⟩, .slice none 0 0, .slice none 0 0]) ∧ Below W.heap.size W w' := V.vint 1
  obtain ⟨wa, hwa⟩ : ∃ u, (w.alloc (.cells #[.int .i64 0, .string ⟨#[]⟩, .int .i64 0, .bool false, .int .i64 0, .string ⟨#[]⟩, .slice none 0 0, .slice none 0 0, .slice none 0 0, .slice none 0 0] 28)) = u := ⟨_, rfl⟩
  obtain ⟨rwa0, bwa⟩ := alloc1 hwa
  have HWwa := mkHid hwa
  have HA : Hid (wa.heap[w.heap.size]? = some (.cells #[.int .i64 0, .string ⟨#[]⟩, .int .i64 0, .bool false, .int .i64 0, .string ⟨#[]⟩, .slice none 0 0, .slice none 0 0, .slice none 0 0, .slice none 0 0] 28 (0, 0)) ∧ Below w.heap.size w wa) := ⟨rwa0, bwa⟩
  clear hwa rwa0 bwa
  go_enter Tryz.func17, Tryz.ntmps17
  go_wp2_with (first | rw [HWwa.out] | fail)
  refine (kf _).mono ?_
  rintro r w1 ⟨rfl, hb1⟩
  go_wp2_with fail
  refine (kt _).mono ?_
  rintro r w2 ⟨rfl, hb2⟩
  go_wp2_with fail
  refine (kn _).mono ?_
  rintro r w3 ⟨rfl, hb3⟩
  go_wp2_with fail
  refine (ki _).mono ?_
  rintro r w4 ⟨rfl, hb4⟩
  have b14 : Below wa.heap.size wa w4 := ((hb1.trans (hb2.mono hb1.size)).trans (hb3.mono (Nat.le_trans hb1.size hb2.size))).trans (hb4.mono (Nat.le_trans (Nat.le_trans hb1.size hb2.size) hb3.size))
  have H4 : Hid (w4.heap[w.heap.size]? = some (.cells #[.int .i64 0, .string ⟨#[]⟩, .int .i64 0, .bool false, .int .i64 0, .string ⟨#[]⟩, .slice none 0 0, .slice none 0 0, .slice none 0 0, .slice none 0 0] 28 (0, 0)) ∧ Below w.heap.size w w4) := ⟨Below.row b14 HA.out.1, HA.out.2.trans (b14.mono HA.out.2.size)⟩
  obtain ⟨w5, hw5⟩ : ∃ w5, w4.alloc (.cells #[.int .i64 1, .bool false, .int .i64 0, .string ⟨#[]⟩, .slice none 0 0, .slice none 0 0, .int .i64 1, .bool true, .int .i64 0, .string ⟨#[]⟩, .slice none 0 0, .slice none 0 0, .int .i64 0, .bool false, .int .i64 0, .string ⟨#[]⟩, .slice none 0 0, .slice none 0 0, .int .i64 2, .bool false, .int .i64 1, .string ⟨#[]⟩, .slice none 0 0, .slice none 0 0] 25) = w5 := ⟨_, rfl⟩
  have HW5 : Hid (w4.alloc (.cells #[.int .i64 1, .bool false, .int .i64 0, .string ⟨#[]⟩, .slice none 0 0, .slice none 0 0, .int .i64 1, .bool true, .int .i64 0, .string ⟨#[]⟩, .slice none 0 0, .slice none 0 0, .int .i64 0, .bool false, .int .i64 0, .string ⟨#[]⟩, .slice none 0 0, .slice none 0 0, .int .i64 2, .bool false, .int .i64 1, .string ⟨#[]⟩, .slice none 0 0, .slice none 0 0] 25) = w5) := hw5
  have hb5 : Below w4.heap.size w4 w5 := by rw [← hw5]; exact (Below.refl _ w4).alloc (Nat.le_refl _) _
  have r5 : w5.heap[w4.heap.size]? = some (.cells #[.int .i64 1, .bool false, .int .i64 0, .string ⟨#[]⟩, .slice none 0 0, .slice none 0 0, .int .i64 1, .bool true, .int .i64 0, .string ⟨#[]⟩, .slice none 0 0, .slice none 0 0, .int .i64 0, .bool false, .int .i64 0, .string ⟨#[]⟩, .slice none 0 0, .slice none 0 0, .int .i64 2, .bool false, .int .i64 1, .string ⟨#[]⟩, .slice none 0 0, .slice none 0 0] 25 (0, 0)) := by rw [← hw5]; exact heap_alloc_new _ _
  have cc0 : w5.cell? ⟨w4.heap.size, 0, none⟩ = some (.int .i64 1) := cell_of_row w5 _ 0 _ _ _ r5
  have cc1 : w5.cell? ⟨w4.heap.size, 1, none⟩ = some (.bool false) := cell_of_row w5 _ 1 _ _ _ r5
  have cc2 : w5.cell? ⟨w4.heap.size, 2, none⟩ = some (.int .i64 0) := cell_of_row w5 _ 2 _ _ _ r5
  have cc3 : w5.cell? ⟨w4.heap.size, 3, none⟩ = some (.string ⟨#[]⟩) := cell_of_row w5 _ 3 _ _ _ r5
  have cc4 : w5.cell? ⟨w4.heap.size, 4, none⟩ = some (.slice none 0 0) := cell_of_row w5 _ 4 _ _ _ r5
  have cc5 : w5.cell? ⟨w4.heap.size, 5, none⟩ = some (.slice none 0 0) := cell_of_row w5 _ 5 _ _ _ r5
  have H5 : Hid (w5.heap[w.heap.size]? = some (.cells #[.int .i64 0, .string ⟨#[]⟩, .int .i64 0, .bool false, .int .i64 0, .string ⟨#[]⟩, .slice none 0 0, .slice none 0 0, .slice none 0 0, .slice none 0 0] 28 (0, 0)) ∧ Below w.heap.size w w5) := ⟨Below.row hb5 H4.out.1, H4.out.2.trans (hb5.mono H4.out.2.size)⟩
  have hb3' : bits .and .i64 0 3 = 0 := by decide +kernel
  clear hb1 hb2 hb3 hb4 b14 hw5 hb5 r5 H4 kf kt kn ki HWwa HA
  go_wp2_with (first | rw [HW5.out] | (refine wpList_put rfl 28 (.tmp 2) (.tmp 14) rfl rfl rfl rfl H5.out.1 rfl info28 (by simp [Value.oneCell']) ?_) | fail)
  exact bodyPost_ret (results_cell_row Tryz.results17 _ _ w.heap.size 28 _ (0, 0) _ rfl (put_row _ H5.out.1 rfl) Tryz.underlying28 rfl info28) rfl ⟨rfl, put_below H5.out.2 _ (Nat.le_refl _) _⟩
set_option maxRecDepth 100000 in
set_option maxHeartbeats 4000000 in
theorem lit_1 (w : World) : Calls Tryz.prog 17 #[.int .i64 1] w fun r w' => r = .returned (.agg #[.int .i64 1, .string ⟨#[]⟩, .int .i64 1, .bool true, .int .i64 0, .string ⟨#[]⟩, .slice none 0 0, .slice none 0 0, .slice none 0 0, .slice none 0 0]) ∧ Below w.heap.size w w' := by
  have kf : ∀ W : World, Calls Tryz.prog 32 #[.bool false] W fun r w' => r = .returned (.agg #[.int .i64 1, .bool false, .int .i64 0, .string ⟨#[]⟩, .slice none 0 0, .slice none 0 0]) ∧ Below W.heap.size W w' := bool_any false
  have kt : ∀ W : World, Calls Tryz.prog 32 #[.bool true] W fun r w' => r = .returned (.agg #[.int .i64 1, .bool true, .int .i64 0, .string ⟨#[]⟩, .slice none 0 0, .slice none 0 0]) ∧ Below W.heap.size W w' := bool_any true
  have kn : ∀ W : World, Calls Tryz.prog 18 #[] W fun r w' => r = .returned (.agg #[.int .i64 0, .bool false, .int .i64 0, .string ⟨#[]⟩, .slice none 0 0, .slice none 0 0]) ∧ Below W.heap.size W w' := V.vnone
  have ki : ∀ W : World, Calls Tryz.prog 16 #[.int .i64 1] W fun r w' => r = .returned (.agg #[.int .i64 2, .bool false, .int .i64 1, .string ⟨#[]⟩, .slice none 0 0, .slice none 0 0]) ∧ Below W.heap.size W w' := V.vint 1
  obtain ⟨wa, hwa⟩ : ∃ u, (w.alloc (.cells #[.int .i64 0, .string ⟨#[]⟩, .int .i64 0, .bool false, .int .i64 0, .string ⟨#[]⟩, .slice none 0 0, .slice none 0 0, .slice none 0 0, .slice none 0 0] 28)) = u := ⟨_, rfl⟩
  obtain ⟨rwa0, bwa⟩ := alloc1 hwa
  have HWwa := mkHid hwa
  have HA : Hid (wa.heap[w.heap.size]? = some (.cells #[.int .i64 0, .string ⟨#[]⟩, .int .i64 0, .bool false, .int .i64 0, .string ⟨#[]⟩, .slice none 0 0, .slice none 0 0, .slice none 0 0, .slice none 0 0] 28 (0, 0)) ∧ Below w.heap.size w wa) := ⟨rwa0, bwa⟩
  clear hwa rwa0 bwa
  go_enter Tryz.func17, Tryz.ntmps17
  go_wp2_with (first | rw [HWwa.out] | fail)
  refine (kf _).mono ?_
  rintro r w1 ⟨rfl, hb1⟩
  go_wp2_with fail
  refine (kt _).mono ?_
  rintro r w2 ⟨rfl, hb2⟩
  go_wp2_with fail
  refine (kn _).mono ?_
  rintro r w3 ⟨rfl, hb3⟩
  go_wp2_with fail
  refine (ki _).mono ?_
  rintro r w4 ⟨rfl, hb4⟩
  have b14 : Below wa.heap.size wa w4 := ((hb1.trans (hb2.mono hb1.size)).trans (hb3.mono (Nat.le_trans hb1.size hb2.size))).trans (hb4.mono (Nat.le_trans (Nat.le_trans hb1.size hb2.size) hb3.size))
  have H4 : Hid (w4.heap[w.heap.size]? = some (.cells #[.int .i64 0, .string ⟨#[]⟩, .int .i64 0, .bool false, .int .i64 0, .string ⟨#[]⟩, .slice none 0 0, .slice none 0 0, .slice none 0 0, .slice none 0 0] 28 (0, 0)) ∧ Below w.heap.size w w4) := ⟨Below.row b14 HA.out.1, HA.out.2.trans (b14.mono HA.out.2.size)⟩
  obtain ⟨w5, hw5⟩ : ∃ w5, w4.alloc (.cells #[.int .i64 1, .bool false, .int .i64 0, .string ⟨#[]⟩, .slice none 0 0, .slice none 0 0, .int .i64 1, .bool true, .int .i64 0, .string ⟨#[]⟩, .slice none 0 0, .slice none 0 0, .int .i64 0, .bool false, .int .i64 0, .string ⟨#[]⟩, .slice none 0 0, .slice none 0 0, .int .i64 2, .bool false, .int .i64 1, .string ⟨#[]⟩, .slice none 0 0, .slice none 0 0] 25) = w5 := ⟨_, rfl⟩
  have HW5 : Hid (w4.alloc (.cells #[.int .i64 1, .bool false, .int .i64 0, .string ⟨#[]⟩, .slice none 0 0, .slice none 0 0, .int .i64 1, .bool true, .int .i64 0, .string ⟨#[]⟩, .slice none 0 0, .slice none 0 0, .int .i64 0, .bool false, .int .i64 0, .string ⟨#[]⟩, .slice none 0 0, .slice none 0 0, .int .i64 2, .bool false, .int .i64 1, .string ⟨#[]⟩, .slice none 0 0, .slice none 0 0] 25) = w5) := hw5
  have hb5 : Below w4.heap.size w4 w5 := by rw [← hw5]; exact (Below.refl _ w4).alloc (Nat.le_refl _) _
  have r5 : w5.heap[w4.heap.size]? = some (.cells #[.int .i64 1, .bool false, .int .i64 0, .string ⟨#[]⟩, .slice none 0 0, .slice none 0 0, .int .i64 1, .bool true, .int .i64 0, .string ⟨#[]⟩, .slice none 0 0, .slice none 0 0, .int .i64 0, .bool false, .int .i64 0, .string ⟨#[]⟩, .slice none 0 0, .slice none 0 0, .int .i64 2, .bool false, .int .i64 1, .string ⟨#[]⟩, .slice none 0 0, .slice none 0 0] 25 (0, 0)) := by rw [← hw5]; exact heap_alloc_new _ _
  have cc6 : w5.cell? ⟨w4.heap.size, 6, none⟩ = some (.int .i64 1) := cell_of_row w5 _ 6 _ _ _ r5
  have cc7 : w5.cell? ⟨w4.heap.size, 7, none⟩ = some (.bool true) := cell_of_row w5 _ 7 _ _ _ r5
  have cc8 : w5.cell? ⟨w4.heap.size, 8, none⟩ = some (.int .i64 0) := cell_of_row w5 _ 8 _ _ _ r5
  have cc9 : w5.cell? ⟨w4.heap.size, 9, none⟩ = some (.string ⟨#[]⟩) := cell_of_row w5 _ 9 _ _ _ r5
  have cc10 : w5.cell? ⟨w4.heap.size, 10, none⟩ = some (.slice none 0 0) := cell_of_row w5 _ 10 _ _ _ r5
  have cc11 : w5.cell? ⟨w4.heap.size, 11, none⟩ = some (.slice none 0 0) := cell_of_row w5 _ 11 _ _ _ r5
  have H5 : Hid (w5.heap[w.heap.size]? = some (.cells #[.int .i64 0, .string ⟨#[]⟩, .int .i64 0, .bool false, .int .i64 0, .string ⟨#[]⟩, .slice none 0 0, .slice none 0 0, .slice none 0 0, .slice none 0 0] 28 (0, 0)) ∧ Below w.heap.size w w5) := ⟨Below.row hb5 H4.out.1, H4.out.2.trans (hb5.mono H4.out.2.size)⟩
  have hb3' : bits .and .i64 1 3 = 1 := by decide +kernel
  clear hb1 hb2 hb3 hb4 b14 hw5 hb5 r5 H4 kf kt kn ki HWwa HA
  go_wp2_with (first | rw [HW5.out] | (refine wpList_put rfl 28 (.tmp 2) (.tmp 14) rfl rfl rfl rfl H5.out.1 rfl info28 (by simp [Value.oneCell']) ?_) | fail)
  exact bodyPost_ret (results_cell_row Tryz.results17 _ _ w.heap.size 28 _ (0, 0) _ rfl (put_row _ H5.out.1 rfl) Tryz.underlying28 rfl info28) rfl ⟨rfl, put_below H5.out.2 _ (Nat.le_refl _) _⟩
set_option maxRecDepth 100000 in
set_option maxHeartbeats 4000000 in
theorem lit_2 (w : World) : Calls Tryz.prog 17 #[.int .i64 2] w fun r w' => r = .returned (.agg #[.int .i64 1, .string ⟨#[]⟩, .int .i64 0, .bool false, .int .i64 0, .string ⟨#[]⟩, .slice none 0 0, .slice none 0 0, .slice none 0 0, .slice none 0 0]) ∧ Below w.heap.size w w' := by
  have kf : ∀ W : World, Calls Tryz.prog 32 #[.bool false] W fun r w' => r = .returned (.agg #[.int .i64 1, .bool false, .int .i64 0, .string ⟨#[]⟩, .slice none 0 0, .slice none 0 0]) ∧ Below W.heap.size W w' := bool_any false
  have kt : ∀ W : World, Calls Tryz.prog 32 #[.bool true] W fun r w' => r = .returned (.agg #[.int .i64 1, .bool true, .int .i64 0, .string ⟨#[]⟩, .slice none 0 0, .slice none 0 0]) ∧ Below W.heap.size W w' := bool_any true
  have kn : ∀ W : World, Calls Tryz.prog 18 #[] W fun r w' => r = .returned (.agg #[.int .i64 0, .bool false, .int .i64 0, .string ⟨#[]⟩, .slice none 0 0, .slice none 0 0]) ∧ Below W.heap.size W w' := V.vnone
  have ki : ∀ W : World, Calls Tryz.prog 16 #[.int .i64 1] W fun r w' => r = .returned (.agg #[.int .i64 2, .bool false, .int .i64 1, .string ⟨#[]⟩, .slice none 0 0, .slice none 0 0]) ∧ Below W.heap.size W w' := V.vint 1
  obtain ⟨wa, hwa⟩ : ∃ u, (w.alloc (.cells #[.int .i64 0, .string ⟨#[]⟩, .int .i64 0, .bool false, .int .i64 0, .string ⟨#[]⟩, .slice none 0 0, .slice none 0 0, .slice none 0 0, .slice none 0 0] 28)) = u := ⟨_, rfl⟩
  obtain ⟨rwa0, bwa⟩ := alloc1 hwa
  have HWwa := mkHid hwa
  have HA : Hid (wa.heap[w.heap.size]? = some (.cells #[.int .i64 0, .string ⟨#[]⟩, .int .i64 0, .bool false, .int .i64 0, .string ⟨#[]⟩, .slice none 0 0, .slice none 0 0, .slice none 0 0, .slice none 0 0] 28 (0, 0)) ∧ Below w.heap.size w wa) := ⟨rwa0, bwa⟩
  clear hwa rwa0 bwa
  go_enter Tryz.func17, Tryz.ntmps17
  go_wp2_with (first | rw [HWwa.out] | fail)
  refine (kf _).mono ?_
  rintro r w1 ⟨rfl, hb1⟩
  go_wp2_with fail
  refine (kt _).mono ?_
  rintro r w2 ⟨rfl, hb2⟩
  go_wp2_with fail
  refine (kn _).mono ?_
  rintro r w3 ⟨rfl, hb3⟩
  go_wp2_with fail
  refine (ki _).mono ?_
  rintro r w4 ⟨rfl, hb4⟩
  have b14 : Below wa.heap.size wa w4 := ((hb1.trans (hb2.mono hb1.size)).trans (hb3.mono (Nat.le_trans hb1.size hb2.size))).trans (hb4.mono (Nat.le_trans (Nat.le_trans hb1.size hb2.size) hb3.size))
  have H4 : Hid (w4.heap[w.heap.size]? = some (.cells #[.int .i64 0, .string ⟨#[]⟩, .int .i64 0, .bool false, .int .i64 0, .string ⟨#[]⟩, .slice none 0 0, .slice none 0 0, .slice none 0 0, .slice none 0 0] 28 (0, 0)) ∧ Below w.heap.size w w4) := ⟨Below.row b14 HA.out.1, HA.out.2.trans (b14.mono HA.out.2.size)⟩
  obtain ⟨w5, hw5⟩ : ∃ w5, w4.alloc (.cells #[.int .i64 1, .bool false, .int .i64 0, .string ⟨#[]⟩, .slice none 0 0, .slice none 0 0, .int .i64 1, .bool true, .int .i64 0, .string ⟨#[]⟩, .slice none 0 0, .slice none 0 0, .int .i64 0, .bool false, .int .i64 0, .string ⟨#[]⟩, .slice none 0 0, .slice none 0 0, .int .i64 2, .bool false, .int .i64 1, .string ⟨#[]⟩, .slice none 0 0, .slice none 0 0] 25) = w5 := ⟨_, rfl⟩
  have HW5 : Hid (w4.alloc (.cells #[.int .i64 1, .bool false, .int .i64 0, .string ⟨#[]⟩, .slice none 0 0, .slice none 0 0, .int .i64 1, .bool true, .int .i64 0, .string ⟨#[]⟩, .slice none 0 0, .slice none 0 0, .int .i64 0, .bool false, .int .i64 0, .string ⟨#[]⟩, .slice none 0 0, .slice none 0 0, .int .i64 2, .bool false, .int .i64 1, .string ⟨#[]⟩, .slice none 0 0, .slice none 0 0] 25) = w5) := hw5
  have hb5 : Below w4.heap.size w4 w5 := by rw [← hw5]; exact (Below.refl _ w4).alloc (Nat.le_refl _) _
  have r5 : w5.heap[w4.heap.size]? = some (.cells #[.int .i64 1, .bool false, .int .i64 0, .string ⟨#[]⟩, .slice none 0 0, .slice none 0 0, .int .i64 1, .bool true, .int .i64 0, .string ⟨#[]⟩, .slice none 0 0, .slice none 0 0, .int .i64 0, .bool false, .int .i64 0, .string ⟨#[]⟩, .slice none 0 0, .slice none 0 0, .int .i64 2, .bool false, .int .i64 1, .string ⟨#[]⟩, .slice none 0 0, .slice none 0 0] 25 (0, 0)) := by rw [← hw5]; exact heap_alloc_new _ _
  have cc12 : w5.cell? ⟨w4.heap.size, 12, none⟩ = some (.int .i64 0) := cell_of_row w5 _ 12 _ _ _ r5
  have cc13 : w5.cell? ⟨w4.heap.size, 13, none⟩ = some (.bool false) := cell_of_row w5 _ 13 _ _ _ r5
  have cc14 : w5.cell? ⟨w4.heap.size, 14, none⟩ = some (.int .i64 0) := cell_of_row w5 _ 14 _ _ _ r5
  have cc15 : w5.cell? ⟨w4.heap.size, 15, none⟩ = some (.string ⟨#[]⟩) := cell_of_row w5 _ 15 _ _ _ r5
  have cc16 : w5.cell? ⟨w4.heap.size, 16, none⟩ = some (.slice none 0 0) := cell_of_row w5 _ 16 _ _ _ r5
  have cc17 : w5.cell? ⟨w4.heap.size, 17, none⟩ = some (.slice none 0 0) := cell_of_row w5 _ 17 _ _ _ r5
  have H5 : Hid (w5.heap[w.heap.size]? = some (.cells #[.int .i64 0, .string ⟨#[]⟩, .int .i64 0, .bool false, .int .i64 0, .string ⟨#[]⟩, .slice none 0 0, .slice none 0 0, .slice none 0 0, .slice none 0 0] 28 (0, 0)) ∧ Below w.heap.size w w5) := ⟨Below.row hb5 H4.out.1, H4.out.2.trans (hb5.mono H4.out.2.size)⟩
  have hb3' : bits .and .i64 2 3 = 2 := by decide +kernel
  clear hb1 hb2 hb3 hb4 b14 hw5 hb5 r5 H4 kf kt kn ki HWwa HA
  go_wp2_with (first | rw [HW5.out] | (refine wpList_put rfl 28 (.tmp 2) (.tmp 14) rfl rfl rfl rfl H5.out.1 rfl info28 (by simp [Value.oneCell']) ?_) | fail)
  exact bodyPost_ret (results_cell_row Tryz.results17 _ _ w.heap.size 28 _ (0, 0) _ rfl (put_row _ H5.out.1 rfl) Tryz.underlying28 rfl info28) rfl ⟨rfl, put_below H5.out.2 _ (Nat.le_refl _) _⟩
set_option maxRecDepth 100000 in
set_option maxHeartbeats 4000000 in
theorem lit_3 (w : World) : Calls Tryz.prog 17 #[.int .i64 3] w fun r w' => r = .returned (.agg #[.int .i64 1, .string ⟨#[]⟩, .int .i64 2, .bool false, .int .i64 1, .string ⟨#[]⟩, .slice none 0 0, .slice none 0 0, .slice none 0 0, .slice none 0 0]) ∧ Below w.heap.size w w' := by
  have kf : ∀ W : World, Calls Tryz.prog 32 #[.bool false] W fun r w' => r = .returned (.agg #[.int .i64 1, .bool false, .int .i64 0, .string ⟨#[]⟩, .slice none 0 0, .slice none 0 0]) ∧ Below W.heap.size W w' := bool_any false
  have kt : ∀ W : World, Calls Tryz.prog 32 #[.bool true] W fun r w' => r = .returned (.agg #[.int .i64 1, .bool true, .int .i64 0, .string ⟨#[]⟩, .slice none 0 0, .slice none 0 0]) ∧ Below W.heap.size W w' := bool_any true
  have kn : ∀ W : World, Calls Tryz.prog 18 #[] W fun r w' => r = .returned (.agg #[.int .i64 0, .bool false, .int .i64 0, .string ⟨#[]⟩, .slice none 0 0, .slice none 0 0]) ∧ Below W.heap.size W w' := V.vnone
  have ki : ∀ W : World, Calls Tryz.prog 16 #[.int .i64 1] W fun r w' => r = .returned (.agg #[.int .i64 2, .bool false, .int .i64 1, .string ⟨#[]⟩, .slice none 0 0, .slice none 0 0]) ∧ Below W.heap.size W w' := V.vint 1
  obtain ⟨wa, hwa⟩ : ∃ u, (w.alloc (.cells #[.int .i64 0, .string ⟨#[]⟩, .int .i64 0, .bool false, .int .i64 0, .string ⟨#[]⟩, .slice none 0 0, .slice none 0 0, .slice none 0 0, .slice none 0 0] 28)) = u := ⟨_, rfl⟩
  obtain ⟨rwa0, bwa⟩ := alloc1 hwa
  have HWwa := mkHid hwa
  have HA : Hid (wa.heap[w.heap.size]? = some (.cells #[.int .i64 0, .string ⟨#[]⟩, .int .i64 0, .bool false, .int .i64 0, .string ⟨#[]⟩, .slice none 0 0, .slice none 0 0, .slice none 0 0, .slice none 0 0] 28 (0, 0)) ∧ Below w.heap.size w wa) := ⟨rwa0, bwa⟩
  clear hwa rwa0 bwa
  go_enter Tryz.func17, Tryz.ntmps17
  go_wp2_with (first | rw [HWwa.out] | fail)
  refine (kf _).mono ?_
  rintro r w1 ⟨rfl, hb1⟩
  go_wp2_with fail
  refine (kt _).mono ?_
  rintro r w2 ⟨rfl, hb2⟩
  go_wp2_with fail
  refine (kn _).mono ?_
  rintro r w3 ⟨rfl, hb3⟩
  go_wp2_with fail
  refine (ki _).mono ?_
  rintro r w4 ⟨rfl, hb4⟩
  have b14 : Below wa.heap.size wa w4 := ((hb1.trans (hb2.mono hb1.size)).trans (hb3.mono (Nat.le_trans hb1.size hb2.size))).trans (hb4.mono (Nat.le_trans (Nat.le_trans hb1.size hb2.size) hb3.size))
  have H4 : Hid (w4.heap[w.heap.size]? = some (.cells #[.int .i64 0, .string ⟨#[]⟩, .int .i64 0, .bool false, .int .i64 0, .string ⟨#[]⟩, .slice none 0 0, .slice none 0 0, .slice none 0 0, .slice none 0 0] 28 (0, 0)) ∧ Below w.heap.size w w4) := ⟨Below.row b14 HA.out.1, HA.out.2.trans (b14.mono HA.out.2.size)⟩
  obtain ⟨w5, hw5⟩ : ∃ w5, w4.alloc (.cells #[.int .i64 1, .bool false, .int .i64 0, .string ⟨#[]⟩, .slice none 0 0, .slice none 0 0, .int .i64 1, .bool true, .int .i64 0, .string ⟨#[]⟩, .slice none 0 0, .slice none 0 0, .int .i64 0, .bool false, .int .i64 0, .string ⟨#[]⟩, .slice none 0 0, .slice none 0 0, .int .i64 2, .bool false, .int .i64 1, .string ⟨#[]⟩, .slice none 0 0, .slice none 0 0] 25) = w5 := ⟨_, rfl⟩
  have HW5 : Hid (w4.alloc (.cells #[.int .i64 1, .bool false, .int .i64 0, .string ⟨#[]⟩, .slice none 0 0, .slice none 0 0, .int .i64 1, .bool true, .int .i64 0, .string ⟨#[]⟩, .slice none 0 0, .slice none 0 0, .int .i64 0, .bool false, .int .i64 0, .string ⟨#[]⟩, .slice none 0 0, .slice none 0 0, .int .i64 2, .bool false, .int .i64 1, .string ⟨#[]⟩, .slice none 0 0, .slice none 0 0] 25) = w5) := hw5
  have hb5 : Below w4.heap.size w4 w5 := by rw [← hw5]; exact (Below.refl _ w4).alloc (Nat.le_refl _) _
  have r5 : w5.heap[w4.heap.size]? = some (.cells #[.int .i64 1, .bool false, .int .i64 0, .string ⟨#[]⟩, .slice none 0 0, .slice none 0 0, .int .i64 1, .bool true, .int .i64 0, .string ⟨#[]⟩, .slice none 0 0, .slice none 0 0, .int .i64 0, .bool false, .int .i64 0, .string ⟨#[]⟩, .slice none 0 0, .slice none 0 0, .int .i64 2, .bool false, .int .i64 1, .string ⟨#[]⟩, .slice none 0 0, .slice none 0 0] 25 (0, 0)) := by rw [← hw5]; exact heap_alloc_new _ _
  have cc18 : w5.cell? ⟨w4.heap.size, 18, none⟩ = some (.int .i64 2) := cell_of_row w5 _ 18 _ _ _ r5
  have cc19 : w5.cell? ⟨w4.heap.size, 19, none⟩ = some (.bool false) := cell_of_row w5 _ 19 _ _ _ r5
  have cc20 : w5.cell? ⟨w4.heap.size, 20, none⟩ = some (.int .i64 1) := cell_of_row w5 _ 20 _ _ _ r5
  have cc21 : w5.cell? ⟨w4.heap.size, 21, none⟩ = some (.string ⟨#[]⟩) := cell_of_row w5 _ 21 _ _ _ r5
  have cc22 : w5.cell? ⟨w4.heap.size, 22, none⟩ = some (.slice none 0 0) := cell_of_row w5 _ 22 _ _ _ r5
  have cc23 : w5.cell? ⟨w4.heap.size, 23, none⟩ = some (.slice none 0 0) := cell_of_row w5 _ 23 _ _ _ r5
  have H5 : Hid (w5.heap[w.heap.size]? = some (.cells #[.int .i64 0, .string ⟨#[]⟩, .int .i64 0, .bool false, .int .i64 0, .string ⟨#[]⟩, .slice none 0 0, .slice none 0 0, .slice none 0 0, .slice none 0 0] 28 (0, 0)) ∧ Below w.heap.size w w5) := ⟨Below.row hb5 H4.out.1, H4.out.2.trans (hb5.mono H4.out.2.size)⟩
  have hb3' : bits .and .i64 3 3 = 3 := by decide +kernel
  clear hb1 hb2 hb3 hb4 b14 hw5 hb5 r5 H4 kf kt kn ki HWwa HA
  go_wp2_with (first | rw [HW5.out] | (refine wpList_put rfl 28 (.tmp 2) (.tmp 14) rfl rfl rfl rfl H5.out.1 rfl info28 (by simp [Value.oneCell']) ?_) | fail)
  exact bodyPost_ret (results_cell_row Tryz.results17 _ _ w.heap.size 28 _ (0, 0) _ rfl (put_row _ H5.out.1 rfl) Tryz.underlying28 rfl info28) rfl ⟨rfl, put_below H5.out.2 _ (Nat.le_refl _) _⟩
def evB_and (a b : Lf) : Bool := if jnE false a b = 0 then jnB false a b else false
def evK_and (a b : Lf) : Int := if jnE false a b = 0 then 1 else 0
theorem eval_and (a b : Lf) (kg : Nat) (w : World) (hkg : kg < w.heap.size) (h0 : At10 w kg 0 (litR a)) (h1 : At10 w kg 10 (litR b)) :
    Calls Tryz.prog 9 #[.agg #[.int .i64 6, .string ⟨#[65, 78, 68]⟩, .int .i64 0, .bool false, .int .i64 0, .string ⟨#[]⟩, .slice none 0 0, .slice none 0 0, .slice (some ⟨kg, 0, none⟩) 2 2, .slice none 0 0], .agg #[.int .i64 0, .bool false, .int .i64 0, .string ⟨#[]⟩, .slice none 0 0, .slice none 0 0]] w fun r w' => r = .returned (.tuple #[.agg #[.int .i64 (evK_and a b), .bool (evB_and a b), .int .i64 0, .string ⟨#[]⟩, .slice none 0 0, .slice none 0 0], .int .i64 (jnE false a b)]) ∧ Below w.heap.size w w' := by
  have kr : ∀ W, Below w.heap.size w W → Calls Tryz.prog 21 #[.agg #[.int .i64 6, .string ⟨#[65, 78, 68]⟩, .int .i64 0, .bool false, .int .i64 0, .string ⟨#[]⟩, .slice none 0 0, .slice none 0 0, .slice (some ⟨kg, 0, none⟩) 2 2, .slice none 0 0], .agg #[.int .i64 0, .bool false, .int .i64 0, .string ⟨#[]⟩, .slice none 0 0, .slice none 0 0]] W fun r W' => r = .returned (.tuple #[.agg #[.int .i64 1, .bool (jnB false a b), .int .i64 0, .string ⟨#[]⟩, .slice none 0 0, .slice none 0 0], .int .i64 (jnE false a b)]) ∧ Below W.heap.size W W' := fun W hb =>
    reckon_tr _ asks_and 0 false 0 ⟨#[]⟩ kg 0 2 none 0 0 _ _ 0 false 0 ⟨#[]⟩ none 0 0 none 0 0 W (fun W2 hb2 => joined_and 0 false 0 ⟨#[]⟩ kg 0 2 none 0 0 0 false 0 ⟨#[]⟩ none 0 0 none 0 0 W2 (Nat.lt_of_lt_of_le hkg (hb.trans (hb2.mono hb.size)).size) a b (fun j hj => ((hb.trans (hb2.mono hb.size)).cell (p := ⟨kg, 0 + j, none⟩) hkg).trans (h0 j hj)) (fun j hj => ((hb.trans (hb2.mono hb.size)).cell (p := ⟨kg, 0 + 10 + j, none⟩) hkg).trans (by have := h1 j hj; simpa using this)))
  by_cases hE : jnE false a b = 0
  · have e1 : evB_and a b = jnB false a b := if_pos hE
    have e2 : evK_and a b = 1 := if_pos hE
    rw [e1, e2, hE]
    rw [hE] at kr
    exact eval_ok 6 ⟨#[65, 78, 68]⟩ 0 false 0 ⟨#[]⟩ (some ⟨kg, 0, none⟩) 2 2 none 0 0 ⟨1, jnB false a b, 0, ⟨#[]⟩, none, 0, none, 0⟩ 0 false 0 ⟨#[]⟩ none 0 0 none 0 0 w kr
  · have e1 : evB_and a b = false := if_neg hE
    have e2 : evK_and a b = 0 := if_neg hE
    rw [e1, e2]
    exact eval_fails 6 ⟨#[65, 78, 68]⟩ 0 false 0 ⟨#[]⟩ (some ⟨kg, 0, none⟩) 2 2 none 0 0 ⟨1, jnB false a b, 0, ⟨#[]⟩, none, 0, none, 0⟩ (jnE false a b) (by simpa using hE) 0 false 0 ⟨#[]⟩ none 0 0 none 0 0 w kr
def evB_or (a b : Lf) : Bool := if jnE true a b = 0 then jnB true a b else false
def evK_or (a b : Lf) : Int := if jnE true a b = 0 then 1 else 0
theorem eval_or (a b : Lf) (kg : Nat) (w : World) (hkg : kg < w.heap.size) (h0 : At10 w kg 0 (litR a)) (h1 : At10 w kg 10 (litR b)) :
    Calls Tryz.prog 9 #[.agg #[.int .i64 6, .string ⟨#[79, 82]⟩, .int .i64 0, .bool false, .int .i64 0, .string ⟨#[]⟩, .slice none 0 0, .slice none 0 0, .slice (some ⟨kg, 0, none⟩) 2 2, .slice none 0 0], .agg #[.int .i64 0, .bool false, .int .i64 0, .string ⟨#[]⟩, .slice none 0 0, .slice none 0 0]] w fun r w' => r = .returned (.tuple #[.agg #[.int .i64 (evK_or a b), .bool (evB_or a b), .int .i64 0, .string ⟨#[]⟩, .slice none 0 0, .slice none 0 0], .int .i64 (jnE true a b)]) ∧ Below w.heap.size w w' := by
  have kr : ∀ W, Below w.heap.size w W → Calls Tryz.prog 21 #[.agg #[.int .i64 6, .string ⟨#[79, 82]⟩, .int .i64 0, .bool false, .int .i64 0, .string ⟨#[]⟩, .slice none 0 0, .slice none 0 0, .slice (some ⟨kg, 0, none⟩) 2 2, .slice none 0 0], .agg #[.int .i64 0, .bool false, .int .i64 0, .string ⟨#[]⟩, .slice none 0 0, .slice none 0 0]] W fun r W' => r = .returned (.tuple #[.agg #[.int .i64 1, .bool (jnB true a b), .int .i64 0, .string ⟨#[]⟩, .slice none 0 0, .slice none 0 0], .int .i64 (jnE true a b)]) ∧ Below W.heap.size W W' := fun W hb =>
    reckon_tr _ asks_or 0 false 0 ⟨#[]⟩ kg 0 2 none 0 0 _ _ 0 false 0 ⟨#[]⟩ none 0 0 none 0 0 W (fun W2 hb2 => joined_or 0 false 0 ⟨#[]⟩ kg 0 2 none 0 0 0 false 0 ⟨#[]⟩ none 0 0 none 0 0 W2 (Nat.lt_of_lt_of_le hkg (hb.trans (hb2.mono hb.size)).size) a b (fun j hj => ((hb.trans (hb2.mono hb.size)).cell (p := ⟨kg, 0 + j, none⟩) hkg).trans (h0 j hj)) (fun j hj => ((hb.trans (hb2.mono hb.size)).cell (p := ⟨kg, 0 + 10 + j, none⟩) hkg).trans (by have := h1 j hj; simpa using this)))
  by_cases hE : jnE true a b = 0
  · have e1 : evB_or a b = jnB true a b := if_pos hE
    have e2 : evK_or a b = 1 := if_pos hE
    rw [e1, e2, hE]
    rw [hE] at kr
    exact eval_ok 6 ⟨#[79, 82]⟩ 0 false 0 ⟨#[]⟩ (some ⟨kg, 0, none⟩) 2 2 none 0 0 ⟨1, jnB true a b, 0, ⟨#[]⟩, none, 0, none, 0⟩ 0 false 0 ⟨#[]⟩ none 0 0 none 0 0 w kr
  · have e1 : evB_or a b = false := if_neg hE
    have e2 : evK_or a b = 0 := if_neg hE
    rw [e1, e2]
    exact eval_fails 6 ⟨#[79, 82]⟩ 0 false 0 ⟨#[]⟩ (some ⟨kg, 0, none⟩) 2 2 none 0 0 ⟨1, jnB true a b, 0, ⟨#[]⟩, none, 0, none, 0⟩ (jnE true a b) (by simpa using hE) 0 false 0 ⟨#[]⟩ none 0 0 none 0 0 w kr
def evB_not (a : Lf) : Bool := if trE a.k = 0 then !(trB a.k a.b) else false
def evK_not (a : Lf) : Int := if trE a.k = 0 then 1 else 0
theorem lit_of {a : Lf} (hp : a.p = none ∧ a.pc = 0 ∧ a.q = none ∧ a.qc = 0) (W : World) : Calls Tryz.prog 21 #[.agg #[.int .i64 1, .string ⟨#[]⟩, .int .i64 a.k, .bool a.b, .int .i64 a.n, .string a.s, .slice none 0 0, .slice none 0 0, .slice none 0 0, .slice none 0 0], .agg #[.int .i64 0, .bool false, .int .i64 0, .string ⟨#[]⟩, .slice none 0 0, .slice none 0 0]] W fun r W' => r = .returned (.tuple #[.agg #[.int .i64 a.k, .bool a.b, .int .i64 a.n, .string a.s, .slice a.p 0 a.pc, .slice a.q 0 a.qc], .int .i64 0]) ∧ Below W.heap.size W W' := by
  rw [hp.1, hp.2.1, hp.2.2.1, hp.2.2.2]
  exact reckon_lit ⟨#[]⟩ a none 0 none 0 0 0 false 0 ⟨#[]⟩ none 0 0 none 0 0 W
theorem eval_not (a : Lf) (hp : a.p = none ∧ a.pc = 0 ∧ a.q = none ∧ a.qc = 0) (kg : Nat) (w : World) (hkg : kg < w.heap.size) (h0 : At10 w kg 0 (litR a)) :
    Calls Tryz.prog 9 #[.agg #[.int .i64 4, .string ⟨#[]⟩, .int .i64 0, .bool false, .int .i64 0, .string ⟨#[]⟩, .slice none 0 0, .slice none 0 0, .slice (some ⟨kg, 0, none⟩) 1 1, .slice none 0 0], .agg #[.int .i64 0, .bool false, .int .i64 0, .string ⟨#[]⟩, .slice none 0 0, .slice none 0 0]] w fun r w' => r = .returned (.tuple #[.agg #[.int .i64 (evK_not a), .bool (evB_not a), .int .i64 0, .string ⟨#[]⟩, .slice none 0 0, .slice none 0 0], .int .i64 (trE a.k)]) ∧ Below w.heap.size w w' := by
  have kr : ∀ W, Below w.heap.size w W → Calls Tryz.prog 21 #[.agg #[.int .i64 4, .string ⟨#[]⟩, .int .i64 0, .bool false, .int .i64 0, .string ⟨#[]⟩, .slice none 0 0, .slice none 0 0, .slice (some ⟨kg, 0, none⟩) 1 1, .slice none 0 0], .agg #[.int .i64 0, .bool false, .int .i64 0, .string ⟨#[]⟩, .slice none 0 0, .slice none 0 0]] W fun r W' => r = .returned (.tuple #[.agg #[.int .i64 1, .bool (!(trB a.k a.b)), .int .i64 0, .string ⟨#[]⟩, .slice none 0 0, .slice none 0 0], .int .i64 (trE a.k)]) ∧ Below W.heap.size W W' := fun W hb =>
    reckon_not ⟨#[]⟩ 0 false 0 ⟨#[]⟩ kg 0 1 none 0 0 a 0 false 0 ⟨#[]⟩ none 0 0 none 0 0 W (fun W2 hb2 => by
      have hbb := hb.trans (hb2.mono hb.size)
      have k := all_any (n := 1) (by omega) (c := 1) ⟨Nat.le_refl _, by decide⟩ (fun _ => litR a) (fun _ => a) 0 false 0 ⟨#[]⟩ none 0 0 none 0 0 W2 (Nat.lt_of_lt_of_le hkg hbb.size) (fun i hi => by
        obtain rfl : i = 0 := by omega
        exact fun j hj => (hbb.cell (p := ⟨kg, 0 + 0 * 10 + j, none⟩) hkg).trans (by have := h0 j hj; simpa using this)) (fun W3 _ i _ => lit_of hp W3)
      refine k.mono ?_
      rintro r w' ⟨q, c, e1, e2, e3⟩
      exact ⟨q, c, e1, e2, e3⟩)
  by_cases hE : trE a.k = 0
  · have e1 : evB_not a = (!(trB a.k a.b)) := if_pos hE
    have e2 : evK_not a = 1 := if_pos hE
    rw [e1, e2, hE]
    rw [hE] at kr
    exact eval_ok 4 ⟨#[]⟩ 0 false 0 ⟨#[]⟩ (some ⟨kg, 0, none⟩) 1 1 none 0 0 ⟨1, !(trB a.k a.b), 0, ⟨#[]⟩, none, 0, none, 0⟩ 0 false 0 ⟨#[]⟩ none 0 0 none 0 0 w kr
  · have e1 : evB_not a = false := if_neg hE
    have e2 : evK_not a = 0 := if_neg hE
    rw [e1, e2]
    exact eval_fails 4 ⟨#[]⟩ 0 false 0 ⟨#[]⟩ (some ⟨kg, 0, none⟩) 1 1 none 0 0 ⟨1, !(trB a.k a.b), 0, ⟨#[]⟩, none, 0, none, 0⟩ (trE a.k) (by simpa using hE) 0 false 0 ⟨#[]⟩ none 0 0 none 0 0 w kr
end Go.Proofs.YtnnclhmhbmbkfaaGreatDoor
namespace Go.Proofs.YtnnclhmhbmbkfaaGreatDoor
open Go.RowKit Go.Shelf
attribute [local go_sem] Oper.semAt_some
set_option maxRecDepth 100000 in
set_option maxHeartbeats 1000000 in
theorem index_a (nb no nc : Nat) (_hc : 1 ≤ nc ∧ nc ≤ maxLen) (w : World) (hn : w.cell? ⟨nb, no, none⟩ = some (.string ⟨#[97]⟩)) : Calls Tryz.prog 66 #[.slice (some ⟨nb, no, none⟩) 1 nc, .string ⟨#[97]⟩] w fun r w' => r = .returned (.int .i64 0) ∧ w' = w := by
  go_enter Tryz.func66, Tryz.ntmps66
  go_wp2
  go_loopw [8] (fun v8 wr => v8 = .int .i64 0 ∧ wr = w) (fun _ _ => 0)
  case atStart => exact ⟨rfl, rfl⟩
  case round =>
    obtain ⟨rfl, rfl⟩ := hrel
    go_wp2
    go_ret
    exact ⟨rfl, rfl⟩
/- A document with the one field a, a number: where its two lists lie. -/
structure DocA (w : World) (n : Int) (ip : Option Addr) (ic : Nat) (jp : Option Addr) (jc : Nat) (pb po pc nb no nc : Nat) : Prop where
  pcap : 1 ≤ pc ∧ pc ≤ maxLen
  ncap : 1 ≤ nc ∧ nc ≤ maxLen
  pl : pb < w.heap.size
  nl : nb < w.heap.size
  name : w.cell? ⟨nb, no, none⟩ = some (.string ⟨#[97]⟩)
  part : ∀ j, j < 6 → w.cell? ⟨pb, po + j, none⟩ = (ipL n ip ic jp jc).cs[j]?
theorem DocA.later {w w' : World} {n : Int} {ip : Option Addr} {ic : Nat} {jp : Option Addr} {jc : Nat} {pb po pc nb no nc : Nat} (h : DocA w n ip ic jp jc pb po pc nb no nc) (hb : Below w.heap.size w w') : DocA w' n ip ic jp jc pb po pc nb no nc :=
  ⟨h.pcap, h.ncap, Nat.lt_of_lt_of_le h.pl hb.size, Nat.lt_of_lt_of_le h.nl hb.size, (hb.cell (p := ⟨nb, no, none⟩) h.nl).trans h.name, fun j hj => (hb.cell (p := ⟨pb, po + j, none⟩) h.pl).trans (h.part j hj)⟩
set_option maxRecDepth 100000 in
set_option maxHeartbeats 4000000 in
theorem part_a (n : Int) (ip : Option Addr) (ic : Nat) (jp : Option Addr) (jc : Nat) (pb po pc nb no nc : Nat) (w : World) (hg : Gm w) (hd : DocA w n ip ic jp jc pb po pc nb no nc) : Calls Tryz.prog 43 #[.agg #[.int .i64 6, .bool false, .int .i64 0, .string ⟨#[]⟩, .slice (some ⟨pb, po, none⟩) 1 pc, .slice (some ⟨nb, no, none⟩) 1 nc], .string ⟨#[97]⟩] w fun r w' => r = .returned (.agg #[.int .i64 2, .bool false, .int .i64 n, .string ⟨#[]⟩, .slice ip 0 ic, .slice jp 0 jc]) ∧ Below w.heap.size w w' := by
  obtain ⟨w3, hw3⟩ : ∃ u, ((w.alloc (.cells #[.int .i64 6, .bool false, .int .i64 0, .string ⟨#[]⟩, .slice (some ⟨pb, po, none⟩) 1 pc, .slice (some ⟨nb, no, none⟩) 1 nc] 25)).alloc (.cells #[.int .i64 0, .bool false, .int .i64 0, .string ⟨#[]⟩, .slice none 0 0, .slice none 0 0] 25)) = u := ⟨_, rfl⟩
  obtain ⟨rw30, rw31, bw3⟩ := alloc2 hw3
  have HWw3 := mkHid hw3
  have ks := split_a w3 (hg.later bw3)
  obtain ⟨w4, hw4⟩ : ∃ w4, w3.alloc (.cells #[.string ⟨#[97]⟩] 9) = w4 := ⟨_, rfl⟩
  have hb4 : Below w3.heap.size w3 w4 := by rw [← hw4]; exact (Below.refl _ w3).alloc (Nat.le_refl _) _
  have r4 : w4.heap[w3.heap.size]? = some (.cells #[.string ⟨#[97]⟩] 9 (0, 0)) := by rw [← hw4]; exact heap_alloc_new _ _
  rw [hw4] at ks
  have s3 : w3.heap.size = w.heap.size + 2 := by rw [← hw3]; simp
  have H4 : Hid (w4.heap[w.heap.size]? = some (.cells #[.int .i64 6, .bool false, .int .i64 0, .string ⟨#[]⟩, .slice (some ⟨pb, po, none⟩) 1 pc, .slice (some ⟨nb, no, none⟩) 1 nc] 25 (0, 0)) ∧ w4.heap[w.heap.size + 1]? = some (.cells #[.int .i64 0, .bool false, .int .i64 0, .string ⟨#[]⟩, .slice none 0 0, .slice none 0 0] 25 (0, 0)) ∧ w4.heap[w3.heap.size]? = some (.cells #[.string ⟨#[97]⟩] 9 (0, 0)) ∧ Below w.heap.size w w4) := ⟨Below.row hb4 rw30, Below.row hb4 rw31, r4, bw3.trans (hb4.mono bw3.size)⟩
  have HD : Hid (DocA w n ip ic jp jc pb po pc nb no nc) := hd
  obtain ⟨V, hV⟩ : ∃ V, w3.heap.size = V := ⟨_, rfl⟩
  rw [hV] at ks H4
  have HV : Hid (V = w.heap.size + 2) := by rw [← hV]; exact s3
  clear hw3 rw30 rw31 bw3 hw4 hb4 r4 hd hg hV s3
  go_enter Tryz.func43, Tryz.ntmps43
  go_wp2_with (first | rw [HWw3.out] | fail)
  refine ks.mono ?_
  rintro r w5 ⟨rfl, rfl⟩
  clear ks HWw3
  go_wp2_with fail
  go_loopw [11] (fun v11 wr => ∃ i : Nat, i ≤ 1 ∧ v11 = .int .i64 (i : Int) ∧ (∃ c : Array Value, wr.heap[w.heap.size]? = some (.cells c 25 (0, 0)) ∧ ((i = 0 ∧ c = #[.int .i64 6, .bool false, .int .i64 0, .string ⟨#[]⟩, .slice (some ⟨pb, po, none⟩) 1 pc, .slice (some ⟨nb, no, none⟩) 1 nc]) ∨ (i = 1 ∧ c = #[.int .i64 2, .bool false, .int .i64 n, .string ⟨#[]⟩, .slice ip 0 ic, .slice jp 0 jc]))) ∧ wr.heap[w.heap.size + 1]? = some (.cells #[.int .i64 0, .bool false, .int .i64 0, .string ⟨#[]⟩, .slice none 0 0, .slice none 0 0] 25 (0, 0)) ∧ wr.heap[V]? = some (.cells #[.string ⟨#[97]⟩] 9 (0, 0)) ∧ Below w.heap.size w wr) (fun v11 wr => 1 - (intOf v11).toNat)
  case atStart => exact ⟨0, by omega, rfl, ⟨_, H4.out.1, Or.inl ⟨rfl, rfl⟩⟩, H4.out.2.1, H4.out.2.2.1, H4.out.2.2.2⟩
  case round =>
    obtain ⟨i, hi, rfl, ⟨c, hc, hcc⟩, hz, hv, hb⟩ := hrel
    rcases hcc with ⟨rfl, rfl⟩ | ⟨rfl, rfl⟩
    · have hdr := HD.out.later hb
      have cx0 : wr.cell? ⟨w.heap.size, 0, none⟩ = some (.int .i64 6) := cell_of_row wr _ 0 _ _ _ hc
      have cx1 : wr.cell? ⟨w.heap.size, 1, none⟩ = some (.bool false) := cell_of_row wr _ 1 _ _ _ hc
      have cx2 : wr.cell? ⟨w.heap.size, 2, none⟩ = some (.int .i64 0) := cell_of_row wr _ 2 _ _ _ hc
      have cx3 : wr.cell? ⟨w.heap.size, 3, none⟩ = some (.string ⟨#[]⟩) := cell_of_row wr _ 3 _ _ _ hc
      have cx4 : wr.cell? ⟨w.heap.size, 4, none⟩ = some (.slice (some ⟨pb, po, none⟩) 1 pc) := cell_of_row wr _ 4 _ _ _ hc
      have cx5 : wr.cell? ⟨w.heap.size, 5, none⟩ = some (.slice (some ⟨nb, no, none⟩) 1 nc) := cell_of_row wr _ 5 _ _ _ hc
      have cv := cell_of_row wr V 0 _ _ _ hv
      have ki := index_a nb no nc hdr.ncap wr hdr.name
      have cp0 : wr.cell? ⟨pb, po, none⟩ = some (.int .i64 2) := hdr.part 0 (by decide)
      have cp1 : wr.cell? ⟨pb, po + 1, none⟩ = some (.bool false) := hdr.part 1 (by decide)
      have cp2 : wr.cell? ⟨pb, po + 2, none⟩ = some (.int .i64 n) := hdr.part 2 (by decide)
      have cp3 : wr.cell? ⟨pb, po + 3, none⟩ = some (.string ⟨#[]⟩) := hdr.part 3 (by decide)
      have cp4 : wr.cell? ⟨pb, po + 4, none⟩ = some (.slice ip 0 ic) := hdr.part 4 (by decide)
      have cp5 : wr.cell? ⟨pb, po + 5, none⟩ = some (.slice jp 0 jc) := hdr.part 5 (by decide)
      have HP : Hid (wr.heap[w.heap.size]? = some (.cells #[.int .i64 6, .bool false, .int .i64 0, .string ⟨#[]⟩, .slice (some ⟨pb, po, none⟩) 1 pc, .slice (some ⟨nb, no, none⟩) 1 nc] 25 (0, 0)) ∧ wr.heap[w.heap.size + 1]? = some (.cells #[.int .i64 0, .bool false, .int .i64 0, .string ⟨#[]⟩, .slice none 0 0, .slice none 0 0] 25 (0, 0)) ∧ wr.heap[V]? = some (.cells #[.string ⟨#[97]⟩] 9 (0, 0)) ∧ Below w.heap.size w wr) := ⟨hc, hz, hv, hb⟩
      have hpc := hdr.pcap
      clear hc hz hv hb hdr
      go_wp2_with fail
      refine ki.mono ?_
      rintro r w6 ⟨rfl, rfl⟩
      have fz0 := frozen_of_row w6 w.heap.size 0 _ _ HP.out.1
      have fz1 := frozen_of_row w6 w.heap.size 1 _ _ HP.out.1
      have fz2 := frozen_of_row w6 w.heap.size 2 _ _ HP.out.1
      have fz3 := frozen_of_row w6 w.heap.size 3 _ _ HP.out.1
      have fz4 := frozen_of_row w6 w.heap.size 4 _ _ HP.out.1
      have fz5 := frozen_of_row w6 w.heap.size 5 _ _ HP.out.1
      have P1 := put_row #[.int .i64 2, .bool false, .int .i64 n, .string ⟨#[]⟩, .slice ip 0 ic, .slice jp 0 jc] HP.out.1 rfl
      have P2 := (put_other (w := w6) (z := w.heap.size) (j := w.heap.size + 1) (by omega) #[.int .i64 2, .bool false, .int .i64 n, .string ⟨#[]⟩, .slice ip 0 ic, .slice jp 0 jc]).trans HP.out.2.1
      have P3 := (put_other (w := w6) (z := w.heap.size) (j := V) (by have := HV.out; omega) #[.int .i64 2, .bool false, .int .i64 n, .string ⟨#[]⟩, .slice ip 0 ic, .slice jp 0 jc]).trans HP.out.2.2.1
      have P4 := put_below HP.out.2.2.2 w.heap.size (Nat.le_refl _) #[.int .i64 2, .bool false, .int .i64 n, .string ⟨#[]⟩, .slice ip 0 ic, .slice jp 0 jc]
      have HQ : Hid ((put w6 w.heap.size #[.int .i64 2, .bool false, .int .i64 n, .string ⟨#[]⟩, .slice ip 0 ic, .slice jp 0 jc]).heap[w.heap.size]? = some (.cells #[.int .i64 2, .bool false, .int .i64 n, .string ⟨#[]⟩, .slice ip 0 ic, .slice jp 0 jc] 25 (0, 0)) ∧ (put w6 w.heap.size #[.int .i64 2, .bool false, .int .i64 n, .string ⟨#[]⟩, .slice ip 0 ic, .slice jp 0 jc]).heap[w.heap.size + 1]? = some (.cells #[.int .i64 0, .bool false, .int .i64 0, .string ⟨#[]⟩, .slice none 0 0, .slice none 0 0] 25 (0, 0)) ∧ (put w6 w.heap.size #[.int .i64 2, .bool false, .int .i64 n, .string ⟨#[]⟩, .slice ip 0 ic, .slice jp 0 jc]).heap[V]? = some (.cells #[.string ⟨#[97]⟩] 9 (0, 0)) ∧ Below w.heap.size w (put w6 w.heap.size #[.int .i64 2, .bool false, .int .i64 n, .string ⟨#[]⟩, .slice ip 0 ic, .slice jp 0 jc])) := ⟨P1, P2, P3, P4⟩
      clear P1 P2 P3 P4
      go_wp2_with fail
      go_roundw
      case rel => exact ⟨1, by omega, by go_num, ⟨_, HQ.out.1, Or.inr ⟨rfl, rfl⟩⟩, HQ.out.2.1, HQ.out.2.2.1, HQ.out.2.2.2⟩
      case measure => simp [intOf]
    · have cx0 : wr.cell? ⟨w.heap.size, 0, none⟩ = some (.int .i64 2) := cell_of_row wr _ 0 _ _ _ hc
      have cx1 : wr.cell? ⟨w.heap.size, 1, none⟩ = some (.bool false) := cell_of_row wr _ 1 _ _ _ hc
      have cx2 : wr.cell? ⟨w.heap.size, 2, none⟩ = some (.int .i64 n) := cell_of_row wr _ 2 _ _ _ hc
      have cx3 : wr.cell? ⟨w.heap.size, 3, none⟩ = some (.string ⟨#[]⟩) := cell_of_row wr _ 3 _ _ _ hc
      have cx4 : wr.cell? ⟨w.heap.size, 4, none⟩ = some (.slice ip 0 ic) := cell_of_row wr _ 4 _ _ _ hc
      have cx5 : wr.cell? ⟨w.heap.size, 5, none⟩ = some (.slice jp 0 jc) := cell_of_row wr _ 5 _ _ _ hc
      have HP : Hid (wr.heap[w.heap.size + 1]? = some (.cells #[.int .i64 0, .bool false, .int .i64 0, .string ⟨#[]⟩, .slice none 0 0, .slice none 0 0] 25 (0, 0)) ∧ Below w.heap.size w wr) := ⟨hz, hb⟩
      clear hc hz hv hb
      go_wp2_with (first | (refine wpList_put rfl 25 (.tmp 4) (.tmp 40) rfl rfl rfl rfl HP.out.1 rfl info25 (by simp [Value.oneCell']) ?_) | fail)
      exact bodyPost_ret (results_cell_row Tryz.results43 _ _ (w.heap.size + 1) 25 _ (0, 0) _ rfl (put_row _ HP.out.1 rfl) Tryz.underlying25 rfl info25) rfl ⟨rfl, put_below HP.out.2 _ (by omega) _⟩
set_option maxRecDepth 100000 in
set_option maxHeartbeats 4000000 in
theorem reckon_field (vk : Int) (vb : Bool) (vn : Int) (vs : ByteArray) (kp : Option Addr) (kc : Nat) (np : Option Addr) (m xc : Nat) (n : Int) (ip : Option Addr) (ic : Nat) (jp : Option Addr) (jc : Nat) (pb po pc nb no nc : Nat) (w : World) (hg : Gm w) (hd : DocA w n ip ic jp jc pb po pc nb no nc) :
    Calls Tryz.prog 21 #[.agg #[.int .i64 2, .string ⟨#[97]⟩, .int .i64 vk, .bool vb, .int .i64 vn, .string vs, .slice none 0 0, .slice none 0 0, .slice kp 0 kc, .slice np m xc], .agg #[.int .i64 6, .bool false, .int .i64 0, .string ⟨#[]⟩, .slice (some ⟨pb, po, none⟩) 1 pc, .slice (some ⟨nb, no, none⟩) 1 nc]] w fun r w' => r = .returned (.tuple #[.agg #[.int .i64 2, .bool false, .int .i64 n, .string ⟨#[]⟩, .slice ip 0 ic, .slice jp 0 jc], .int .i64 0]) ∧ Below w.heap.size w w' := by
  have HD : Hid (Gm w ∧ DocA w n ip ic jp jc pb po pc nb no nc) := ⟨hg, hd⟩
  clear hg hd
  have kk := kids_leaf 2 (Or.inr rfl) (.string ⟨#[97]⟩) (.int .i64 vk) (.bool vb) (.int .i64 vn) (.string vs) (.slice none 0 0) (.slice none 0 0) (.slice kp 0 kc) (.slice np m xc)
  obtain ⟨w3, hw3⟩ : ∃ u, (((w.alloc (.cells #[.int .i64 2, .string ⟨#[97]⟩, .int .i64 vk, .bool vb, .int .i64 vn, .string vs, .slice none 0 0, .slice none 0 0, .slice kp 0 kc, .slice np m xc] 28)).alloc (.cells #[.int .i64 6, .bool false, .int .i64 0, .string ⟨#[]⟩, .slice (some ⟨pb, po, none⟩) 1 pc, .slice (some ⟨nb, no, none⟩) 1 nc] 25)).alloc (.cells #[.int .i64 0, .bool false, .int .i64 0, .string ⟨#[]⟩, .slice none 0 0, .slice none 0 0] 25)) = u := ⟨_, rfl⟩
  obtain ⟨rw30, rw31, rw32, bw3⟩ := alloc3 hw3
  have HWw3 := mkHid hw3
  have aR : Hid (w3.heap[w.heap.size]? = some (.cells #[.int .i64 2, .string ⟨#[97]⟩, .int .i64 vk, .bool vb, .int .i64 vn, .string vs, .slice none 0 0, .slice none 0 0, .slice kp 0 kc, .slice np m xc] 28 (0, 0)) ∧ w3.heap[w.heap.size + 1]? = some (.cells #[.int .i64 6, .bool false, .int .i64 0, .string ⟨#[]⟩, .slice (some ⟨pb, po, none⟩) 1 pc, .slice (some ⟨nb, no, none⟩) 1 nc] 25 (0, 0)) ∧ w3.heap[w.heap.size + 1 + 1]? = some (.cells #[.int .i64 0, .bool false, .int .i64 0, .string ⟨#[]⟩, .slice none 0 0, .slice none 0 0] 25 (0, 0)) ∧ Below w.heap.size w w3) := ⟨rw30, rw31, rw32, bw3⟩
  clear hw3 rw31 rw32 bw3
  go_enter Tryz.func21, Tryz.ntmps21
  go_wp2_with (first | rw [HWw3.out] | fail)
  refine any_tail (by kernel_rfl) 6 (by exact Nat.le_of_ble_eq_true rfl) (fun i => i + 10) (mixR [] [.pointer (some ⟨w.heap.size, 8, none⟩), .slice kp 0 kc, .int .i64 0, .agg #[.int .i64 2, .string ⟨#[97]⟩, .int .i64 vk, .bool vb, .int .i64 vn, .string vs, .slice none 0 0, .slice none 0 0, .slice kp 0 kc, .slice np m xc], .int .i64 0, .bool false]) (by kernel_rfl) (by kernel_rfl) (by kernel_rfl) (by kernel_rfl) (mixR_later _ _ (stab_nil)) ?step ?post
  case step =>
    intro iq hiq a W hrest hb hk
    have hp2 : a.eval (.tmp 2) = .pointer (some ⟨w.heap.size, 0, none⟩) := (hrest 2 (by intro iq2 hiq2; (repeat' split) <;> omega)).trans rfl
    have fp2 := ev hp2
    have hx2 : W.heap[w.heap.size]? = some (.cells #[.int .i64 2, .string ⟨#[97]⟩, .int .i64 vk, .bool vb, .int .i64 vn, .string vs, .slice none 0 0, .slice none 0 0, .slice kp 0 kc, .slice np m xc] 28 (0, 0)) := (hb.block _ (lt_of_row rw30)).trans rw30
    clear hrest
    obtain rfl | rfl | rfl | rfl | rfl | rfl : iq = 0 ∨ iq = 1 ∨ iq = 2 ∨ iq = 3 ∨ iq = 4 ∨ iq = 5 := by omega
    · clear hiq
      clear hk
      refine ⟨_, rfl, rfl, rfl, wp_value (v := .pointer (some ⟨w.heap.size, 8, none⟩)) (w' := W) ?_ ⟨_, rfl, Below.refl _ _, rfl⟩⟩
      go_simp
    · clear hiq
      have e0 : a.eval (.tmp 10) = .pointer (some ⟨w.heap.size, 8, none⟩) := hk 0 (mem_of (by kernel_rfl))
      have f0 := ev e0
      have hc8 := cell_of_row W w.heap.size 8 _ _ _ hx2
      clear hk
      refine ⟨_, rfl, rfl, rfl, wp_value (v := .slice kp 0 kc) (w' := W) ?_ ⟨_, rfl, Below.refl _ _, rfl⟩⟩
      go_simp
    · clear hiq
      have e1 : a.eval (.tmp 11) = .slice kp 0 kc := hk 1 (mem_of (by kernel_rfl))
      have f1 := ev e1
      clear hk
      refine ⟨_, rfl, rfl, rfl, wp_value (v := .int .i64 0) (w' := W) ?_ ⟨_, rfl, Below.refl _ _, rfl⟩⟩
      go_simp
    · clear hiq
      have hc0 := cell_of_row W w.heap.size 0 _ _ _ hx2
      have hc1 := cell_of_row W w.heap.size 1 _ _ _ hx2
      have hc2 := cell_of_row W w.heap.size 2 _ _ _ hx2
      have hc3 := cell_of_row W w.heap.size 3 _ _ _ hx2
      have hc4 := cell_of_row W w.heap.size 4 _ _ _ hx2
      have hc5 := cell_of_row W w.heap.size 5 _ _ _ hx2
      have hc6 := cell_of_row W w.heap.size 6 _ _ _ hx2
      have hc7 := cell_of_row W w.heap.size 7 _ _ _ hx2
      have hc8 := cell_of_row W w.heap.size 8 _ _ _ hx2
      have hc9 := cell_of_row W w.heap.size 9 _ _ _ hx2
      clear hk
      refine ⟨_, rfl, rfl, rfl, wp_value (v := .agg #[.int .i64 2, .string ⟨#[97]⟩, .int .i64 vk, .bool vb, .int .i64 vn, .string vs, .slice none 0 0, .slice none 0 0, .slice kp 0 kc, .slice np m xc]) (w' := W) ?_ ⟨_, rfl, Below.refl _ _, rfl⟩⟩
      go_simp
    · clear hiq
      have e3 : a.eval (.tmp 13) = .agg #[.int .i64 2, .string ⟨#[97]⟩, .int .i64 vk, .bool vb, .int .i64 vn, .string vs, .slice none 0 0, .slice none 0 0, .slice kp 0 kc, .slice np m xc] := hk 3 (mem_of (by kernel_rfl))
      have f3 := ev e3
      clear hk
      refine ⟨_, rfl, rfl, rfl, wp_enter (f := 39) (args := #[.agg #[.int .i64 2, .string ⟨#[97]⟩, .int .i64 vk, .bool vb, .int .i64 vn, .string vs, .slice none 0 0, .slice none 0 0, .slice kp 0 kc, .slice np m xc]]) ?_ ((kk W).mono ?_)⟩
      · go_simp
      · rintro e w2 ⟨rfl, hb2⟩
        exact ⟨_, rfl, _, rfl, hb2, rfl⟩
    · clear hiq
      have e2 : a.eval (.tmp 12) = .int .i64 0 := hk 2 (mem_of (by kernel_rfl))
      have f2 := ev e2
      have e4 : a.eval (.tmp 14) = .int .i64 0 := hk 4 (mem_of (by kernel_rfl))
      have f4 := ev e4
      clear hk
      refine ⟨_, rfl, rfl, rfl, wp_value (v := .bool false) (w' := W) ?_ ⟨_, rfl, Below.refl _ _, rfl⟩⟩
      go_simp
  case post =>
    intro V1 W hbW hV
    have v5 : V1 5 = .bool false := hV 5 (by omega)
    have bR : Hid (W.heap[w.heap.size]? = some (.cells #[.int .i64 2, .string ⟨#[97]⟩, .int .i64 vk, .bool vb, .int .i64 vn, .string vs, .slice none 0 0, .slice none 0 0, .slice kp 0 kc, .slice np m xc] 28 (0, 0)) ∧ W.heap[w.heap.size + 1]? = some (.cells #[.int .i64 6, .bool false, .int .i64 0, .string ⟨#[]⟩, .slice (some ⟨pb, po, none⟩) 1 pc, .slice (some ⟨nb, no, none⟩) 1 nc] 25 (0, 0)) ∧ W.heap[w.heap.size + 1 + 1]? = some (.cells #[.int .i64 0, .bool false, .int .i64 0, .string ⟨#[]⟩, .slice none 0 0, .slice none 0 0] 25 (0, 0)) ∧ Below w.heap.size w W) := ⟨Below.row hbW aR.out.1, Below.row hbW aR.out.2.1, Below.row hbW aR.out.2.2.1, aR.out.2.2.2.trans (hbW.mono aR.out.2.2.2.size)⟩
    clear hV kk hbW aR rw30
    simp only [putAll, Nat.reduceAdd]
    rw [v5]
    simp only [Act.put, List.setIfInBounds_toArray, List.set_cons_zero, List.set_cons_succ]
    change wpList _ _ _ [] _ _
    have hlt : Hid (w.heap.size < W.heap.size) := lt_of_row bR.out.1
    have ka := all_none kp kc 6 false 0 ⟨#[]⟩ (some ⟨pb, po, none⟩) 1 pc (some ⟨nb, no, none⟩) 1 nc
    have cx0 : W.cell? ⟨w.heap.size, 0, none⟩ = some (.int .i64 2) := cell_of_row W _ 0 _ _ _ bR.out.1
    have cx8 : W.cell? ⟨w.heap.size, 8, none⟩ = some (.slice kp 0 kc) := cell_of_row W _ 8 _ _ _ bR.out.1
    have cxd0 : W.cell? ⟨w.heap.size + 1, 0, none⟩ = some (.int .i64 6) := cell_of_row W _ 0 _ _ _ bR.out.2.1
    have cxd1 : W.cell? ⟨w.heap.size + 1, 1, none⟩ = some (.bool false) := cell_of_row W _ 1 _ _ _ bR.out.2.1
    have cxd2 : W.cell? ⟨w.heap.size + 1, 2, none⟩ = some (.int .i64 0) := cell_of_row W _ 2 _ _ _ bR.out.2.1
    have cxd3 : W.cell? ⟨w.heap.size + 1, 3, none⟩ = some (.string ⟨#[]⟩) := cell_of_row W _ 3 _ _ _ bR.out.2.1
    have cxd4 : W.cell? ⟨w.heap.size + 1, 4, none⟩ = some (.slice (some ⟨pb, po, none⟩) 1 pc) := cell_of_row W _ 4 _ _ _ bR.out.2.1
    have cxd5 : W.cell? ⟨w.heap.size + 1, 5, none⟩ = some (.slice (some ⟨nb, no, none⟩) 1 nc) := cell_of_row W _ 5 _ _ _ bR.out.2.1
    go_wp2_with fail
    refine (ka _).mono ?_
    rintro r w5 ⟨rfl, hb5⟩
    have cR : Hid (w5.heap[w.heap.size]? = some (.cells #[.int .i64 2, .string ⟨#[97]⟩, .int .i64 vk, .bool vb, .int .i64 vn, .string vs, .slice none 0 0, .slice none 0 0, .slice kp 0 kc, .slice np m xc] 28 (0, 0)) ∧ w5.heap[w.heap.size + 1]? = some (.cells #[.int .i64 6, .bool false, .int .i64 0, .string ⟨#[]⟩, .slice (some ⟨pb, po, none⟩) 1 pc, .slice (some ⟨nb, no, none⟩) 1 nc] 25 (0, 0)) ∧ w5.heap[w.heap.size + 1 + 1]? = some (.cells #[.int .i64 0, .bool false, .int .i64 0, .string ⟨#[]⟩, .slice none 0 0, .slice none 0 0] 25 (0, 0)) ∧ Below w.heap.size w w5) := ⟨Below.row hb5 bR.out.1, Below.row hb5 bR.out.2.1, Below.row hb5 bR.out.2.2.1, bR.out.2.2.2.trans (hb5.mono bR.out.2.2.2.size)⟩
    have dx0 : w5.cell? ⟨w.heap.size, 0, none⟩ = some (.int .i64 2) := cell_of_row w5 _ 0 _ _ _ cR.out.1
    have dx1 : w5.cell? ⟨w.heap.size, 1, none⟩ = some (.string ⟨#[97]⟩) := cell_of_row w5 _ 1 _ _ _ cR.out.1
    have dd0 : w5.cell? ⟨w.heap.size + 1, 0, none⟩ = some (.int .i64 6) := cell_of_row w5 _ 0 _ _ _ cR.out.2.1
    have dd1 : w5.cell? ⟨w.heap.size + 1, 1, none⟩ = some (.bool false) := cell_of_row w5 _ 1 _ _ _ cR.out.2.1
    have dd2 : w5.cell? ⟨w.heap.size + 1, 2, none⟩ = some (.int .i64 0) := cell_of_row w5 _ 2 _ _ _ cR.out.2.1
    have dd3 : w5.cell? ⟨w.heap.size + 1, 3, none⟩ = some (.string ⟨#[]⟩) := cell_of_row w5 _ 3 _ _ _ cR.out.2.1
    have dd4 : w5.cell? ⟨w.heap.size + 1, 4, none⟩ = some (.slice (some ⟨pb, po, none⟩) 1 pc) := cell_of_row w5 _ 4 _ _ _ cR.out.2.1
    have dd5 : w5.cell? ⟨w.heap.size + 1, 5, none⟩ = some (.slice (some ⟨nb, no, none⟩) 1 nc) := cell_of_row w5 _ 5 _ _ _ cR.out.2.1
    have kpt := part_a n ip ic jp jc pb po pc nb no nc w5 (HD.out.1.later cR.out.2.2.2) (HD.out.2.later cR.out.2.2.2)
    clear bR hb5 ka cx0 cx8 cxd0 cxd1 cxd2 cxd3 cxd4 cxd5 HD
    go_wp2_with fail
    refine kpt.mono ?_
    rintro r w6 ⟨rfl, hb6⟩
    have dR : Hid (w6.heap[w.heap.size]? = some (.cells #[.int .i64 2, .string ⟨#[97]⟩, .int .i64 vk, .bool vb, .int .i64 vn, .string vs, .slice none 0 0, .slice none 0 0, .slice kp 0 kc, .slice np m xc] 28 (0, 0)) ∧ w6.heap[w.heap.size + 1]? = some (.cells #[.int .i64 6, .bool false, .int .i64 0, .string ⟨#[]⟩, .slice (some ⟨pb, po, none⟩) 1 pc, .slice (some ⟨nb, no, none⟩) 1 nc] 25 (0, 0)) ∧ w6.heap[w.heap.size + 1 + 1]? = some (.cells #[.int .i64 0, .bool false, .int .i64 0, .string ⟨#[]⟩, .slice none 0 0, .slice none 0 0] 25 (0, 0)) ∧ Below w.heap.size w w6) := ⟨Below.row hb6 cR.out.1, Below.row hb6 cR.out.2.1, Below.row hb6 cR.out.2.2.1, cR.out.2.2.2.trans (hb6.mono cR.out.2.2.2.size)⟩
    clear kpt cR hb6
    go_wp2_with (first | (refine wpList_put rfl 25 (.tmp 4) (.tmp 57) rfl rfl rfl rfl dR.out.2.2.1 rfl info25 (by simp [Value.oneCell']) ?_) | fail)
    exact bodyPost_ret (results_row_tmp Tryz.results21 _ _ (w.heap.size + 1 + 1) 25 _ (0, 0) _ rfl (put_row _ dR.out.2.2.1 rfl) Tryz.underlying25 rfl info25) rfl ⟨rfl, put_below dR.out.2.2.2 _ (by omega) _⟩
end Go.Proofs.YtnnclhmhbmbkfaaGreatDoor
