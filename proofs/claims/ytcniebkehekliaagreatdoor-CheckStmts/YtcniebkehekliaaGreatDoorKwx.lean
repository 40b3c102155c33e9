/- Kind, a case of its walk. Kind, a case of its walk. Kind, a case of its walk. Kind, a case of its walk. Kind, a case of its walk. Kind, a case of its walk. Kind, a case of its walk. Kind, a case of its walk. Kind, a case of its walk. Kind, a case of its walk. -/
import Derived.Test.YtcniebkehekliaaGreatDoorChx
namespace Go.Proofs.YtcniebkehekliaaGreatDoor
open Go.RowKit Go.Shelf
attribute [local go_sem] Oper.semAt_some
set_option maxRecDepth 100000 in
set_option maxHeartbeats 8000000 in
theorem kind_bad (R : XR) (b : Bool) (K : List Int × Int) (_hK : K.1.length ≤ 1000) (tw : Bool) (w : World)
    (kk : ∀ W, Below w.heap.size w W → Calls Tryz.prog 18 #[.slice R.kp R.n R.kc, .bool b] W (GivesK W K)) (_kt : ∀ W, Below w.heap.size w W → Calls Tryz.prog 19 #[.slice R.np R.m R.nc] W fun r w' => r = .returned (.bool tw) ∧ Below W.heap.size W w') (he : ¬ K.2 = 0) :
    Calls Tryz.prog 8 #[rowX R, .bool b] w fun r w' => r = .returned (.tuple #[.int .i64 (((0, K.2) : Int × Int)).1, .int .i64 (((0, K.2) : Int × Int)).2]) ∧ Below w.heap.size w w' := by
  obtain ⟨w1, hw1⟩ : ∃ w1, w.alloc (.cells #[.int .i64 R.k, .string R.s, .int .i64 R.vk, .bool R.vb, .int .i64 R.vn, .string R.vs, .slice none 0 0, .slice none 0 0, .slice R.kp R.n R.kc, .slice R.np R.m R.nc] 28) = w1 := ⟨_, rfl⟩
  have hb1 : Below w.heap.size w w1 := by rw [← hw1]; exact (Below.refl _ w).alloc (Nat.le_refl _) _
  have r1 : w1.heap[w.heap.size]? = some (.cells (arrX R) 28 (0, 0)) := by rw [← hw1]; exact heap_alloc_new _ _
  have k1 := kk w1 hb1
  have x8 : w1.cell? ⟨w.heap.size, 8, none⟩ = some (.slice R.kp R.n R.kc) := cell_of_row w1 _ 8 _ _ _ r1
  have l1 := lt_of_row r1
  have HH : Hid (Below w.heap.size w w1 ∧ w1.heap[w.heap.size]? = some (.cells (arrX R) 28 (0, 0))) := ⟨hb1, r1⟩
  unfold rowX
  clear hb1 r1 kk
  go_enter Tryz.func8, Tryz.ntmps8
  go_wp2_with fail
  refine k1.mono ?_
  rintro q w2 ⟨p, c, rfl, hKn, hb2⟩
  have HB : Hid (Below w.heap.size w w2) := HH.out.1.trans (hb2.mono HH.out.1.size)
  clear k1 hKn hb2 x8 hw1 _kt
  go_wp2
  go_ret2
  exact ⟨rfl, HB.out⟩
set_option maxRecDepth 100000 in
set_option maxHeartbeats 8000000 in
theorem kind_twice (R : XR) (b : Bool) (K : List Int × Int) (_hK : K.1.length ≤ 1000) (tw : Bool) (w : World)
    (kk : ∀ W, Below w.heap.size w W → Calls Tryz.prog 18 #[.slice R.kp R.n R.kc, .bool b] W (GivesK W K)) (kt : ∀ W, Below w.heap.size w W → Calls Tryz.prog 19 #[.slice R.np R.m R.nc] W fun r w' => r = .returned (.bool tw) ∧ Below W.heap.size W w') (he : K.2 = 0) (hk : R.k = 8) (ht : tw = true) :
    Calls Tryz.prog 8 #[rowX R, .bool b] w fun r w' => r = .returned (.tuple #[.int .i64 (((0, 133) : Int × Int)).1, .int .i64 (((0, 133) : Int × Int)).2]) ∧ Below w.heap.size w w' := by
  have HKK : Hid (R.k = 8) := hk
  clear hk
  obtain ⟨w1, hw1⟩ : ∃ w1, w.alloc (.cells #[.int .i64 R.k, .string R.s, .int .i64 R.vk, .bool R.vb, .int .i64 R.vn, .string R.vs, .slice none 0 0, .slice none 0 0, .slice R.kp R.n R.kc, .slice R.np R.m R.nc] 28) = w1 := ⟨_, rfl⟩
  have hb1 : Below w.heap.size w w1 := by rw [← hw1]; exact (Below.refl _ w).alloc (Nat.le_refl _) _
  have r1 : w1.heap[w.heap.size]? = some (.cells (arrX R) 28 (0, 0)) := by rw [← hw1]; exact heap_alloc_new _ _
  have k1 := kk w1 hb1
  have x8 : w1.cell? ⟨w.heap.size, 8, none⟩ = some (.slice R.kp R.n R.kc) := cell_of_row w1 _ 8 _ _ _ r1
  have l1 := lt_of_row r1
  have HH : Hid (Below w.heap.size w w1 ∧ w1.heap[w.heap.size]? = some (.cells (arrX R) 28 (0, 0))) := ⟨hb1, r1⟩
  unfold rowX
  clear hb1 r1 kk
  go_enter Tryz.func8, Tryz.ntmps8
  go_wp2_with fail
  refine k1.mono ?_
  rintro q w2 ⟨p, c, rfl, hKn, hb2⟩
  have hB2 := HH.out.1.trans (hb2.mono HH.out.1.size)
  have r2 := (hb2.block _ l1).trans HH.out.2
  have y0 : w2.cell? ⟨w.heap.size, 0, none⟩ = some (.int .i64 R.k) := cell_of_row w2 _ 0 _ _ _ r2
  have H2 : Hid (Below w.heap.size w w2 ∧ w2.heap[w.heap.size]? = some (.cells (arrX R) 28 (0, 0)) ∧ Kn w2 p c K.1) := ⟨hB2, r2, hKn⟩
  rw [HKK.out] at y0
  have y9 : w2.cell? ⟨w.heap.size, 9, none⟩ = some (.slice R.np R.m R.nc) := cell_of_row w2 _ 9 _ _ _ r2
  have k2 := kt w2 hB2
  rw [ht] at k2
  clear k1 hKn hb2 x8 hw1 kt r2 hB2 ht
  go_wp2_with fail
  refine k2.mono ?_
  rintro q w3 ⟨rfl, hb3⟩
  have HB : Hid (Below w.heap.size w w3) := H2.out.1.trans (hb3.mono H2.out.1.size)
  clear k2 hb3
  go_wp2
  go_ret2
  exact ⟨rfl, HB.out⟩
end Go.Proofs.YtcniebkehekliaaGreatDoor
namespace Go.Proofs.YtcniebkehekliaaGreatDoor
open Go.RowKit Go.Shelf
attribute [local go_sem] Oper.semAt_some
set_option maxRecDepth 100000 in
set_option maxHeartbeats 8000000 in
theorem kind_k1n (R : XR) (b : Bool) (K : List Int × Int) (_hK : K.1.length ≤ 1000) (tw : Bool) (w : World)
    (kk : ∀ W, Below w.heap.size w W → Calls Tryz.prog 18 #[.slice R.kp R.n R.kc, .bool b] W (GivesK W K)) (_kt : ∀ W, Below w.heap.size w W → Calls Tryz.prog 19 #[.slice R.np R.m R.nc] W fun r w' => r = .returned (.bool tw) ∧ Below W.heap.size W w') (he : K.2 = 0) (hk : R.k = 1) (hf : frmB R.k R.n R.m = false) :
    Calls Tryz.prog 8 #[rowX R, .bool b] w fun r w' => r = .returned (.tuple #[.int .i64 (((0, 131) : Int × Int)).1, .int .i64 (((0, 131) : Int × Int)).2]) ∧ Below w.heap.size w w' := by
  have HKK : Hid (R.k = 1) := hk
  clear hk
  obtain ⟨w1, hw1⟩ : ∃ w1, w.alloc (.cells #[.int .i64 R.k, .string R.s, .int .i64 R.vk, .bool R.vb, .int .i64 R.vn, .string R.vs, .slice none 0 0, .slice none 0 0, .slice R.kp R.n R.kc, .slice R.np R.m R.nc] 28) = w1 := ⟨_, rfl⟩
  have hb1 : Below w.heap.size w w1 := by rw [← hw1]; exact (Below.refl _ w).alloc (Nat.le_refl _) _
  have r1 : w1.heap[w.heap.size]? = some (.cells (arrX R) 28 (0, 0)) := by rw [← hw1]; exact heap_alloc_new _ _
  have k1 := kk w1 hb1
  have x8 : w1.cell? ⟨w.heap.size, 8, none⟩ = some (.slice R.kp R.n R.kc) := cell_of_row w1 _ 8 _ _ _ r1
  have l1 := lt_of_row r1
  have HH : Hid (Below w.heap.size w w1 ∧ w1.heap[w.heap.size]? = some (.cells (arrX R) 28 (0, 0))) := ⟨hb1, r1⟩
  unfold rowX
  clear hb1 r1 kk
  go_enter Tryz.func8, Tryz.ntmps8
  go_wp2_with fail
  refine k1.mono ?_
  rintro q w2 ⟨p, c, rfl, hKn, hb2⟩
  have hB2 := HH.out.1.trans (hb2.mono HH.out.1.size)
  have r2 := (hb2.block _ l1).trans HH.out.2
  have y0 : w2.cell? ⟨w.heap.size, 0, none⟩ = some (.int .i64 R.k) := cell_of_row w2 _ 0 _ _ _ r2
  have H2 : Hid (Below w.heap.size w w2 ∧ w2.heap[w.heap.size]? = some (.cells (arrX R) 28 (0, 0)) ∧ Kn w2 p c K.1) := ⟨hB2, r2, hKn⟩
  have H3 : Hid (Below w.heap.size w w2 ∧ w2.heap[w.heap.size]? = some (.cells (arrX R) 28 (0, 0))) := ⟨hB2, r2⟩
  rw [HKK.out] at y0
  clear k1 hKn hb2 x8 hw1 _kt r2 hB2
  have kf := formed_any R w2
  rw [hf] at kf
  unfold rowX at kf
  go_wp2_with (first | (refine wpList_get rfl 28 (.tmp 2) rfl rfl H3.out.2 Tryz.underlying28 rfl info28 ?_; simp only [Act.put, List.setIfInBounds_toArray, List.set_cons_zero, List.set_cons_succ]; unfold arrX) | fail)
  refine kf.mono ?_
  rintro q w4 ⟨rfl, hb4⟩
  have r4 := (hb4.block _ (lt_of_row H3.out.2)).trans H3.out.2
  have z0 : w4.cell? ⟨w.heap.size, 0, none⟩ = some (.int .i64 R.k) := cell_of_row w4 _ 0 _ _ _ r4
  have z1 : w4.cell? ⟨w.heap.size, 1, none⟩ = some (.string R.s) := cell_of_row w4 _ 1 _ _ _ r4
  have z2 : w4.cell? ⟨w.heap.size, 2, none⟩ = some (.int .i64 R.vk) := cell_of_row w4 _ 2 _ _ _ r4
  have HK4 : Hid (Kn w4 p c K.1) := H2.out.2.2.later hb4
  have H4 : Hid (Below w.heap.size w w4) := H3.out.1.trans (hb4.mono H3.out.1.size)
  rw [HKK.out] at z0
  clear kf hb4 r4
  go_wp2
  go_ret2
  exact ⟨rfl, H4.out⟩
set_option maxRecDepth 100000 in
set_option maxHeartbeats 8000000 in
theorem kind_k1y (R : XR) (b : Bool) (K : List Int × Int) (_hK : K.1.length ≤ 1000) (tw : Bool) (w : World)
    (kk : ∀ W, Below w.heap.size w W → Calls Tryz.prog 18 #[.slice R.kp R.n R.kc, .bool b] W (GivesK W K)) (_kt : ∀ W, Below w.heap.size w W → Calls Tryz.prog 19 #[.slice R.np R.m R.nc] W fun r w' => r = .returned (.bool tw) ∧ Below W.heap.size W w') (he : K.2 = 0) (hk : R.k = 1) (hf : frmB R.k R.n R.m = true) :
    Calls Tryz.prog 8 #[rowX R, .bool b] w fun r w' => r = .returned (.tuple #[.int .i64 (((R.vk, 0) : Int × Int)).1, .int .i64 (((R.vk, 0) : Int × Int)).2]) ∧ Below w.heap.size w w' := by
  have HKK : Hid (R.k = 1) := hk
  clear hk
  obtain ⟨w1, hw1⟩ : ∃ w1, w.alloc (.cells #[.int .i64 R.k, .string R.s, .int .i64 R.vk, .bool R.vb, .int .i64 R.vn, .string R.vs, .slice none 0 0, .slice none 0 0, .slice R.kp R.n R.kc, .slice R.np R.m R.nc] 28) = w1 := ⟨_, rfl⟩
  have hb1 : Below w.heap.size w w1 := by rw [← hw1]; exact (Below.refl _ w).alloc (Nat.le_refl _) _
  have r1 : w1.heap[w.heap.size]? = some (.cells (arrX R) 28 (0, 0)) := by rw [← hw1]; exact heap_alloc_new _ _
  have k1 := kk w1 hb1
  have x8 : w1.cell? ⟨w.heap.size, 8, none⟩ = some (.slice R.kp R.n R.kc) := cell_of_row w1 _ 8 _ _ _ r1
  have l1 := lt_of_row r1
  have HH : Hid (Below w.heap.size w w1 ∧ w1.heap[w.heap.size]? = some (.cells (arrX R) 28 (0, 0))) := ⟨hb1, r1⟩
  unfold rowX
  clear hb1 r1 kk
  go_enter Tryz.func8, Tryz.ntmps8
  go_wp2_with fail
  refine k1.mono ?_
  rintro q w2 ⟨p, c, rfl, hKn, hb2⟩
  have hB2 := HH.out.1.trans (hb2.mono HH.out.1.size)
  have r2 := (hb2.block _ l1).trans HH.out.2
  have y0 : w2.cell? ⟨w.heap.size, 0, none⟩ = some (.int .i64 R.k) := cell_of_row w2 _ 0 _ _ _ r2
  have H2 : Hid (Below w.heap.size w w2 ∧ w2.heap[w.heap.size]? = some (.cells (arrX R) 28 (0, 0)) ∧ Kn w2 p c K.1) := ⟨hB2, r2, hKn⟩
  have H3 : Hid (Below w.heap.size w w2 ∧ w2.heap[w.heap.size]? = some (.cells (arrX R) 28 (0, 0))) := ⟨hB2, r2⟩
  rw [HKK.out] at y0
  clear k1 hKn hb2 x8 hw1 _kt r2 hB2
  have kf := formed_any R w2
  rw [hf] at kf
  unfold rowX at kf
  go_wp2_with (first | (refine wpList_get rfl 28 (.tmp 2) rfl rfl H3.out.2 Tryz.underlying28 rfl info28 ?_; simp only [Act.put, List.setIfInBounds_toArray, List.set_cons_zero, List.set_cons_succ]; unfold arrX) | fail)
  refine kf.mono ?_
  rintro q w4 ⟨rfl, hb4⟩
  have r4 := (hb4.block _ (lt_of_row H3.out.2)).trans H3.out.2
  have z0 : w4.cell? ⟨w.heap.size, 0, none⟩ = some (.int .i64 R.k) := cell_of_row w4 _ 0 _ _ _ r4
  have z1 : w4.cell? ⟨w.heap.size, 1, none⟩ = some (.string R.s) := cell_of_row w4 _ 1 _ _ _ r4
  have z2 : w4.cell? ⟨w.heap.size, 2, none⟩ = some (.int .i64 R.vk) := cell_of_row w4 _ 2 _ _ _ r4
  have HK4 : Hid (Kn w4 p c K.1) := H2.out.2.2.later hb4
  have H4 : Hid (Below w.heap.size w w4) := H3.out.1.trans (hb4.mono H3.out.1.size)
  rw [HKK.out] at z0
  clear kf hb4 r4
  go_wp2
  go_ret2
  exact ⟨rfl, H4.out⟩
end Go.Proofs.YtcniebkehekliaaGreatDoor
namespace Go.Proofs.YtcniebkehekliaaGreatDoor
open Go.RowKit Go.Shelf
attribute [local go_sem] Oper.semAt_some
set_option maxRecDepth 100000 in
set_option maxHeartbeats 8000000 in
theorem kind_k2n (R : XR) (b : Bool) (K : List Int × Int) (_hK : K.1.length ≤ 1000) (tw : Bool) (w : World)
    (kk : ∀ W, Below w.heap.size w W → Calls Tryz.prog 18 #[.slice R.kp R.n R.kc, .bool b] W (GivesK W K)) (_kt : ∀ W, Below w.heap.size w W → Calls Tryz.prog 19 #[.slice R.np R.m R.nc] W fun r w' => r = .returned (.bool tw) ∧ Below W.heap.size W w') (he : K.2 = 0) (hk : R.k = 2) (hf : frmB R.k R.n R.m = false) :
    Calls Tryz.prog 8 #[rowX R, .bool b] w fun r w' => r = .returned (.tuple #[.int .i64 (((0, 131) : Int × Int)).1, .int .i64 (((0, 131) : Int × Int)).2]) ∧ Below w.heap.size w w' := by
  have HKK : Hid (R.k = 2) := hk
  clear hk
  obtain ⟨w1, hw1⟩ : ∃ w1, w.alloc (.cells #[.int .i64 R.k, .string R.s, .int .i64 R.vk, .bool R.vb, .int .i64 R.vn, .string R.vs, .slice none 0 0, .slice none 0 0, .slice R.kp R.n R.kc, .slice R.np R.m R.nc] 28) = w1 := ⟨_, rfl⟩
  have hb1 : Below w.heap.size w w1 := by rw [← hw1]; exact (Below.refl _ w).alloc (Nat.le_refl _) _
  have r1 : w1.heap[w.heap.size]? = some (.cells (arrX R) 28 (0, 0)) := by rw [← hw1]; exact heap_alloc_new _ _
  have k1 := kk w1 hb1
  have x8 : w1.cell? ⟨w.heap.size, 8, none⟩ = some (.slice R.kp R.n R.kc) := cell_of_row w1 _ 8 _ _ _ r1
  have l1 := lt_of_row r1
  have HH : Hid (Below w.heap.size w w1 ∧ w1.heap[w.heap.size]? = some (.cells (arrX R) 28 (0, 0))) := ⟨hb1, r1⟩
  unfold rowX
  clear hb1 r1 kk
  go_enter Tryz.func8, Tryz.ntmps8
  go_wp2_with fail
  refine k1.mono ?_
  rintro q w2 ⟨p, c, rfl, hKn, hb2⟩
  have hB2 := HH.out.1.trans (hb2.mono HH.out.1.size)
  have r2 := (hb2.block _ l1).trans HH.out.2
  have y0 : w2.cell? ⟨w.heap.size, 0, none⟩ = some (.int .i64 R.k) := cell_of_row w2 _ 0 _ _ _ r2
  have H2 : Hid (Below w.heap.size w w2 ∧ w2.heap[w.heap.size]? = some (.cells (arrX R) 28 (0, 0)) ∧ Kn w2 p c K.1) := ⟨hB2, r2, hKn⟩
  have H3 : Hid (Below w.heap.size w w2 ∧ w2.heap[w.heap.size]? = some (.cells (arrX R) 28 (0, 0))) := ⟨hB2, r2⟩
  rw [HKK.out] at y0
  clear k1 hKn hb2 x8 hw1 _kt r2 hB2
  have kf := formed_any R w2
  rw [hf] at kf
  unfold rowX at kf
  go_wp2_with (first | (refine wpList_get rfl 28 (.tmp 2) rfl rfl H3.out.2 Tryz.underlying28 rfl info28 ?_; simp only [Act.put, List.setIfInBounds_toArray, List.set_cons_zero, List.set_cons_succ]; unfold arrX) | fail)
  refine kf.mono ?_
  rintro q w4 ⟨rfl, hb4⟩
  have r4 := (hb4.block _ (lt_of_row H3.out.2)).trans H3.out.2
  have z0 : w4.cell? ⟨w.heap.size, 0, none⟩ = some (.int .i64 R.k) := cell_of_row w4 _ 0 _ _ _ r4
  have z1 : w4.cell? ⟨w.heap.size, 1, none⟩ = some (.string R.s) := cell_of_row w4 _ 1 _ _ _ r4
  have z2 : w4.cell? ⟨w.heap.size, 2, none⟩ = some (.int .i64 R.vk) := cell_of_row w4 _ 2 _ _ _ r4
  have HK4 : Hid (Kn w4 p c K.1) := H2.out.2.2.later hb4
  have H4 : Hid (Below w.heap.size w w4) := H3.out.1.trans (hb4.mono H3.out.1.size)
  rw [HKK.out] at z0
  clear kf hb4 r4
  go_wp2
  go_ret2
  exact ⟨rfl, H4.out⟩
set_option maxRecDepth 100000 in
set_option maxHeartbeats 8000000 in
theorem kind_k2t (R : XR) (K : List Int × Int) (_hK : K.1.length ≤ 1000) (tw : Bool) (w : World)
    (kk : ∀ W, Below w.heap.size w W → Calls Tryz.prog 18 #[.slice R.kp R.n R.kc, .bool true] W (GivesK W K)) (_kt : ∀ W, Below w.heap.size w W → Calls Tryz.prog 19 #[.slice R.np R.m R.nc] W fun r w' => r = .returned (.bool tw) ∧ Below W.heap.size W w') (he : K.2 = 0) (hk : R.k = 2) (hf : frmB R.k R.n R.m = true) :
    Calls Tryz.prog 8 #[rowX R, .bool true] w fun r w' => r = .returned (.tuple #[.int .i64 (((-1, 0) : Int × Int)).1, .int .i64 (((-1, 0) : Int × Int)).2]) ∧ Below w.heap.size w w' := by
  have HKK : Hid (R.k = 2) := hk
  clear hk
  obtain ⟨w1, hw1⟩ : ∃ w1, w.alloc (.cells #[.int .i64 R.k, .string R.s, .int .i64 R.vk, .bool R.vb, .int .i64 R.vn, .string R.vs, .slice none 0 0, .slice none 0 0, .slice R.kp R.n R.kc, .slice R.np R.m R.nc] 28) = w1 := ⟨_, rfl⟩
  have hb1 : Below w.heap.size w w1 := by rw [← hw1]; exact (Below.refl _ w).alloc (Nat.le_refl _) _
  have r1 : w1.heap[w.heap.size]? = some (.cells (arrX R) 28 (0, 0)) := by rw [← hw1]; exact heap_alloc_new _ _
  have k1 := kk w1 hb1
  have x8 : w1.cell? ⟨w.heap.size, 8, none⟩ = some (.slice R.kp R.n R.kc) := cell_of_row w1 _ 8 _ _ _ r1
  have l1 := lt_of_row r1
  have HH : Hid (Below w.heap.size w w1 ∧ w1.heap[w.heap.size]? = some (.cells (arrX R) 28 (0, 0))) := ⟨hb1, r1⟩
  unfold rowX
  clear hb1 r1 kk
  go_enter Tryz.func8, Tryz.ntmps8
  go_wp2_with fail
  refine k1.mono ?_
  rintro q w2 ⟨p, c, rfl, hKn, hb2⟩
  have hB2 := HH.out.1.trans (hb2.mono HH.out.1.size)
  have r2 := (hb2.block _ l1).trans HH.out.2
  have y0 : w2.cell? ⟨w.heap.size, 0, none⟩ = some (.int .i64 R.k) := cell_of_row w2 _ 0 _ _ _ r2
  have H2 : Hid (Below w.heap.size w w2 ∧ w2.heap[w.heap.size]? = some (.cells (arrX R) 28 (0, 0)) ∧ Kn w2 p c K.1) := ⟨hB2, r2, hKn⟩
  have H3 : Hid (Below w.heap.size w w2 ∧ w2.heap[w.heap.size]? = some (.cells (arrX R) 28 (0, 0))) := ⟨hB2, r2⟩
  rw [HKK.out] at y0
  clear k1 hKn hb2 x8 hw1 _kt r2 hB2
  have kf := formed_any R w2
  rw [hf] at kf
  unfold rowX at kf
  go_wp2_with (first | (refine wpList_get rfl 28 (.tmp 2) rfl rfl H3.out.2 Tryz.underlying28 rfl info28 ?_; simp only [Act.put, List.setIfInBounds_toArray, List.set_cons_zero, List.set_cons_succ]; unfold arrX) | fail)
  refine kf.mono ?_
  rintro q w4 ⟨rfl, hb4⟩
  have r4 := (hb4.block _ (lt_of_row H3.out.2)).trans H3.out.2
  have z0 : w4.cell? ⟨w.heap.size, 0, none⟩ = some (.int .i64 R.k) := cell_of_row w4 _ 0 _ _ _ r4
  have z1 : w4.cell? ⟨w.heap.size, 1, none⟩ = some (.string R.s) := cell_of_row w4 _ 1 _ _ _ r4
  have z2 : w4.cell? ⟨w.heap.size, 2, none⟩ = some (.int .i64 R.vk) := cell_of_row w4 _ 2 _ _ _ r4
  have HK4 : Hid (Kn w4 p c K.1) := H2.out.2.2.later hb4
  have H4 : Hid (Below w.heap.size w w4) := H3.out.1.trans (hb4.mono H3.out.1.size)
  rw [HKK.out] at z0
  clear kf hb4 r4
  have kc := field_any true w4
  simp only [if_true] at kc
  go_wp2_with fail
  refine kc.mono ?_
  rintro q w5 ⟨rfl, hw5⟩
  have hw5' := hw5.symm
  clear hw5
  subst hw5'
  clear kc
  go_wp2
  go_ret2
  exact ⟨rfl, H4.out⟩
set_option maxRecDepth 100000 in
set_option maxHeartbeats 8000000 in
theorem kind_k2u (R : XR) (K : List Int × Int) (_hK : K.1.length ≤ 1000) (tw : Bool) (w : World)
    (kk : ∀ W, Below w.heap.size w W → Calls Tryz.prog 18 #[.slice R.kp R.n R.kc, .bool false] W (GivesK W K)) (_kt : ∀ W, Below w.heap.size w W → Calls Tryz.prog 19 #[.slice R.np R.m R.nc] W fun r w' => r = .returned (.bool tw) ∧ Below W.heap.size W w') (he : K.2 = 0) (hk : R.k = 2) (hf : frmB R.k R.n R.m = true) :
    Calls Tryz.prog 8 #[rowX R, .bool false] w fun r w' => r = .returned (.tuple #[.int .i64 (((0, 132) : Int × Int)).1, .int .i64 (((0, 132) : Int × Int)).2]) ∧ Below w.heap.size w w' := by
  have HKK : Hid (R.k = 2) := hk
  clear hk
  obtain ⟨w1, hw1⟩ : ∃ w1, w.alloc (.cells #[.int .i64 R.k, .string R.s, .int .i64 R.vk, .bool R.vb, .int .i64 R.vn, .string R.vs, .slice none 0 0, .slice none 0 0, .slice R.kp R.n R.kc, .slice R.np R.m R.nc] 28) = w1 := ⟨_, rfl⟩
  have hb1 : Below w.heap.size w w1 := by rw [← hw1]; exact (Below.refl _ w).alloc (Nat.le_refl _) _
  have r1 : w1.heap[w.heap.size]? = some (.cells (arrX R) 28 (0, 0)) := by rw [← hw1]; exact heap_alloc_new _ _
  have k1 := kk w1 hb1
  have x8 : w1.cell? ⟨w.heap.size, 8, none⟩ = some (.slice R.kp R.n R.kc) := cell_of_row w1 _ 8 _ _ _ r1
  have l1 := lt_of_row r1
  have HH : Hid (Below w.heap.size w w1 ∧ w1.heap[w.heap.size]? = some (.cells (arrX R) 28 (0, 0))) := ⟨hb1, r1⟩
  unfold rowX
  clear hb1 r1 kk
  go_enter Tryz.func8, Tryz.ntmps8
  go_wp2_with fail
  refine k1.mono ?_
  rintro q w2 ⟨p, c, rfl, hKn, hb2⟩
  have hB2 := HH.out.1.trans (hb2.mono HH.out.1.size)
  have r2 := (hb2.block _ l1).trans HH.out.2
  have y0 : w2.cell? ⟨w.heap.size, 0, none⟩ = some (.int .i64 R.k) := cell_of_row w2 _ 0 _ _ _ r2
  have H2 : Hid (Below w.heap.size w w2 ∧ w2.heap[w.heap.size]? = some (.cells (arrX R) 28 (0, 0)) ∧ Kn w2 p c K.1) := ⟨hB2, r2, hKn⟩
  have H3 : Hid (Below w.heap.size w w2 ∧ w2.heap[w.heap.size]? = some (.cells (arrX R) 28 (0, 0))) := ⟨hB2, r2⟩
  rw [HKK.out] at y0
  clear k1 hKn hb2 x8 hw1 _kt r2 hB2
  have kf := formed_any R w2
  rw [hf] at kf
  unfold rowX at kf
  go_wp2_with (first | (refine wpList_get rfl 28 (.tmp 2) rfl rfl H3.out.2 Tryz.underlying28 rfl info28 ?_; simp only [Act.put, List.setIfInBounds_toArray, List.set_cons_zero, List.set_cons_succ]; unfold arrX) | fail)
  refine kf.mono ?_
  rintro q w4 ⟨rfl, hb4⟩
  have r4 := (hb4.block _ (lt_of_row H3.out.2)).trans H3.out.2
  have z0 : w4.cell? ⟨w.heap.size, 0, none⟩ = some (.int .i64 R.k) := cell_of_row w4 _ 0 _ _ _ r4
  have z1 : w4.cell? ⟨w.heap.size, 1, none⟩ = some (.string R.s) := cell_of_row w4 _ 1 _ _ _ r4
  have z2 : w4.cell? ⟨w.heap.size, 2, none⟩ = some (.int .i64 R.vk) := cell_of_row w4 _ 2 _ _ _ r4
  have HK4 : Hid (Kn w4 p c K.1) := H2.out.2.2.later hb4
  have H4 : Hid (Below w.heap.size w w4) := H3.out.1.trans (hb4.mono H3.out.1.size)
  rw [HKK.out] at z0
  clear kf hb4 r4
  have kc := field_any false w4
  simp only [Bool.false_eq_true, reduceIte] at kc
  go_wp2_with fail
  refine kc.mono ?_
  rintro q w5 ⟨rfl, hw5⟩
  have hw5' := hw5.symm
  clear hw5
  subst hw5'
  clear kc
  go_wp2
  go_ret2
  exact ⟨rfl, H4.out⟩
end Go.Proofs.YtcniebkehekliaaGreatDoor
namespace Go.Proofs.YtcniebkehekliaaGreatDoor
open Go.RowKit Go.Shelf
attribute [local go_sem] Oper.semAt_some
set_option maxRecDepth 100000 in
set_option maxHeartbeats 8000000 in
theorem kind_k3n (R : XR) (b : Bool) (K : List Int × Int) (_hK : K.1.length ≤ 1000) (tw : Bool) (w : World)
    (kk : ∀ W, Below w.heap.size w W → Calls Tryz.prog 18 #[.slice R.kp R.n R.kc, .bool b] W (GivesK W K)) (_kt : ∀ W, Below w.heap.size w W → Calls Tryz.prog 19 #[.slice R.np R.m R.nc] W fun r w' => r = .returned (.bool tw) ∧ Below W.heap.size W w') (he : K.2 = 0) (hk : R.k = 3) (hf : frmB R.k R.n R.m = false) :
    Calls Tryz.prog 8 #[rowX R, .bool b] w fun r w' => r = .returned (.tuple #[.int .i64 (((0, 131) : Int × Int)).1, .int .i64 (((0, 131) : Int × Int)).2]) ∧ Below w.heap.size w w' := by
  have HKK : Hid (R.k = 3) := hk
  clear hk
  obtain ⟨w1, hw1⟩ : ∃ w1, w.alloc (.cells #[.int .i64 R.k, .string R.s, .int .i64 R.vk, .bool R.vb, .int .i64 R.vn, .string R.vs, .slice none 0 0, .slice none 0 0, .slice R.kp R.n R.kc, .slice R.np R.m R.nc] 28) = w1 := ⟨_, rfl⟩
  have hb1 : Below w.heap.size w w1 := by rw [← hw1]; exact (Below.refl _ w).alloc (Nat.le_refl _) _
  have r1 : w1.heap[w.heap.size]? = some (.cells (arrX R) 28 (0, 0)) := by rw [← hw1]; exact heap_alloc_new _ _
  have k1 := kk w1 hb1
  have x8 : w1.cell? ⟨w.heap.size, 8, none⟩ = some (.slice R.kp R.n R.kc) := cell_of_row w1 _ 8 _ _ _ r1
  have l1 := lt_of_row r1
  have HH : Hid (Below w.heap.size w w1 ∧ w1.heap[w.heap.size]? = some (.cells (arrX R) 28 (0, 0))) := ⟨hb1, r1⟩
  unfold rowX
  clear hb1 r1 kk
  go_enter Tryz.func8, Tryz.ntmps8
  go_wp2_with fail
  refine k1.mono ?_
  rintro q w2 ⟨p, c, rfl, hKn, hb2⟩
  have hB2 := HH.out.1.trans (hb2.mono HH.out.1.size)
  have r2 := (hb2.block _ l1).trans HH.out.2
  have y0 : w2.cell? ⟨w.heap.size, 0, none⟩ = some (.int .i64 R.k) := cell_of_row w2 _ 0 _ _ _ r2
  have H2 : Hid (Below w.heap.size w w2 ∧ w2.heap[w.heap.size]? = some (.cells (arrX R) 28 (0, 0)) ∧ Kn w2 p c K.1) := ⟨hB2, r2, hKn⟩
  have H3 : Hid (Below w.heap.size w w2 ∧ w2.heap[w.heap.size]? = some (.cells (arrX R) 28 (0, 0))) := ⟨hB2, r2⟩
  rw [HKK.out] at y0
  clear k1 hKn hb2 x8 hw1 _kt r2 hB2
  have kf := formed_any R w2
  rw [hf] at kf
  unfold rowX at kf
  go_wp2_with (first | (refine wpList_get rfl 28 (.tmp 2) rfl rfl H3.out.2 Tryz.underlying28 rfl info28 ?_; simp only [Act.put, List.setIfInBounds_toArray, List.set_cons_zero, List.set_cons_succ]; unfold arrX) | fail)
  refine kf.mono ?_
  rintro q w4 ⟨rfl, hb4⟩
  have r4 := (hb4.block _ (lt_of_row H3.out.2)).trans H3.out.2
  have z0 : w4.cell? ⟨w.heap.size, 0, none⟩ = some (.int .i64 R.k) := cell_of_row w4 _ 0 _ _ _ r4
  have z1 : w4.cell? ⟨w.heap.size, 1, none⟩ = some (.string R.s) := cell_of_row w4 _ 1 _ _ _ r4
  have z2 : w4.cell? ⟨w.heap.size, 2, none⟩ = some (.int .i64 R.vk) := cell_of_row w4 _ 2 _ _ _ r4
  have HK4 : Hid (Kn w4 p c K.1) := H2.out.2.2.later hb4
  have H4 : Hid (Below w.heap.size w w4) := H3.out.1.trans (hb4.mono H3.out.1.size)
  rw [HKK.out] at z0
  clear kf hb4 r4
  go_wp2
  go_ret2
  exact ⟨rfl, H4.out⟩
set_option maxRecDepth 100000 in
set_option maxHeartbeats 8000000 in
theorem kind_k3y (R : XR) (b : Bool) (K : List Int × Int) (hK : K.1.length ≤ 1000) (tw : Bool) (w : World)
    (kk : ∀ W, Below w.heap.size w W → Calls Tryz.prog 18 #[.slice R.kp R.n R.kc, .bool b] W (GivesK W K)) (_kt : ∀ W, Below w.heap.size w W → Calls Tryz.prog 19 #[.slice R.np R.m R.nc] W fun r w' => r = .returned (.bool tw) ∧ Below W.heap.size W w') (he : K.2 = 0) (hk : R.k = 3) (hf : frmB R.k R.n R.m = true) :
    Calls Tryz.prog 8 #[rowX R, .bool b] w fun r w' => r = .returned (.tuple #[.int .i64 (nmbF K.1).1, .int .i64 (nmbF K.1).2]) ∧ Below w.heap.size w w' := by
  have HKK : Hid (R.k = 3) := hk
  clear hk
  obtain ⟨w1, hw1⟩ : ∃ w1, w.alloc (.cells #[.int .i64 R.k, .string R.s, .int .i64 R.vk, .bool R.vb, .int .i64 R.vn, .string R.vs, .slice none 0 0, .slice none 0 0, .slice R.kp R.n R.kc, .slice R.np R.m R.nc] 28) = w1 := ⟨_, rfl⟩
  have hb1 : Below w.heap.size w w1 := by rw [← hw1]; exact (Below.refl _ w).alloc (Nat.le_refl _) _
  have r1 : w1.heap[w.heap.size]? = some (.cells (arrX R) 28 (0, 0)) := by rw [← hw1]; exact heap_alloc_new _ _
  have k1 := kk w1 hb1
  have x8 : w1.cell? ⟨w.heap.size, 8, none⟩ = some (.slice R.kp R.n R.kc) := cell_of_row w1 _ 8 _ _ _ r1
  have l1 := lt_of_row r1
  have HH : Hid (Below w.heap.size w w1 ∧ w1.heap[w.heap.size]? = some (.cells (arrX R) 28 (0, 0))) := ⟨hb1, r1⟩
  unfold rowX
  clear hb1 r1 kk
  go_enter Tryz.func8, Tryz.ntmps8
  go_wp2_with fail
  refine k1.mono ?_
  rintro q w2 ⟨p, c, rfl, hKn, hb2⟩
  have hB2 := HH.out.1.trans (hb2.mono HH.out.1.size)
  have r2 := (hb2.block _ l1).trans HH.out.2
  have y0 : w2.cell? ⟨w.heap.size, 0, none⟩ = some (.int .i64 R.k) := cell_of_row w2 _ 0 _ _ _ r2
  have H2 : Hid (Below w.heap.size w w2 ∧ w2.heap[w.heap.size]? = some (.cells (arrX R) 28 (0, 0)) ∧ Kn w2 p c K.1) := ⟨hB2, r2, hKn⟩
  have H3 : Hid (Below w.heap.size w w2 ∧ w2.heap[w.heap.size]? = some (.cells (arrX R) 28 (0, 0))) := ⟨hB2, r2⟩
  rw [HKK.out] at y0
  clear k1 hKn hb2 x8 hw1 _kt r2 hB2
  have kf := formed_any R w2
  rw [hf] at kf
  unfold rowX at kf
  go_wp2_with (first | (refine wpList_get rfl 28 (.tmp 2) rfl rfl H3.out.2 Tryz.underlying28 rfl info28 ?_; simp only [Act.put, List.setIfInBounds_toArray, List.set_cons_zero, List.set_cons_succ]; unfold arrX) | fail)
  refine kf.mono ?_
  rintro q w4 ⟨rfl, hb4⟩
  have r4 := (hb4.block _ (lt_of_row H3.out.2)).trans H3.out.2
  have z0 : w4.cell? ⟨w.heap.size, 0, none⟩ = some (.int .i64 R.k) := cell_of_row w4 _ 0 _ _ _ r4
  have z1 : w4.cell? ⟨w.heap.size, 1, none⟩ = some (.string R.s) := cell_of_row w4 _ 1 _ _ _ r4
  have z2 : w4.cell? ⟨w.heap.size, 2, none⟩ = some (.int .i64 R.vk) := cell_of_row w4 _ 2 _ _ _ r4
  have HK4 : Hid (Kn w4 p c K.1) := H2.out.2.2.later hb4
  have H4 : Hid (Below w.heap.size w w4) := H3.out.1.trans (hb4.mono H3.out.1.size)
  rw [HKK.out] at z0
  clear kf hb4 r4
  have kc := number_kinds HK4.out hK
  go_wp2_with fail
  refine kc.mono ?_
  rintro q w5 ⟨rfl, hw5⟩
  have hw5' := hw5.symm
  clear hw5
  subst hw5'
  clear kc
  go_wp2
  go_ret2
  exact ⟨rfl, H4.out⟩
end Go.Proofs.YtcniebkehekliaaGreatDoor
namespace Go.Proofs.YtcniebkehekliaaGreatDoor
open Go.RowKit Go.Shelf
attribute [local go_sem] Oper.semAt_some
set_option maxRecDepth 100000 in
set_option maxHeartbeats 8000000 in
theorem kind_k4n (R : XR) (b : Bool) (K : List Int × Int) (_hK : K.1.length ≤ 1000) (tw : Bool) (w : World)
    (kk : ∀ W, Below w.heap.size w W → Calls Tryz.prog 18 #[.slice R.kp R.n R.kc, .bool b] W (GivesK W K)) (_kt : ∀ W, Below w.heap.size w W → Calls Tryz.prog 19 #[.slice R.np R.m R.nc] W fun r w' => r = .returned (.bool tw) ∧ Below W.heap.size W w') (he : K.2 = 0) (hk : R.k = 4) (hf : frmB R.k R.n R.m = false) :
    Calls Tryz.prog 8 #[rowX R, .bool b] w fun r w' => r = .returned (.tuple #[.int .i64 (((0, 131) : Int × Int)).1, .int .i64 (((0, 131) : Int × Int)).2]) ∧ Below w.heap.size w w' := by
  have HKK : Hid (R.k = 4) := hk
  clear hk
  obtain ⟨w1, hw1⟩ : ∃ w1, w.alloc (.cells #[.int .i64 R.k, .string R.s, .int .i64 R.vk, .bool R.vb, .int .i64 R.vn, .string R.vs, .slice none 0 0, .slice none 0 0, .slice R.kp R.n R.kc, .slice R.np R.m R.nc] 28) = w1 := ⟨_, rfl⟩
  have hb1 : Below w.heap.size w w1 := by rw [← hw1]; exact (Below.refl _ w).alloc (Nat.le_refl _) _
  have r1 : w1.heap[w.heap.size]? = some (.cells (arrX R) 28 (0, 0)) := by rw [← hw1]; exact heap_alloc_new _ _
  have k1 := kk w1 hb1
  have x8 : w1.cell? ⟨w.heap.size, 8, none⟩ = some (.slice R.kp R.n R.kc) := cell_of_row w1 _ 8 _ _ _ r1
  have l1 := lt_of_row r1
  have HH : Hid (Below w.heap.size w w1 ∧ w1.heap[w.heap.size]? = some (.cells (arrX R) 28 (0, 0))) := ⟨hb1, r1⟩
  unfold rowX
  clear hb1 r1 kk
  go_enter Tryz.func8, Tryz.ntmps8
  go_wp2_with fail
  refine k1.mono ?_
  rintro q w2 ⟨p, c, rfl, hKn, hb2⟩
  have hB2 := HH.out.1.trans (hb2.mono HH.out.1.size)
  have r2 := (hb2.block _ l1).trans HH.out.2
  have y0 : w2.cell? ⟨w.heap.size, 0, none⟩ = some (.int .i64 R.k) := cell_of_row w2 _ 0 _ _ _ r2
  have H2 : Hid (Below w.heap.size w w2 ∧ w2.heap[w.heap.size]? = some (.cells (arrX R) 28 (0, 0)) ∧ Kn w2 p c K.1) := ⟨hB2, r2, hKn⟩
  have H3 : Hid (Below w.heap.size w w2 ∧ w2.heap[w.heap.size]? = some (.cells (arrX R) 28 (0, 0))) := ⟨hB2, r2⟩
  rw [HKK.out] at y0
  clear k1 hKn hb2 x8 hw1 _kt r2 hB2
  have kf := formed_any R w2
  rw [hf] at kf
  unfold rowX at kf
  go_wp2_with (first | (refine wpList_get rfl 28 (.tmp 2) rfl rfl H3.out.2 Tryz.underlying28 rfl info28 ?_; simp only [Act.put, List.setIfInBounds_toArray, List.set_cons_zero, List.set_cons_succ]; unfold arrX) | fail)
  refine kf.mono ?_
  rintro q w4 ⟨rfl, hb4⟩
  have r4 := (hb4.block _ (lt_of_row H3.out.2)).trans H3.out.2
  have z0 : w4.cell? ⟨w.heap.size, 0, none⟩ = some (.int .i64 R.k) := cell_of_row w4 _ 0 _ _ _ r4
  have z1 : w4.cell? ⟨w.heap.size, 1, none⟩ = some (.string R.s) := cell_of_row w4 _ 1 _ _ _ r4
  have z2 : w4.cell? ⟨w.heap.size, 2, none⟩ = some (.int .i64 R.vk) := cell_of_row w4 _ 2 _ _ _ r4
  have HK4 : Hid (Kn w4 p c K.1) := H2.out.2.2.later hb4
  have H4 : Hid (Below w.heap.size w w4) := H3.out.1.trans (hb4.mono H3.out.1.size)
  rw [HKK.out] at z0
  clear kf hb4 r4
  go_wp2
  go_ret2
  exact ⟨rfl, H4.out⟩
set_option maxRecDepth 100000 in
set_option maxHeartbeats 8000000 in
theorem kind_k4y (R : XR) (b : Bool) (K : List Int × Int) (hK : K.1.length ≤ 1000) (tw : Bool) (w : World)
    (kk : ∀ W, Below w.heap.size w W → Calls Tryz.prog 18 #[.slice R.kp R.n R.kc, .bool b] W (GivesK W K)) (_kt : ∀ W, Below w.heap.size w W → Calls Tryz.prog 19 #[.slice R.np R.m R.nc] W fun r w' => r = .returned (.bool tw) ∧ Below W.heap.size W w') (he : K.2 = 0) (hk : R.k = 4) (hf : frmB R.k R.n R.m = true) :
    Calls Tryz.prog 8 #[rowX R, .bool b] w fun r w' => r = .returned (.tuple #[.int .i64 (truF K.1).1, .int .i64 (truF K.1).2]) ∧ Below w.heap.size w w' := by
  have HKK : Hid (R.k = 4) := hk
  clear hk
  obtain ⟨w1, hw1⟩ : ∃ w1, w.alloc (.cells #[.int .i64 R.k, .string R.s, .int .i64 R.vk, .bool R.vb, .int .i64 R.vn, .string R.vs, .slice none 0 0, .slice none 0 0, .slice R.kp R.n R.kc, .slice R.np R.m R.nc] 28) = w1 := ⟨_, rfl⟩
  have hb1 : Below w.heap.size w w1 := by rw [← hw1]; exact (Below.refl _ w).alloc (Nat.le_refl _) _
  have r1 : w1.heap[w.heap.size]? = some (.cells (arrX R) 28 (0, 0)) := by rw [← hw1]; exact heap_alloc_new _ _
  have k1 := kk w1 hb1
  have x8 : w1.cell? ⟨w.heap.size, 8, none⟩ = some (.slice R.kp R.n R.kc) := cell_of_row w1 _ 8 _ _ _ r1
  have l1 := lt_of_row r1
  have HH : Hid (Below w.heap.size w w1 ∧ w1.heap[w.heap.size]? = some (.cells (arrX R) 28 (0, 0))) := ⟨hb1, r1⟩
  unfold rowX
  clear hb1 r1 kk
  go_enter Tryz.func8, Tryz.ntmps8
  go_wp2_with fail
  refine k1.mono ?_
  rintro q w2 ⟨p, c, rfl, hKn, hb2⟩
  have hB2 := HH.out.1.trans (hb2.mono HH.out.1.size)
  have r2 := (hb2.block _ l1).trans HH.out.2
  have y0 : w2.cell? ⟨w.heap.size, 0, none⟩ = some (.int .i64 R.k) := cell_of_row w2 _ 0 _ _ _ r2
  have H2 : Hid (Below w.heap.size w w2 ∧ w2.heap[w.heap.size]? = some (.cells (arrX R) 28 (0, 0)) ∧ Kn w2 p c K.1) := ⟨hB2, r2, hKn⟩
  have H3 : Hid (Below w.heap.size w w2 ∧ w2.heap[w.heap.size]? = some (.cells (arrX R) 28 (0, 0))) := ⟨hB2, r2⟩
  rw [HKK.out] at y0
  clear k1 hKn hb2 x8 hw1 _kt r2 hB2
  have kf := formed_any R w2
  rw [hf] at kf
  unfold rowX at kf
  go_wp2_with (first | (refine wpList_get rfl 28 (.tmp 2) rfl rfl H3.out.2 Tryz.underlying28 rfl info28 ?_; simp only [Act.put, List.setIfInBounds_toArray, List.set_cons_zero, List.set_cons_succ]; unfold arrX) | fail)
  refine kf.mono ?_
  rintro q w4 ⟨rfl, hb4⟩
  have r4 := (hb4.block _ (lt_of_row H3.out.2)).trans H3.out.2
  have z0 : w4.cell? ⟨w.heap.size, 0, none⟩ = some (.int .i64 R.k) := cell_of_row w4 _ 0 _ _ _ r4
  have z1 : w4.cell? ⟨w.heap.size, 1, none⟩ = some (.string R.s) := cell_of_row w4 _ 1 _ _ _ r4
  have z2 : w4.cell? ⟨w.heap.size, 2, none⟩ = some (.int .i64 R.vk) := cell_of_row w4 _ 2 _ _ _ r4
  have HK4 : Hid (Kn w4 p c K.1) := H2.out.2.2.later hb4
  have H4 : Hid (Below w.heap.size w w4) := H3.out.1.trans (hb4.mono H3.out.1.size)
  rw [HKK.out] at z0
  clear kf hb4 r4
  have kc := truth_any HK4.out hK
  go_wp2_with fail
  refine kc.mono ?_
  rintro q w5 ⟨rfl, hw5⟩
  have hw5' := hw5.symm
  clear hw5
  subst hw5'
  clear kc
  go_wp2
  go_ret2
  exact ⟨rfl, H4.out⟩
end Go.Proofs.YtcniebkehekliaaGreatDoor
namespace Go.Proofs.YtcniebkehekliaaGreatDoor
open Go.RowKit Go.Shelf
attribute [local go_sem] Oper.semAt_some
set_option maxRecDepth 100000 in
set_option maxHeartbeats 8000000 in
theorem kind_k5n (R : XR) (b : Bool) (K : List Int × Int) (_hK : K.1.length ≤ 1000) (tw : Bool) (w : World)
    (kk : ∀ W, Below w.heap.size w W → Calls Tryz.prog 18 #[.slice R.kp R.n R.kc, .bool b] W (GivesK W K)) (_kt : ∀ W, Below w.heap.size w W → Calls Tryz.prog 19 #[.slice R.np R.m R.nc] W fun r w' => r = .returned (.bool tw) ∧ Below W.heap.size W w') (he : K.2 = 0) (hk : R.k = 5) (hf : frmB R.k R.n R.m = false) :
    Calls Tryz.prog 8 #[rowX R, .bool b] w fun r w' => r = .returned (.tuple #[.int .i64 (((0, 131) : Int × Int)).1, .int .i64 (((0, 131) : Int × Int)).2]) ∧ Below w.heap.size w w' := by
  have HKK : Hid (R.k = 5) := hk
  clear hk
  obtain ⟨w1, hw1⟩ : ∃ w1, w.alloc (.cells #[.int .i64 R.k, .string R.s, .int .i64 R.vk, .bool R.vb, .int .i64 R.vn, .string R.vs, .slice none 0 0, .slice none 0 0, .slice R.kp R.n R.kc, .slice R.np R.m R.nc] 28) = w1 := ⟨_, rfl⟩
  have hb1 : Below w.heap.size w w1 := by rw [← hw1]; exact (Below.refl _ w).alloc (Nat.le_refl _) _
  have r1 : w1.heap[w.heap.size]? = some (.cells (arrX R) 28 (0, 0)) := by rw [← hw1]; exact heap_alloc_new _ _
  have k1 := kk w1 hb1
  have x8 : w1.cell? ⟨w.heap.size, 8, none⟩ = some (.slice R.kp R.n R.kc) := cell_of_row w1 _ 8 _ _ _ r1
  have l1 := lt_of_row r1
  have HH : Hid (Below w.heap.size w w1 ∧ w1.heap[w.heap.size]? = some (.cells (arrX R) 28 (0, 0))) := ⟨hb1, r1⟩
  unfold rowX
  clear hb1 r1 kk
  go_enter Tryz.func8, Tryz.ntmps8
  go_wp2_with fail
  refine k1.mono ?_
  rintro q w2 ⟨p, c, rfl, hKn, hb2⟩
  have hB2 := HH.out.1.trans (hb2.mono HH.out.1.size)
  have r2 := (hb2.block _ l1).trans HH.out.2
  have y0 : w2.cell? ⟨w.heap.size, 0, none⟩ = some (.int .i64 R.k) := cell_of_row w2 _ 0 _ _ _ r2
  have H2 : Hid (Below w.heap.size w w2 ∧ w2.heap[w.heap.size]? = some (.cells (arrX R) 28 (0, 0)) ∧ Kn w2 p c K.1) := ⟨hB2, r2, hKn⟩
  have H3 : Hid (Below w.heap.size w w2 ∧ w2.heap[w.heap.size]? = some (.cells (arrX R) 28 (0, 0))) := ⟨hB2, r2⟩
  rw [HKK.out] at y0
  clear k1 hKn hb2 x8 hw1 _kt r2 hB2
  have kf := formed_any R w2
  rw [hf] at kf
  unfold rowX at kf
  go_wp2_with (first | (refine wpList_get rfl 28 (.tmp 2) rfl rfl H3.out.2 Tryz.underlying28 rfl info28 ?_; simp only [Act.put, List.setIfInBounds_toArray, List.set_cons_zero, List.set_cons_succ]; unfold arrX) | fail)
  refine kf.mono ?_
  rintro q w4 ⟨rfl, hb4⟩
  have r4 := (hb4.block _ (lt_of_row H3.out.2)).trans H3.out.2
  have z0 : w4.cell? ⟨w.heap.size, 0, none⟩ = some (.int .i64 R.k) := cell_of_row w4 _ 0 _ _ _ r4
  have z1 : w4.cell? ⟨w.heap.size, 1, none⟩ = some (.string R.s) := cell_of_row w4 _ 1 _ _ _ r4
  have z2 : w4.cell? ⟨w.heap.size, 2, none⟩ = some (.int .i64 R.vk) := cell_of_row w4 _ 2 _ _ _ r4
  have HK4 : Hid (Kn w4 p c K.1) := H2.out.2.2.later hb4
  have H4 : Hid (Below w.heap.size w w4) := H3.out.1.trans (hb4.mono H3.out.1.size)
  rw [HKK.out] at z0
  clear kf hb4 r4
  go_wp2
  go_ret2
  exact ⟨rfl, H4.out⟩
set_option maxRecDepth 100000 in
set_option maxHeartbeats 8000000 in
theorem kind_k5y (R : XR) (b : Bool) (K : List Int × Int) (_hK : K.1.length ≤ 1000) (tw : Bool) (w : World)
    (kk : ∀ W, Below w.heap.size w W → Calls Tryz.prog 18 #[.slice R.kp R.n R.kc, .bool b] W (GivesK W K)) (_kt : ∀ W, Below w.heap.size w W → Calls Tryz.prog 19 #[.slice R.np R.m R.nc] W fun r w' => r = .returned (.bool tw) ∧ Below W.heap.size W w') (he : K.2 = 0) (hk : R.k = 5) (hf : frmB R.k R.n R.m = true) :
    Calls Tryz.prog 8 #[rowX R, .bool b] w fun r w' => r = .returned (.tuple #[.int .i64 (((1, 0) : Int × Int)).1, .int .i64 (((1, 0) : Int × Int)).2]) ∧ Below w.heap.size w w' := by
  have HKK : Hid (R.k = 5) := hk
  clear hk
  obtain ⟨w1, hw1⟩ : ∃ w1, w.alloc (.cells #[.int .i64 R.k, .string R.s, .int .i64 R.vk, .bool R.vb, .int .i64 R.vn, .string R.vs, .slice none 0 0, .slice none 0 0, .slice R.kp R.n R.kc, .slice R.np R.m R.nc] 28) = w1 := ⟨_, rfl⟩
  have hb1 : Below w.heap.size w w1 := by rw [← hw1]; exact (Below.refl _ w).alloc (Nat.le_refl _) _
  have r1 : w1.heap[w.heap.size]? = some (.cells (arrX R) 28 (0, 0)) := by rw [← hw1]; exact heap_alloc_new _ _
  have k1 := kk w1 hb1
  have x8 : w1.cell? ⟨w.heap.size, 8, none⟩ = some (.slice R.kp R.n R.kc) := cell_of_row w1 _ 8 _ _ _ r1
  have l1 := lt_of_row r1
  have HH : Hid (Below w.heap.size w w1 ∧ w1.heap[w.heap.size]? = some (.cells (arrX R) 28 (0, 0))) := ⟨hb1, r1⟩
  unfold rowX
  clear hb1 r1 kk
  go_enter Tryz.func8, Tryz.ntmps8
  go_wp2_with fail
  refine k1.mono ?_
  rintro q w2 ⟨p, c, rfl, hKn, hb2⟩
  have hB2 := HH.out.1.trans (hb2.mono HH.out.1.size)
  have r2 := (hb2.block _ l1).trans HH.out.2
  have y0 : w2.cell? ⟨w.heap.size, 0, none⟩ = some (.int .i64 R.k) := cell_of_row w2 _ 0 _ _ _ r2
  have H2 : Hid (Below w.heap.size w w2 ∧ w2.heap[w.heap.size]? = some (.cells (arrX R) 28 (0, 0)) ∧ Kn w2 p c K.1) := ⟨hB2, r2, hKn⟩
  have H3 : Hid (Below w.heap.size w w2 ∧ w2.heap[w.heap.size]? = some (.cells (arrX R) 28 (0, 0))) := ⟨hB2, r2⟩
  rw [HKK.out] at y0
  clear k1 hKn hb2 x8 hw1 _kt r2 hB2
  have kf := formed_any R w2
  rw [hf] at kf
  unfold rowX at kf
  go_wp2_with (first | (refine wpList_get rfl 28 (.tmp 2) rfl rfl H3.out.2 Tryz.underlying28 rfl info28 ?_; simp only [Act.put, List.setIfInBounds_toArray, List.set_cons_zero, List.set_cons_succ]; unfold arrX) | fail)
  refine kf.mono ?_
  rintro q w4 ⟨rfl, hb4⟩
  have r4 := (hb4.block _ (lt_of_row H3.out.2)).trans H3.out.2
  have z0 : w4.cell? ⟨w.heap.size, 0, none⟩ = some (.int .i64 R.k) := cell_of_row w4 _ 0 _ _ _ r4
  have z1 : w4.cell? ⟨w.heap.size, 1, none⟩ = some (.string R.s) := cell_of_row w4 _ 1 _ _ _ r4
  have z2 : w4.cell? ⟨w.heap.size, 2, none⟩ = some (.int .i64 R.vk) := cell_of_row w4 _ 2 _ _ _ r4
  have HK4 : Hid (Kn w4 p c K.1) := H2.out.2.2.later hb4
  have H4 : Hid (Below w.heap.size w w4) := H3.out.1.trans (hb4.mono H3.out.1.size)
  rw [HKK.out] at z0
  clear kf hb4 r4
  go_wp2
  go_ret2
  exact ⟨rfl, H4.out⟩
end Go.Proofs.YtcniebkehekliaaGreatDoor
namespace Go.Proofs.YtcniebkehekliaaGreatDoor
open Go.RowKit Go.Shelf
attribute [local go_sem] Oper.semAt_some
set_option maxRecDepth 100000 in
set_option maxHeartbeats 8000000 in
theorem kind_k6n (R : XR) (b : Bool) (K : List Int × Int) (_hK : K.1.length ≤ 1000) (tw : Bool) (w : World)
    (kk : ∀ W, Below w.heap.size w W → Calls Tryz.prog 18 #[.slice R.kp R.n R.kc, .bool b] W (GivesK W K)) (_kt : ∀ W, Below w.heap.size w W → Calls Tryz.prog 19 #[.slice R.np R.m R.nc] W fun r w' => r = .returned (.bool tw) ∧ Below W.heap.size W w') (he : K.2 = 0) (hk : R.k = 6) (hf : frmB R.k R.n R.m = false) :
    Calls Tryz.prog 8 #[rowX R, .bool b] w fun r w' => r = .returned (.tuple #[.int .i64 (((0, 131) : Int × Int)).1, .int .i64 (((0, 131) : Int × Int)).2]) ∧ Below w.heap.size w w' := by
  have HKK : Hid (R.k = 6) := hk
  clear hk
  obtain ⟨w1, hw1⟩ : ∃ w1, w.alloc (.cells #[.int .i64 R.k, .string R.s, .int .i64 R.vk, .bool R.vb, .int .i64 R.vn, .string R.vs, .slice none 0 0, .slice none 0 0, .slice R.kp R.n R.kc, .slice R.np R.m R.nc] 28) = w1 := ⟨_, rfl⟩
  have hb1 : Below w.heap.size w w1 := by rw [← hw1]; exact (Below.refl _ w).alloc (Nat.le_refl _) _
  have r1 : w1.heap[w.heap.size]? = some (.cells (arrX R) 28 (0, 0)) := by rw [← hw1]; exact heap_alloc_new _ _
  have k1 := kk w1 hb1
  have x8 : w1.cell? ⟨w.heap.size, 8, none⟩ = some (.slice R.kp R.n R.kc) := cell_of_row w1 _ 8 _ _ _ r1
  have l1 := lt_of_row r1
  have HH : Hid (Below w.heap.size w w1 ∧ w1.heap[w.heap.size]? = some (.cells (arrX R) 28 (0, 0))) := ⟨hb1, r1⟩
  unfold rowX
  clear hb1 r1 kk
  go_enter Tryz.func8, Tryz.ntmps8
  go_wp2_with fail
  refine k1.mono ?_
  rintro q w2 ⟨p, c, rfl, hKn, hb2⟩
  have hB2 := HH.out.1.trans (hb2.mono HH.out.1.size)
  have r2 := (hb2.block _ l1).trans HH.out.2
  have y0 : w2.cell? ⟨w.heap.size, 0, none⟩ = some (.int .i64 R.k) := cell_of_row w2 _ 0 _ _ _ r2
  have H2 : Hid (Below w.heap.size w w2 ∧ w2.heap[w.heap.size]? = some (.cells (arrX R) 28 (0, 0)) ∧ Kn w2 p c K.1) := ⟨hB2, r2, hKn⟩
  have H3 : Hid (Below w.heap.size w w2 ∧ w2.heap[w.heap.size]? = some (.cells (arrX R) 28 (0, 0))) := ⟨hB2, r2⟩
  rw [HKK.out] at y0
  clear k1 hKn hb2 x8 hw1 _kt r2 hB2
  have kf := formed_any R w2
  rw [hf] at kf
  unfold rowX at kf
  go_wp2_with (first | (refine wpList_get rfl 28 (.tmp 2) rfl rfl H3.out.2 Tryz.underlying28 rfl info28 ?_; simp only [Act.put, List.setIfInBounds_toArray, List.set_cons_zero, List.set_cons_succ]; unfold arrX) | fail)
  refine kf.mono ?_
  rintro q w4 ⟨rfl, hb4⟩
  have r4 := (hb4.block _ (lt_of_row H3.out.2)).trans H3.out.2
  have z0 : w4.cell? ⟨w.heap.size, 0, none⟩ = some (.int .i64 R.k) := cell_of_row w4 _ 0 _ _ _ r4
  have z1 : w4.cell? ⟨w.heap.size, 1, none⟩ = some (.string R.s) := cell_of_row w4 _ 1 _ _ _ r4
  have z2 : w4.cell? ⟨w.heap.size, 2, none⟩ = some (.int .i64 R.vk) := cell_of_row w4 _ 2 _ _ _ r4
  have HK4 : Hid (Kn w4 p c K.1) := H2.out.2.2.later hb4
  have H4 : Hid (Below w.heap.size w w4) := H3.out.1.trans (hb4.mono H3.out.1.size)
  rw [HKK.out] at z0
  clear kf hb4 r4
  go_wp2
  go_ret2
  exact ⟨rfl, H4.out⟩
set_option maxRecDepth 100000 in
set_option maxHeartbeats 8000000 in
theorem kind_k6y (R : XR) (b : Bool) (K : List Int × Int) (hK : K.1.length ≤ 1000) (tw : Bool) (w : World)
    (kk : ∀ W, Below w.heap.size w W → Calls Tryz.prog 18 #[.slice R.kp R.n R.kc, .bool b] W (GivesK W K)) (_kt : ∀ W, Below w.heap.size w W → Calls Tryz.prog 19 #[.slice R.np R.m R.nc] W fun r w' => r = .returned (.bool tw) ∧ Below W.heap.size W w') (he : K.2 = 0) (hk : R.k = 6) (hf : frmB R.k R.n R.m = true) :
    Calls Tryz.prog 8 #[rowX R, .bool b] w fun r w' => r = .returned (.tuple #[.int .i64 (sidK R.s.data.toList K.1).1, .int .i64 (sidK R.s.data.toList K.1).2]) ∧ Below w.heap.size w w' := by
  have HKK : Hid (R.k = 6) := hk
  clear hk
  obtain ⟨w1, hw1⟩ : ∃ w1, w.alloc (.cells #[.int .i64 R.k, .string R.s, .int .i64 R.vk, .bool R.vb, .int .i64 R.vn, .string R.vs, .slice none 0 0, .slice none 0 0, .slice R.kp R.n R.kc, .slice R.np R.m R.nc] 28) = w1 := ⟨_, rfl⟩
  have hb1 : Below w.heap.size w w1 := by rw [← hw1]; exact (Below.refl _ w).alloc (Nat.le_refl _) _
  have r1 : w1.heap[w.heap.size]? = some (.cells (arrX R) 28 (0, 0)) := by rw [← hw1]; exact heap_alloc_new _ _
  have k1 := kk w1 hb1
  have x8 : w1.cell? ⟨w.heap.size, 8, none⟩ = some (.slice R.kp R.n R.kc) := cell_of_row w1 _ 8 _ _ _ r1
  have l1 := lt_of_row r1
  have HH : Hid (Below w.heap.size w w1 ∧ w1.heap[w.heap.size]? = some (.cells (arrX R) 28 (0, 0))) := ⟨hb1, r1⟩
  unfold rowX
  clear hb1 r1 kk
  go_enter Tryz.func8, Tryz.ntmps8
  go_wp2_with fail
  refine k1.mono ?_
  rintro q w2 ⟨p, c, rfl, hKn, hb2⟩
  have hB2 := HH.out.1.trans (hb2.mono HH.out.1.size)
  have r2 := (hb2.block _ l1).trans HH.out.2
  have y0 : w2.cell? ⟨w.heap.size, 0, none⟩ = some (.int .i64 R.k) := cell_of_row w2 _ 0 _ _ _ r2
  have H2 : Hid (Below w.heap.size w w2 ∧ w2.heap[w.heap.size]? = some (.cells (arrX R) 28 (0, 0)) ∧ Kn w2 p c K.1) := ⟨hB2, r2, hKn⟩
  have H3 : Hid (Below w.heap.size w w2 ∧ w2.heap[w.heap.size]? = some (.cells (arrX R) 28 (0, 0))) := ⟨hB2, r2⟩
  rw [HKK.out] at y0
  clear k1 hKn hb2 x8 hw1 _kt r2 hB2
  have kf := formed_any R w2
  rw [hf] at kf
  unfold rowX at kf
  go_wp2_with (first | (refine wpList_get rfl 28 (.tmp 2) rfl rfl H3.out.2 Tryz.underlying28 rfl info28 ?_; simp only [Act.put, List.setIfInBounds_toArray, List.set_cons_zero, List.set_cons_succ]; unfold arrX) | fail)
  refine kf.mono ?_
  rintro q w4 ⟨rfl, hb4⟩
  have r4 := (hb4.block _ (lt_of_row H3.out.2)).trans H3.out.2
  have z0 : w4.cell? ⟨w.heap.size, 0, none⟩ = some (.int .i64 R.k) := cell_of_row w4 _ 0 _ _ _ r4
  have z1 : w4.cell? ⟨w.heap.size, 1, none⟩ = some (.string R.s) := cell_of_row w4 _ 1 _ _ _ r4
  have z2 : w4.cell? ⟨w.heap.size, 2, none⟩ = some (.int .i64 R.vk) := cell_of_row w4 _ 2 _ _ _ r4
  have HK4 : Hid (Kn w4 p c K.1) := H2.out.2.2.later hb4
  have H4 : Hid (Below w.heap.size w w4) := H3.out.1.trans (hb4.mono H3.out.1.size)
  rw [HKK.out] at z0
  clear kf hb4 r4
  have kc := sidesK_any HK4.out hK R.s
  go_wp2_with fail
  refine kc.mono ?_
  rintro q w5 ⟨rfl, hw5⟩
  have hw5' := hw5.symm
  clear hw5
  subst hw5'
  clear kc
  go_wp2
  go_ret2
  exact ⟨rfl, H4.out⟩
end Go.Proofs.YtcniebkehekliaaGreatDoor
namespace Go.Proofs.YtcniebkehekliaaGreatDoor
open Go.RowKit Go.Shelf
attribute [local go_sem] Oper.semAt_some
set_option maxRecDepth 100000 in
set_option maxHeartbeats 8000000 in
theorem kind_k7y (R : XR) (b : Bool) (K : List Int × Int) (_hK : K.1.length ≤ 1000) (tw : Bool) (w : World)
    (kk : ∀ W, Below w.heap.size w W → Calls Tryz.prog 18 #[.slice R.kp R.n R.kc, .bool b] W (GivesK W K)) (_kt : ∀ W, Below w.heap.size w W → Calls Tryz.prog 19 #[.slice R.np R.m R.nc] W fun r w' => r = .returned (.bool tw) ∧ Below W.heap.size W w') (he : K.2 = 0) (hk : R.k = 7) (hf : frmB R.k R.n R.m = true) :
    Calls Tryz.prog 8 #[rowX R, .bool b] w fun r w' => r = .returned (.tuple #[.int .i64 (((5, 0) : Int × Int)).1, .int .i64 (((5, 0) : Int × Int)).2]) ∧ Below w.heap.size w w' := by
  have HKK : Hid (R.k = 7) := hk
  clear hk
  obtain ⟨w1, hw1⟩ : ∃ w1, w.alloc (.cells #[.int .i64 R.k, .string R.s, .int .i64 R.vk, .bool R.vb, .int .i64 R.vn, .string R.vs, .slice none 0 0, .slice none 0 0, .slice R.kp R.n R.kc, .slice R.np R.m R.nc] 28) = w1 := ⟨_, rfl⟩
  have hb1 : Below w.heap.size w w1 := by rw [← hw1]; exact (Below.refl _ w).alloc (Nat.le_refl _) _
  have r1 : w1.heap[w.heap.size]? = some (.cells (arrX R) 28 (0, 0)) := by rw [← hw1]; exact heap_alloc_new _ _
  have k1 := kk w1 hb1
  have x8 : w1.cell? ⟨w.heap.size, 8, none⟩ = some (.slice R.kp R.n R.kc) := cell_of_row w1 _ 8 _ _ _ r1
  have l1 := lt_of_row r1
  have HH : Hid (Below w.heap.size w w1 ∧ w1.heap[w.heap.size]? = some (.cells (arrX R) 28 (0, 0))) := ⟨hb1, r1⟩
  unfold rowX
  clear hb1 r1 kk
  go_enter Tryz.func8, Tryz.ntmps8
  go_wp2_with fail
  refine k1.mono ?_
  rintro q w2 ⟨p, c, rfl, hKn, hb2⟩
  have hB2 := HH.out.1.trans (hb2.mono HH.out.1.size)
  have r2 := (hb2.block _ l1).trans HH.out.2
  have y0 : w2.cell? ⟨w.heap.size, 0, none⟩ = some (.int .i64 R.k) := cell_of_row w2 _ 0 _ _ _ r2
  have H2 : Hid (Below w.heap.size w w2 ∧ w2.heap[w.heap.size]? = some (.cells (arrX R) 28 (0, 0)) ∧ Kn w2 p c K.1) := ⟨hB2, r2, hKn⟩
  have H3 : Hid (Below w.heap.size w w2 ∧ w2.heap[w.heap.size]? = some (.cells (arrX R) 28 (0, 0))) := ⟨hB2, r2⟩
  rw [HKK.out] at y0
  clear k1 hKn hb2 x8 hw1 _kt r2 hB2
  have kf := formed_any R w2
  rw [hf] at kf
  unfold rowX at kf
  go_wp2_with (first | (refine wpList_get rfl 28 (.tmp 2) rfl rfl H3.out.2 Tryz.underlying28 rfl info28 ?_; simp only [Act.put, List.setIfInBounds_toArray, List.set_cons_zero, List.set_cons_succ]; unfold arrX) | fail)
  refine kf.mono ?_
  rintro q w4 ⟨rfl, hb4⟩
  have r4 := (hb4.block _ (lt_of_row H3.out.2)).trans H3.out.2
  have z0 : w4.cell? ⟨w.heap.size, 0, none⟩ = some (.int .i64 R.k) := cell_of_row w4 _ 0 _ _ _ r4
  have z1 : w4.cell? ⟨w.heap.size, 1, none⟩ = some (.string R.s) := cell_of_row w4 _ 1 _ _ _ r4
  have z2 : w4.cell? ⟨w.heap.size, 2, none⟩ = some (.int .i64 R.vk) := cell_of_row w4 _ 2 _ _ _ r4
  have HK4 : Hid (Kn w4 p c K.1) := H2.out.2.2.later hb4
  have H4 : Hid (Below w.heap.size w w4) := H3.out.1.trans (hb4.mono H3.out.1.size)
  rw [HKK.out] at z0
  clear kf hb4 r4
  go_wp2
  go_ret2
  exact ⟨rfl, H4.out⟩
end Go.Proofs.YtcniebkehekliaaGreatDoor
namespace Go.Proofs.YtcniebkehekliaaGreatDoor
open Go.RowKit Go.Shelf
attribute [local go_sem] Oper.semAt_some
set_option maxRecDepth 100000 in
set_option maxHeartbeats 8000000 in
theorem kind_k8n (R : XR) (b : Bool) (K : List Int × Int) (_hK : K.1.length ≤ 1000) (tw : Bool) (w : World)
    (kk : ∀ W, Below w.heap.size w W → Calls Tryz.prog 18 #[.slice R.kp R.n R.kc, .bool b] W (GivesK W K)) (kt : ∀ W, Below w.heap.size w W → Calls Tryz.prog 19 #[.slice R.np R.m R.nc] W fun r w' => r = .returned (.bool tw) ∧ Below W.heap.size W w') (he : K.2 = 0) (hk : R.k = 8) (ht : tw = false) (hf : frmB R.k R.n R.m = false) :
    Calls Tryz.prog 8 #[rowX R, .bool b] w fun r w' => r = .returned (.tuple #[.int .i64 (((0, 131) : Int × Int)).1, .int .i64 (((0, 131) : Int × Int)).2]) ∧ Below w.heap.size w w' := by
  have HKK : Hid (R.k = 8) := hk
  clear hk
  obtain ⟨w1, hw1⟩ : ∃ w1, w.alloc (.cells #[.int .i64 R.k, .string R.s, .int .i64 R.vk, .bool R.vb, .int .i64 R.vn, .string R.vs, .slice none 0 0, .slice none 0 0, .slice R.kp R.n R.kc, .slice R.np R.m R.nc] 28) = w1 := ⟨_, rfl⟩
  have hb1 : Below w.heap.size w w1 := by rw [← hw1]; exact (Below.refl _ w).alloc (Nat.le_refl _) _
  have r1 : w1.heap[w.heap.size]? = some (.cells (arrX R) 28 (0, 0)) := by rw [← hw1]; exact heap_alloc_new _ _
  have k1 := kk w1 hb1
  have x8 : w1.cell? ⟨w.heap.size, 8, none⟩ = some (.slice R.kp R.n R.kc) := cell_of_row w1 _ 8 _ _ _ r1
  have l1 := lt_of_row r1
  have HH : Hid (Below w.heap.size w w1 ∧ w1.heap[w.heap.size]? = some (.cells (arrX R) 28 (0, 0))) := ⟨hb1, r1⟩
  unfold rowX
  clear hb1 r1 kk
  go_enter Tryz.func8, Tryz.ntmps8
  go_wp2_with fail
  refine k1.mono ?_
  rintro q w2 ⟨p, c, rfl, hKn, hb2⟩
  have hB2 := HH.out.1.trans (hb2.mono HH.out.1.size)
  have r2 := (hb2.block _ l1).trans HH.out.2
  have y0 : w2.cell? ⟨w.heap.size, 0, none⟩ = some (.int .i64 R.k) := cell_of_row w2 _ 0 _ _ _ r2
  have H2 : Hid (Below w.heap.size w w2 ∧ w2.heap[w.heap.size]? = some (.cells (arrX R) 28 (0, 0)) ∧ Kn w2 p c K.1) := ⟨hB2, r2, hKn⟩
  have y9 : w2.cell? ⟨w.heap.size, 9, none⟩ = some (.slice R.np R.m R.nc) := cell_of_row w2 _ 9 _ _ _ r2
  have k2 := kt w2 hB2
  rw [ht] at k2
  rw [HKK.out] at y0
  clear k1 hKn hb2 x8 hw1 kt r2 hB2 ht
  go_wp2_with fail
  refine k2.mono ?_
  rintro q w2b ⟨rfl, hb3⟩
  have H3 : Hid (Below w.heap.size w w2b ∧ w2b.heap[w.heap.size]? = some (.cells (arrX R) 28 (0, 0))) := ⟨H2.out.1.trans (hb3.mono H2.out.1.size), (hb3.block _ (lt_of_row H2.out.2.1)).trans H2.out.2.1⟩
  clear k2 hb3
  have kf := formed_any R w2b
  rw [hf] at kf
  unfold rowX at kf
  go_wp2_with (first | (refine wpList_get rfl 28 (.tmp 2) rfl rfl H3.out.2 Tryz.underlying28 rfl info28 ?_; simp only [Act.put, List.setIfInBounds_toArray, List.set_cons_zero, List.set_cons_succ]; unfold arrX) | fail)
  refine kf.mono ?_
  rintro q w4 ⟨rfl, hb4⟩
  have r4 := (hb4.block _ (lt_of_row H3.out.2)).trans H3.out.2
  have z0 : w4.cell? ⟨w.heap.size, 0, none⟩ = some (.int .i64 R.k) := cell_of_row w4 _ 0 _ _ _ r4
  have z1 : w4.cell? ⟨w.heap.size, 1, none⟩ = some (.string R.s) := cell_of_row w4 _ 1 _ _ _ r4
  have z2 : w4.cell? ⟨w.heap.size, 2, none⟩ = some (.int .i64 R.vk) := cell_of_row w4 _ 2 _ _ _ r4
  have H4 : Hid (Below w.heap.size w w4) := H3.out.1.trans (hb4.mono H3.out.1.size)
  rw [HKK.out] at z0
  clear kf hb4 r4
  go_wp2
  go_ret2
  exact ⟨rfl, H4.out⟩
set_option maxRecDepth 100000 in
set_option maxHeartbeats 8000000 in
theorem kind_k8y (R : XR) (b : Bool) (K : List Int × Int) (_hK : K.1.length ≤ 1000) (tw : Bool) (w : World)
    (kk : ∀ W, Below w.heap.size w W → Calls Tryz.prog 18 #[.slice R.kp R.n R.kc, .bool b] W (GivesK W K)) (kt : ∀ W, Below w.heap.size w W → Calls Tryz.prog 19 #[.slice R.np R.m R.nc] W fun r w' => r = .returned (.bool tw) ∧ Below W.heap.size W w') (he : K.2 = 0) (hk : R.k = 8) (ht : tw = false) (hf : frmB R.k R.n R.m = true) :
    Calls Tryz.prog 8 #[rowX R, .bool b] w fun r w' => r = .returned (.tuple #[.int .i64 (((6, 0) : Int × Int)).1, .int .i64 (((6, 0) : Int × Int)).2]) ∧ Below w.heap.size w w' := by
  have HKK : Hid (R.k = 8) := hk
  clear hk
  obtain ⟨w1, hw1⟩ : ∃ w1, w.alloc (.cells #[.int .i64 R.k, .string R.s, .int .i64 R.vk, .bool R.vb, .int .i64 R.vn, .string R.vs, .slice none 0 0, .slice none 0 0, .slice R.kp R.n R.kc, .slice R.np R.m R.nc] 28) = w1 := ⟨_, rfl⟩
  have hb1 : Below w.heap.size w w1 := by rw [← hw1]; exact (Below.refl _ w).alloc (Nat.le_refl _) _
  have r1 : w1.heap[w.heap.size]? = some (.cells (arrX R) 28 (0, 0)) := by rw [← hw1]; exact heap_alloc_new _ _
  have k1 := kk w1 hb1
  have x8 : w1.cell? ⟨w.heap.size, 8, none⟩ = some (.slice R.kp R.n R.kc) := cell_of_row w1 _ 8 _ _ _ r1
  have l1 := lt_of_row r1
  have HH : Hid (Below w.heap.size w w1 ∧ w1.heap[w.heap.size]? = some (.cells (arrX R) 28 (0, 0))) := ⟨hb1, r1⟩
  unfold rowX
  clear hb1 r1 kk
  go_enter Tryz.func8, Tryz.ntmps8
  go_wp2_with fail
  refine k1.mono ?_
  rintro q w2 ⟨p, c, rfl, hKn, hb2⟩
  have hB2 := HH.out.1.trans (hb2.mono HH.out.1.size)
  have r2 := (hb2.block _ l1).trans HH.out.2
  have y0 : w2.cell? ⟨w.heap.size, 0, none⟩ = some (.int .i64 R.k) := cell_of_row w2 _ 0 _ _ _ r2
  have H2 : Hid (Below w.heap.size w w2 ∧ w2.heap[w.heap.size]? = some (.cells (arrX R) 28 (0, 0)) ∧ Kn w2 p c K.1) := ⟨hB2, r2, hKn⟩
  have y9 : w2.cell? ⟨w.heap.size, 9, none⟩ = some (.slice R.np R.m R.nc) := cell_of_row w2 _ 9 _ _ _ r2
  have k2 := kt w2 hB2
  rw [ht] at k2
  rw [HKK.out] at y0
  clear k1 hKn hb2 x8 hw1 kt r2 hB2 ht
  go_wp2_with fail
  refine k2.mono ?_
  rintro q w2b ⟨rfl, hb3⟩
  have H3 : Hid (Below w.heap.size w w2b ∧ w2b.heap[w.heap.size]? = some (.cells (arrX R) 28 (0, 0))) := ⟨H2.out.1.trans (hb3.mono H2.out.1.size), (hb3.block _ (lt_of_row H2.out.2.1)).trans H2.out.2.1⟩
  clear k2 hb3
  have kf := formed_any R w2b
  rw [hf] at kf
  unfold rowX at kf
  go_wp2_with (first | (refine wpList_get rfl 28 (.tmp 2) rfl rfl H3.out.2 Tryz.underlying28 rfl info28 ?_; simp only [Act.put, List.setIfInBounds_toArray, List.set_cons_zero, List.set_cons_succ]; unfold arrX) | fail)
  refine kf.mono ?_
  rintro q w4 ⟨rfl, hb4⟩
  have r4 := (hb4.block _ (lt_of_row H3.out.2)).trans H3.out.2
  have z0 : w4.cell? ⟨w.heap.size, 0, none⟩ = some (.int .i64 R.k) := cell_of_row w4 _ 0 _ _ _ r4
  have z1 : w4.cell? ⟨w.heap.size, 1, none⟩ = some (.string R.s) := cell_of_row w4 _ 1 _ _ _ r4
  have z2 : w4.cell? ⟨w.heap.size, 2, none⟩ = some (.int .i64 R.vk) := cell_of_row w4 _ 2 _ _ _ r4
  have H4 : Hid (Below w.heap.size w w4) := H3.out.1.trans (hb4.mono H3.out.1.size)
  rw [HKK.out] at z0
  clear kf hb4 r4
  go_wp2
  go_ret2
  exact ⟨rfl, H4.out⟩
end Go.Proofs.YtcniebkehekliaaGreatDoor
namespace Go.Proofs.YtcniebkehekliaaGreatDoor
open Go.RowKit Go.Shelf
attribute [local go_sem] Oper.semAt_some
set_option maxRecDepth 100000 in
set_option maxHeartbeats 8000000 in
theorem kind_other (R : XR) (b : Bool) (K : List Int × Int) (_hK : K.1.length ≤ 1000) (tw : Bool) (w : World)
    (kk : ∀ W, Below w.heap.size w W → Calls Tryz.prog 18 #[.slice R.kp R.n R.kc, .bool b] W (GivesK W K)) (_kt : ∀ W, Below w.heap.size w W → Calls Tryz.prog 19 #[.slice R.np R.m R.nc] W fun r w' => r = .returned (.bool tw) ∧ Below W.heap.size W w') (he : K.2 = 0) (h1 : ¬ R.k = 1) (h2 : ¬ R.k = 2) (h3 : ¬ R.k = 3) (h4 : ¬ R.k = 4) (h5 : ¬ R.k = 5) (h6 : ¬ R.k = 6) (h7 : ¬ R.k = 7) (h8 : ¬ R.k = 8) (hf : frmB R.k R.n R.m = true) :
    Calls Tryz.prog 8 #[rowX R, .bool b] w fun r w' => r = .returned (.tuple #[.int .i64 (((0, 131) : Int × Int)).1, .int .i64 (((0, 131) : Int × Int)).2]) ∧ Below w.heap.size w w' := by
  obtain ⟨w1, hw1⟩ : ∃ w1, w.alloc (.cells #[.int .i64 R.k, .string R.s, .int .i64 R.vk, .bool R.vb, .int .i64 R.vn, .string R.vs, .slice none 0 0, .slice none 0 0, .slice R.kp R.n R.kc, .slice R.np R.m R.nc] 28) = w1 := ⟨_, rfl⟩
  have hb1 : Below w.heap.size w w1 := by rw [← hw1]; exact (Below.refl _ w).alloc (Nat.le_refl _) _
  have r1 : w1.heap[w.heap.size]? = some (.cells (arrX R) 28 (0, 0)) := by rw [← hw1]; exact heap_alloc_new _ _
  have k1 := kk w1 hb1
  have x8 : w1.cell? ⟨w.heap.size, 8, none⟩ = some (.slice R.kp R.n R.kc) := cell_of_row w1 _ 8 _ _ _ r1
  have l1 := lt_of_row r1
  have HH : Hid (Below w.heap.size w w1 ∧ w1.heap[w.heap.size]? = some (.cells (arrX R) 28 (0, 0))) := ⟨hb1, r1⟩
  unfold rowX
  clear hb1 r1 kk
  go_enter Tryz.func8, Tryz.ntmps8
  go_wp2_with fail
  refine k1.mono ?_
  rintro q w2 ⟨p, c, rfl, hKn, hb2⟩
  have hB2 := HH.out.1.trans (hb2.mono HH.out.1.size)
  have r2 := (hb2.block _ l1).trans HH.out.2
  have y0 : w2.cell? ⟨w.heap.size, 0, none⟩ = some (.int .i64 R.k) := cell_of_row w2 _ 0 _ _ _ r2
  have H2 : Hid (Below w.heap.size w w2 ∧ w2.heap[w.heap.size]? = some (.cells (arrX R) 28 (0, 0)) ∧ Kn w2 p c K.1) := ⟨hB2, r2, hKn⟩
  have H3 : Hid (Below w.heap.size w w2 ∧ w2.heap[w.heap.size]? = some (.cells (arrX R) 28 (0, 0))) := ⟨hB2, r2⟩
  have k8 : (R.k == 8) = false := by simpa using h8
  clear k1 hKn hb2 x8 hw1 _kt r2 hB2
  have kf := formed_any R w2
  rw [hf] at kf
  unfold rowX at kf
  go_wp2_with (first | (refine wpList_get rfl 28 (.tmp 2) rfl rfl H3.out.2 Tryz.underlying28 rfl info28 ?_; simp only [Act.put, List.setIfInBounds_toArray, List.set_cons_zero, List.set_cons_succ]; unfold arrX) | fail)
  refine kf.mono ?_
  rintro q w4 ⟨rfl, hb4⟩
  have r4 := (hb4.block _ (lt_of_row H3.out.2)).trans H3.out.2
  have z0 : w4.cell? ⟨w.heap.size, 0, none⟩ = some (.int .i64 R.k) := cell_of_row w4 _ 0 _ _ _ r4
  have z1 : w4.cell? ⟨w.heap.size, 1, none⟩ = some (.string R.s) := cell_of_row w4 _ 1 _ _ _ r4
  have z2 : w4.cell? ⟨w.heap.size, 2, none⟩ = some (.int .i64 R.vk) := cell_of_row w4 _ 2 _ _ _ r4
  have H4 : Hid (Below w.heap.size w w4) := H3.out.1.trans (hb4.mono H3.out.1.size)
  skip
  clear kf hb4 r4
  go_wp2
  go_ret2
  exact ⟨rfl, H4.out⟩
end Go.Proofs.YtcniebkehekliaaGreatDoor
