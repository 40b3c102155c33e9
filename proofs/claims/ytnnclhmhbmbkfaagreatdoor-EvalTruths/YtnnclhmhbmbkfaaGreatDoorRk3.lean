/- What expressions count as (truth), and AND and OR (joined). -/
import Derived.Test.YtnnclhmhbmbkfaaGreatDoorRk2
namespace Go.Proofs.YtnnclhmhbmbkfaaGreatDoor
open Go.RowKit Go.Shelf
attribute [local go_sem] Oper.semAt_some
set_option maxRecDepth 100000 in
set_option maxHeartbeats 4000000 in
theorem truth_ok (xk : Int) (xs : ByteArray) (vk : Int) (vb : Bool) (vn : Int) (vs : ByteArray) (kp : Option Addr) (kn kc : Nat) (np : Option Addr) (m nc : Nat) (y : Lf) (dk : Int) (db : Bool) (dn : Int) (ds : ByteArray) (dp : Option Addr) (dm dc : Nat) (dq : Option Addr) (dl de : Nat) (w : World) (hr : ∀ W, Below w.heap.size w W → Calls Tryz.prog 21 #[.agg #[.int .i64 xk, .string xs, .int .i64 vk, .bool vb, .int .i64 vn, .string vs, .slice none 0 0, .slice none 0 0, .slice kp kn kc, .slice np m nc], .agg #[.int .i64 dk, .bool db, .int .i64 dn, .string ds, .slice dp dm dc, .slice dq dl de]] W fun r W' => r = .returned (.tuple #[.agg #[.int .i64 y.k, .bool y.b, .int .i64 y.n, .string y.s, .slice y.p 0 y.pc, .slice y.q 0 y.qc], .int .i64 0]) ∧ Below W.heap.size W W') :
    Calls Tryz.prog 30 #[.agg #[.int .i64 xk, .string xs, .int .i64 vk, .bool vb, .int .i64 vn, .string vs, .slice none 0 0, .slice none 0 0, .slice kp kn kc, .slice np m nc], .agg #[.int .i64 dk, .bool db, .int .i64 dn, .string ds, .slice dp dm dc, .slice dq dl de]] w fun r w' => r = .returned (.tuple #[.bool (trB y.k y.b), .int .i64 (trE y.k)]) ∧ Below w.heap.size w w' := by
  have kt := truth_val y
  change ∀ W, Calls Tryz.prog 51 #[.agg #[.int .i64 y.k, .bool y.b, .int .i64 y.n, .string y.s, .slice y.p 0 y.pc, .slice y.q 0 y.qc]] W _ at kt
  obtain ⟨B, hB⟩ : ∃ B, trB y.k y.b = B := ⟨_, rfl⟩
  obtain ⟨E, hE⟩ : ∃ E, trE y.k = E := ⟨_, rfl⟩
  rw [hB, hE] at kt ⊢
  obtain ⟨w3, hw3⟩ : ∃ u, ((w.alloc (.cells #[.int .i64 xk, .string xs, .int .i64 vk, .bool vb, .int .i64 vn, .string vs, .slice none 0 0, .slice none 0 0, .slice kp kn kc, .slice np m nc] 28)).alloc (.cells #[.int .i64 dk, .bool db, .int .i64 dn, .string ds, .slice dp dm dc, .slice dq dl de] 25)) = u := ⟨_, rfl⟩
  obtain ⟨rw30, rw31, bw3⟩ := alloc2 hw3
  have HWw3 := mkHid hw3
  have kr := hr w3 bw3
  have cx0 : w3.cell? ⟨w.heap.size, 0, none⟩ = some (.int .i64 xk) := cell_of_row w3 _ 0 _ _ _ rw30
  have cx1 : w3.cell? ⟨w.heap.size, 1, none⟩ = some (.string xs) := cell_of_row w3 _ 1 _ _ _ rw30
  have cx2 : w3.cell? ⟨w.heap.size, 2, none⟩ = some (.int .i64 vk) := cell_of_row w3 _ 2 _ _ _ rw30
  have cx3 : w3.cell? ⟨w.heap.size, 3, none⟩ = some (.bool vb) := cell_of_row w3 _ 3 _ _ _ rw30
  have cx4 : w3.cell? ⟨w.heap.size, 4, none⟩ = some (.int .i64 vn) := cell_of_row w3 _ 4 _ _ _ rw30
  have cx5 : w3.cell? ⟨w.heap.size, 5, none⟩ = some (.string vs) := cell_of_row w3 _ 5 _ _ _ rw30
  have cx6 : w3.cell? ⟨w.heap.size, 6, none⟩ = some (.slice none 0 0) := cell_of_row w3 _ 6 _ _ _ rw30
  have cx7 : w3.cell? ⟨w.heap.size, 7, none⟩ = some (.slice none 0 0) := cell_of_row w3 _ 7 _ _ _ rw30
  have cx8 : w3.cell? ⟨w.heap.size, 8, none⟩ = some (.slice kp kn kc) := cell_of_row w3 _ 8 _ _ _ rw30
  have cx9 : w3.cell? ⟨w.heap.size, 9, none⟩ = some (.slice np m nc) := cell_of_row w3 _ 9 _ _ _ rw30
  have cd0 : w3.cell? ⟨w.heap.size + 1, 0, none⟩ = some (.int .i64 dk) := cell_of_row w3 _ 0 _ _ _ rw31
  have cd1 : w3.cell? ⟨w.heap.size + 1, 1, none⟩ = some (.bool db) := cell_of_row w3 _ 1 _ _ _ rw31
  have cd2 : w3.cell? ⟨w.heap.size + 1, 2, none⟩ = some (.int .i64 dn) := cell_of_row w3 _ 2 _ _ _ rw31
  have cd3 : w3.cell? ⟨w.heap.size + 1, 3, none⟩ = some (.string ds) := cell_of_row w3 _ 3 _ _ _ rw31
  have cd4 : w3.cell? ⟨w.heap.size + 1, 4, none⟩ = some (.slice dp dm dc) := cell_of_row w3 _ 4 _ _ _ rw31
  have cd5 : w3.cell? ⟨w.heap.size + 1, 5, none⟩ = some (.slice dq dl de) := cell_of_row w3 _ 5 _ _ _ rw31
  have aR : Hid (w3.heap[w.heap.size]? = some (.cells #[.int .i64 xk, .string xs, .int .i64 vk, .bool vb, .int .i64 vn, .string vs, .slice none 0 0, .slice none 0 0, .slice kp kn kc, .slice np m nc] 28 (0, 0)) ∧ w3.heap[w.heap.size + 1]? = some (.cells #[.int .i64 dk, .bool db, .int .i64 dn, .string ds, .slice dp dm dc, .slice dq dl de] 25 (0, 0)) ∧ Below w.heap.size w w3) := ⟨rw30, rw31, bw3⟩
  clear hw3 rw30 rw31 bw3 hB hE hr
  go_enter Tryz.func30, Tryz.ntmps30
  go_wp2_with (first | rw [HWw3.out] | fail)
  refine kr.mono ?_
  rintro r w4 ⟨rfl, hb4⟩
  have bR : Hid (w4.heap[w.heap.size]? = some (.cells #[.int .i64 xk, .string xs, .int .i64 vk, .bool vb, .int .i64 vn, .string vs, .slice none 0 0, .slice none 0 0, .slice kp kn kc, .slice np m nc] 28 (0, 0)) ∧ w4.heap[w.heap.size + 1]? = some (.cells #[.int .i64 dk, .bool db, .int .i64 dn, .string ds, .slice dp dm dc, .slice dq dl de] 25 (0, 0)) ∧ Below w.heap.size w w4) := ⟨Below.row hb4 aR.out.1, Below.row hb4 aR.out.2.1, aR.out.2.2.trans (hb4.mono aR.out.2.2.size)⟩
  obtain ⟨w5, hw5⟩ : ∃ w5, w4.alloc (.cells #[.int .i64 y.k, .bool y.b, .int .i64 y.n, .string y.s, .slice y.p 0 y.pc, .slice y.q 0 y.qc] 25) = w5 := ⟨_, rfl⟩
  have hb5 : Below w4.heap.size w4 w5 := by rw [← hw5]; exact (Below.refl _ w4).alloc (Nat.le_refl _) _
  have ry : w5.heap[w4.heap.size]? = some (.cells #[.int .i64 y.k, .bool y.b, .int .i64 y.n, .string y.s, .slice y.p 0 y.pc, .slice y.q 0 y.qc] 25 (0, 0)) := by rw [← hw5]; exact heap_alloc_new _ _
  have ey0 : w5.cell? ⟨w4.heap.size, 0, none⟩ = some (.int .i64 y.k) := cell_of_row w5 _ 0 _ _ _ ry
  have ey1 : w5.cell? ⟨w4.heap.size, 1, none⟩ = some (.bool y.b) := cell_of_row w5 _ 1 _ _ _ ry
  have ey2 : w5.cell? ⟨w4.heap.size, 2, none⟩ = some (.int .i64 y.n) := cell_of_row w5 _ 2 _ _ _ ry
  have ey3 : w5.cell? ⟨w4.heap.size, 3, none⟩ = some (.string y.s) := cell_of_row w5 _ 3 _ _ _ ry
  have ey4 : w5.cell? ⟨w4.heap.size, 4, none⟩ = some (.slice y.p 0 y.pc) := cell_of_row w5 _ 4 _ _ _ ry
  have ey5 : w5.cell? ⟨w4.heap.size, 5, none⟩ = some (.slice y.q 0 y.qc) := cell_of_row w5 _ 5 _ _ _ ry
  have HW5 : Hid (w4.alloc (.cells #[.int .i64 y.k, .bool y.b, .int .i64 y.n, .string y.s, .slice y.p 0 y.pc, .slice y.q 0 y.qc] 25) = w5) := hw5
  have H5 : Hid (Below w.heap.size w w5) := bR.out.2.2.trans (hb5.mono bR.out.2.2.size)
  clear aR bR hb4 kr cx0 cx1 cx2 cx3 cx4 cx5 cx6 cx7 cx8 cx9 cd0 cd1 cd2 cd3 cd4 cd5 HWw3 hw5 hb5 ry
  go_wp2_with (first | rw [HW5.out] | fail)
  refine (kt _).mono ?_
  rintro r w6 ⟨rfl, hb6⟩
  have H6 : Hid (Below w.heap.size w w6) := H5.out.trans (hb6.mono H5.out.size)
  go_wp2
  go_ret2
  exact ⟨rfl, H6.out⟩
set_option maxRecDepth 100000 in
set_option maxHeartbeats 4000000 in
theorem truth_fails (xk : Int) (xs : ByteArray) (vk : Int) (vb : Bool) (vn : Int) (vs : ByteArray) (kp : Option Addr) (kn kc : Nat) (np : Option Addr) (m nc : Nat) (y : Lf) (e : Int) (he : (e == 0) = false) (dk : Int) (db : Bool) (dn : Int) (ds : ByteArray) (dp : Option Addr) (dm dc : Nat) (dq : Option Addr) (dl de : Nat) (w : World) (hr : ∀ W, Below w.heap.size w W → Calls Tryz.prog 21 #[.agg #[.int .i64 xk, .string xs, .int .i64 vk, .bool vb, .int .i64 vn, .string vs, .slice none 0 0, .slice none 0 0, .slice kp kn kc, .slice np m nc], .agg #[.int .i64 dk, .bool db, .int .i64 dn, .string ds, .slice dp dm dc, .slice dq dl de]] W fun r W' => r = .returned (.tuple #[.agg #[.int .i64 y.k, .bool y.b, .int .i64 y.n, .string y.s, .slice y.p 0 y.pc, .slice y.q 0 y.qc], .int .i64 e]) ∧ Below W.heap.size W W') :
    Calls Tryz.prog 30 #[.agg #[.int .i64 xk, .string xs, .int .i64 vk, .bool vb, .int .i64 vn, .string vs, .slice none 0 0, .slice none 0 0, .slice kp kn kc, .slice np m nc], .agg #[.int .i64 dk, .bool db, .int .i64 dn, .string ds, .slice dp dm dc, .slice dq dl de]] w fun r w' => r = .returned (.tuple #[.bool false, .int .i64 e]) ∧ Below w.heap.size w w' := by
  have kt := truth_val y
  change ∀ W, Calls Tryz.prog 51 #[.agg #[.int .i64 y.k, .bool y.b, .int .i64 y.n, .string y.s, .slice y.p 0 y.pc, .slice y.q 0 y.qc]] W _ at kt
  obtain ⟨B, hB⟩ : ∃ B, trB y.k y.b = B := ⟨_, rfl⟩
  obtain ⟨E, hE⟩ : ∃ E, trE y.k = E := ⟨_, rfl⟩
  rw [hB, hE] at kt
  obtain ⟨w3, hw3⟩ : ∃ u, ((w.alloc (.cells #[.int .i64 xk, .string xs, .int .i64 vk, .bool vb, .int .i64 vn, .string vs, .slice none 0 0, .slice none 0 0, .slice kp kn kc, .slice np m nc] 28)).alloc (.cells #[.int .i64 dk, .bool db, .int .i64 dn, .string ds, .slice dp dm dc, .slice dq dl de] 25)) = u := ⟨_, rfl⟩
  obtain ⟨rw30, rw31, bw3⟩ := alloc2 hw3
  have HWw3 := mkHid hw3
  have kr := hr w3 bw3
  have cx0 : w3.cell? ⟨w.heap.size, 0, none⟩ = some (.int .i64 xk) := cell_of_row w3 _ 0 _ _ _ rw30
  have cx1 : w3.cell? ⟨w.heap.size, 1, none⟩ = some (.string xs) := cell_of_row w3 _ 1 _ _ _ rw30
  have cx2 : w3.cell? ⟨w.heap.size, 2, none⟩ = some (.int .i64 vk) := cell_of_row w3 _ 2 _ _ _ rw30
  have cx3 : w3.cell? ⟨w.heap.size, 3, none⟩ = some (.bool vb) := cell_of_row w3 _ 3 _ _ _ rw30
  have cx4 : w3.cell? ⟨w.heap.size, 4, none⟩ = some (.int .i64 vn) := cell_of_row w3 _ 4 _ _ _ rw30
  have cx5 : w3.cell? ⟨w.heap.size, 5, none⟩ = some (.string vs) := cell_of_row w3 _ 5 _ _ _ rw30
  have cx6 : w3.cell? ⟨w.heap.size, 6, none⟩ = some (.slice none 0 0) := cell_of_row w3 _ 6 _ _ _ rw30
  have cx7 : w3.cell? ⟨w.heap.size, 7, none⟩ = some (.slice none 0 0) := cell_of_row w3 _ 7 _ _ _ rw30
  have cx8 : w3.cell? ⟨w.heap.size, 8, none⟩ = some (.slice kp kn kc) := cell_of_row w3 _ 8 _ _ _ rw30
  have cx9 : w3.cell? ⟨w.heap.size, 9, none⟩ = some (.slice np m nc) := cell_of_row w3 _ 9 _ _ _ rw30
  have cd0 : w3.cell? ⟨w.heap.size + 1, 0, none⟩ = some (.int .i64 dk) := cell_of_row w3 _ 0 _ _ _ rw31
  have cd1 : w3.cell? ⟨w.heap.size + 1, 1, none⟩ = some (.bool db) := cell_of_row w3 _ 1 _ _ _ rw31
  have cd2 : w3.cell? ⟨w.heap.size + 1, 2, none⟩ = some (.int .i64 dn) := cell_of_row w3 _ 2 _ _ _ rw31
  have cd3 : w3.cell? ⟨w.heap.size + 1, 3, none⟩ = some (.string ds) := cell_of_row w3 _ 3 _ _ _ rw31
  have cd4 : w3.cell? ⟨w.heap.size + 1, 4, none⟩ = some (.slice dp dm dc) := cell_of_row w3 _ 4 _ _ _ rw31
  have cd5 : w3.cell? ⟨w.heap.size + 1, 5, none⟩ = some (.slice dq dl de) := cell_of_row w3 _ 5 _ _ _ rw31
  have aR : Hid (w3.heap[w.heap.size]? = some (.cells #[.int .i64 xk, .string xs, .int .i64 vk, .bool vb, .int .i64 vn, .string vs, .slice none 0 0, .slice none 0 0, .slice kp kn kc, .slice np m nc] 28 (0, 0)) ∧ w3.heap[w.heap.size + 1]? = some (.cells #[.int .i64 dk, .bool db, .int .i64 dn, .string ds, .slice dp dm dc, .slice dq dl de] 25 (0, 0)) ∧ Below w.heap.size w w3) := ⟨rw30, rw31, bw3⟩
  clear hw3 rw30 rw31 bw3 hB hE hr
  go_enter Tryz.func30, Tryz.ntmps30
  go_wp2_with (first | rw [HWw3.out] | fail)
  refine kr.mono ?_
  rintro r w4 ⟨rfl, hb4⟩
  have bR : Hid (w4.heap[w.heap.size]? = some (.cells #[.int .i64 xk, .string xs, .int .i64 vk, .bool vb, .int .i64 vn, .string vs, .slice none 0 0, .slice none 0 0, .slice kp kn kc, .slice np m nc] 28 (0, 0)) ∧ w4.heap[w.heap.size + 1]? = some (.cells #[.int .i64 dk, .bool db, .int .i64 dn, .string ds, .slice dp dm dc, .slice dq dl de] 25 (0, 0)) ∧ Below w.heap.size w w4) := ⟨Below.row hb4 aR.out.1, Below.row hb4 aR.out.2.1, aR.out.2.2.trans (hb4.mono aR.out.2.2.size)⟩
  obtain ⟨w5, hw5⟩ : ∃ w5, w4.alloc (.cells #[.int .i64 y.k, .bool y.b, .int .i64 y.n, .string y.s, .slice y.p 0 y.pc, .slice y.q 0 y.qc] 25) = w5 := ⟨_, rfl⟩
  have hb5 : Below w4.heap.size w4 w5 := by rw [← hw5]; exact (Below.refl _ w4).alloc (Nat.le_refl _) _
  have ry : w5.heap[w4.heap.size]? = some (.cells #[.int .i64 y.k, .bool y.b, .int .i64 y.n, .string y.s, .slice y.p 0 y.pc, .slice y.q 0 y.qc] 25 (0, 0)) := by rw [← hw5]; exact heap_alloc_new _ _
  have ey0 : w5.cell? ⟨w4.heap.size, 0, none⟩ = some (.int .i64 y.k) := cell_of_row w5 _ 0 _ _ _ ry
  have ey1 : w5.cell? ⟨w4.heap.size, 1, none⟩ = some (.bool y.b) := cell_of_row w5 _ 1 _ _ _ ry
  have ey2 : w5.cell? ⟨w4.heap.size, 2, none⟩ = some (.int .i64 y.n) := cell_of_row w5 _ 2 _ _ _ ry
  have ey3 : w5.cell? ⟨w4.heap.size, 3, none⟩ = some (.string y.s) := cell_of_row w5 _ 3 _ _ _ ry
  have ey4 : w5.cell? ⟨w4.heap.size, 4, none⟩ = some (.slice y.p 0 y.pc) := cell_of_row w5 _ 4 _ _ _ ry
  have ey5 : w5.cell? ⟨w4.heap.size, 5, none⟩ = some (.slice y.q 0 y.qc) := cell_of_row w5 _ 5 _ _ _ ry
  have HW5 : Hid (w4.alloc (.cells #[.int .i64 y.k, .bool y.b, .int .i64 y.n, .string y.s, .slice y.p 0 y.pc, .slice y.q 0 y.qc] 25) = w5) := hw5
  have H5 : Hid (Below w.heap.size w w5) := bR.out.2.2.trans (hb5.mono bR.out.2.2.size)
  clear aR bR hb4 kr cx0 cx1 cx2 cx3 cx4 cx5 cx6 cx7 cx8 cx9 cd0 cd1 cd2 cd3 cd4 cd5 HWw3 hw5 hb5 ry
  go_wp2_with (first | rw [HW5.out] | fail)
  go_ret2
  exact ⟨rfl, H5.out⟩
set_option maxRecDepth 100000 in
set_option maxHeartbeats 8000000 in
theorem joined_and_all (vk : Int) (vb : Bool) (vn : Int) (vs : ByteArray) (kg ko kc : Nat) (np : Option Addr) (m nc : Nat) (dk : Int) (db : Bool) (dn : Int) (ds : ByteArray) (dp : Option Addr) (dm dc : Nat) (dq : Option Addr) (dl de : Nat) (w : World) (hkg : kg < w.heap.size) (B0 : Bool) (E0 : Int) (pa : XR) (h0 : At10 w kg ko pa) (kz0 : ∀ W, Below w.heap.size w W → Calls Tryz.prog 30 #[.agg #[.int .i64 pa.k, .string pa.s, .int .i64 pa.vk, .bool pa.vb, .int .i64 pa.vn, .string pa.vs, .slice none 0 0, .slice none 0 0, .slice pa.kp pa.n pa.kc, .slice pa.np pa.m pa.nc], .agg #[.int .i64 dk, .bool db, .int .i64 dn, .string ds, .slice dp dm dc, .slice dq dl de]] W fun r W' => r = .returned (.tuple #[.bool B0, .int .i64 E0]) ∧ Below W.heap.size W W') (B1 : Bool) (E1 : Int) (pc : XR) (h1 : At10 w kg (ko + 10) pc) (kz1 : ∀ W, Below w.heap.size w W → Calls Tryz.prog 30 #[.agg #[.int .i64 pc.k, .string pc.s, .int .i64 pc.vk, .bool pc.vb, .int .i64 pc.vn, .string pc.vs, .slice none 0 0, .slice none 0 0, .slice pc.kp pc.n pc.kc, .slice pc.np pc.m pc.nc], .agg #[.int .i64 dk, .bool db, .int .i64 dn, .string ds, .slice dp dm dc, .slice dq dl de]] W fun r W' => r = .returned (.tuple #[.bool B1, .int .i64 E1]) ∧ Below W.heap.size W W') (RB : Bool) (RE : Int) (hcase : (E0 = 131 ∧ B0 = false ∧ RB = false ∧ RE = 131) ∨ (E0 = 0 ∧ B0 = false ∧ RB = false ∧ RE = 0) ∨ (E0 = 0 ∧ B0 = true ∧ RB = B1 ∧ RE = E1)) :
    Calls Tryz.prog 41 #[.agg #[.int .i64 6, .string ⟨#[65, 78, 68]⟩, .int .i64 vk, .bool vb, .int .i64 vn, .string vs, .slice none 0 0, .slice none 0 0, .slice (some ⟨kg, ko, none⟩) 2 kc, .slice np m nc], .agg #[.int .i64 dk, .bool db, .int .i64 dn, .string ds, .slice dp dm dc, .slice dq dl de]] w fun r w' => r = .returned (.tuple #[.bool RB, .int .i64 RE]) ∧ Below w.heap.size w w' := by
  obtain ⟨w3, hw3⟩ : ∃ u, ((w.alloc (.cells #[.int .i64 6, .string ⟨#[65, 78, 68]⟩, .int .i64 vk, .bool vb, .int .i64 vn, .string vs, .slice none 0 0, .slice none 0 0, .slice (some ⟨kg, ko, none⟩) 2 kc, .slice np m nc] 28)).alloc (.cells #[.int .i64 dk, .bool db, .int .i64 dn, .string ds, .slice dp dm dc, .slice dq dl de] 25)) = u := ⟨_, rfl⟩
  obtain ⟨rw30, rw31, bw3⟩ := alloc2 hw3
  have HWw3 := mkHid hw3
  have hkg3 : kg < w3.heap.size := Nat.lt_of_lt_of_le hkg bw3.size
  have kt0 : ∀ W, Below w3.heap.size w3 W → Calls Tryz.prog 30 #[.agg #[.int .i64 pa.k, .string pa.s, .int .i64 pa.vk, .bool pa.vb, .int .i64 pa.vn, .string pa.vs, .slice none 0 0, .slice none 0 0, .slice pa.kp pa.n pa.kc, .slice pa.np pa.m pa.nc], .agg #[.int .i64 dk, .bool db, .int .i64 dn, .string ds, .slice dp dm dc, .slice dq dl de]] W fun r W' => r = .returned (.tuple #[.bool B0, .int .i64 E0]) ∧ Below W.heap.size W W' := fun W hb => kz0 W (bw3.trans (hb.mono bw3.size))
  have k0 : w3.cell? ⟨kg, ko, none⟩ = some (.int .i64 pa.k) := (bw3.cell (p := ⟨kg, ko, none⟩) hkg).trans (h0 0 (by decide))
  have k1 : w3.cell? ⟨kg, ko + 1, none⟩ = some (.string pa.s) := (bw3.cell (p := ⟨kg, ko + 1, none⟩) hkg).trans (h0 1 (by decide))
  have k2 : w3.cell? ⟨kg, ko + 2, none⟩ = some (.int .i64 pa.vk) := (bw3.cell (p := ⟨kg, ko + 2, none⟩) hkg).trans (h0 2 (by decide))
  have k3 : w3.cell? ⟨kg, ko + 3, none⟩ = some (.bool pa.vb) := (bw3.cell (p := ⟨kg, ko + 3, none⟩) hkg).trans (h0 3 (by decide))
  have k4 : w3.cell? ⟨kg, ko + 4, none⟩ = some (.int .i64 pa.vn) := (bw3.cell (p := ⟨kg, ko + 4, none⟩) hkg).trans (h0 4 (by decide))
  have k5 : w3.cell? ⟨kg, ko + 5, none⟩ = some (.string pa.vs) := (bw3.cell (p := ⟨kg, ko + 5, none⟩) hkg).trans (h0 5 (by decide))
  have k6 : w3.cell? ⟨kg, ko + 6, none⟩ = some (.slice none 0 0) := (bw3.cell (p := ⟨kg, ko + 6, none⟩) hkg).trans (h0 6 (by decide))
  have k7 : w3.cell? ⟨kg, ko + 7, none⟩ = some (.slice none 0 0) := (bw3.cell (p := ⟨kg, ko + 7, none⟩) hkg).trans (h0 7 (by decide))
  have k8 : w3.cell? ⟨kg, ko + 8, none⟩ = some (.slice pa.kp pa.n pa.kc) := (bw3.cell (p := ⟨kg, ko + 8, none⟩) hkg).trans (h0 8 (by decide))
  have k9 : w3.cell? ⟨kg, ko + 9, none⟩ = some (.slice pa.np pa.m pa.nc) := (bw3.cell (p := ⟨kg, ko + 9, none⟩) hkg).trans (h0 9 (by decide))
  have HM := mkHid (And.intro hkg (And.intro h1 kz1))
  have HC := mkHid hcase
  have aR : Hid (w3.heap[w.heap.size]? = some (.cells #[.int .i64 6, .string ⟨#[65, 78, 68]⟩, .int .i64 vk, .bool vb, .int .i64 vn, .string vs, .slice none 0 0, .slice none 0 0, .slice (some ⟨kg, ko, none⟩) 2 kc, .slice np m nc] 28 (0, 0)) ∧ w3.heap[w.heap.size + 1]? = some (.cells #[.int .i64 dk, .bool db, .int .i64 dn, .string ds, .slice dp dm dc, .slice dq dl de] 25 (0, 0)) ∧ Below w.heap.size w w3) := ⟨rw30, rw31, bw3⟩
  clear hw3 bw3 kz0 h0 hkg h1 kz1 hcase
  have hkg := hkg3
  clear hkg3
  go_enter Tryz.func41, Tryz.ntmps41
  go_wp2_with (first | rw [HWw3.out] | fail)
  refine any_tail (by kernel_rfl) 11 (by exact Nat.le_of_ble_eq_true rfl) (fun i => if i < 6 then i + 9 else if i = 6 then 8 else if i < 9 then i + 8 else i - 3) (mixR [] [.pointer (some ⟨w.heap.size, 8, none⟩), .slice (some ⟨kg, ko, none⟩) 2 kc, .pointer (some ⟨kg, ko, none⟩), .agg #[.int .i64 pa.k, .string pa.s, .int .i64 pa.vk, .bool pa.vb, .int .i64 pa.vn, .string pa.vs, .slice none 0 0, .slice none 0 0, .slice pa.kp pa.n pa.kc, .slice pa.np pa.m pa.nc], .agg #[.int .i64 dk, .bool db, .int .i64 dn, .string ds, .slice dp dm dc, .slice dq dl de], .tuple #[.bool B0, .int .i64 E0], .tuple #[.bool B0, .int .i64 E0], .bool B0, .int .i64 E0, .bool B0, .int .i64 E0]) (by kernel_rfl) (by kernel_rfl) (by kernel_rfl) (by kernel_rfl) (mixR_later _ _ (stab_nil)) ?step ?post
  case step =>
    intro iq hiq a W hrest hb hk
    have hp2 : a.eval (.tmp 2) = .pointer (some ⟨w.heap.size, 0, none⟩) := (hrest 2 (by intro iq2 hiq2; (repeat' split) <;> omega)).trans rfl
    have fp2 := ev hp2
    have hx2 : W.heap[w.heap.size]? = some (.cells #[.int .i64 6, .string ⟨#[65, 78, 68]⟩, .int .i64 vk, .bool vb, .int .i64 vn, .string vs, .slice none 0 0, .slice none 0 0, .slice (some ⟨kg, ko, none⟩) 2 kc, .slice np m nc] 28 (0, 0)) := (hb.block _ (lt_of_row rw30)).trans rw30
    have hp3 : a.eval (.tmp 3) = .pointer (some ⟨(w.heap.size + 1), 0, none⟩) := (hrest 3 (by intro iq2 hiq2; (repeat' split) <;> omega)).trans rfl
    have fp3 := ev hp3
    have hx3 : W.heap[(w.heap.size + 1)]? = some (.cells #[.int .i64 dk, .bool db, .int .i64 dn, .string ds, .slice dp dm dc, .slice dq dl de] 25 (0, 0)) := (hb.block _ (lt_of_row rw31)).trans rw31
    clear hrest
    obtain rfl | rfl | rfl | rfl | rfl | rfl | rfl | rfl | rfl | rfl | rfl : iq = 0 ∨ iq = 1 ∨ iq = 2 ∨ iq = 3 ∨ iq = 4 ∨ iq = 5 ∨ iq = 6 ∨ iq = 7 ∨ iq = 8 ∨ iq = 9 ∨ iq = 10 := by omega
    · clear hiq
      clear hk
      refine ⟨_, rfl, rfl, rfl, wp_value (v := .pointer (some ⟨w.heap.size, 8, none⟩)) (w' := W) ?_ ⟨_, rfl, Below.refl _ _, rfl⟩⟩
      go_simp
    · clear hiq
      have e0 : a.eval (.tmp 9) = .pointer (some ⟨w.heap.size, 8, none⟩) := hk 0 (mem_of (by kernel_rfl))
      have f0 := ev e0
      have hc8 := cell_of_row W w.heap.size 8 _ _ _ hx2
      clear hk
      refine ⟨_, rfl, rfl, rfl, wp_value (v := .slice (some ⟨kg, ko, none⟩) 2 kc) (w' := W) ?_ ⟨_, rfl, Below.refl _ _, rfl⟩⟩
      go_simp
    · clear hiq
      have e1 : a.eval (.tmp 10) = .slice (some ⟨kg, ko, none⟩) 2 kc := hk 1 (mem_of (by kernel_rfl))
      have f1 := ev e1
      clear hk
      refine ⟨_, rfl, rfl, rfl, wp_value (v := .pointer (some ⟨kg, ko, none⟩)) (w' := W) ?_ ⟨_, rfl, Below.refl _ _, rfl⟩⟩
      go_simp
    · clear hiq
      have e2 : a.eval (.tmp 11) = .pointer (some ⟨kg, ko, none⟩) := hk 2 (mem_of (by kernel_rfl))
      have f2 := ev e2
      have hk0 := (hb.cell (p := ⟨kg, ko, none⟩) hkg).trans k0
      have hk1 := (hb.cell (p := ⟨kg, ko + 1, none⟩) hkg).trans k1
      have hk2 := (hb.cell (p := ⟨kg, ko + 2, none⟩) hkg).trans k2
      have hk3 := (hb.cell (p := ⟨kg, ko + 3, none⟩) hkg).trans k3
      have hk4 := (hb.cell (p := ⟨kg, ko + 4, none⟩) hkg).trans k4
      have hk5 := (hb.cell (p := ⟨kg, ko + 5, none⟩) hkg).trans k5
      have hk6 := (hb.cell (p := ⟨kg, ko + 6, none⟩) hkg).trans k6
      have hk7 := (hb.cell (p := ⟨kg, ko + 7, none⟩) hkg).trans k7
      have hk8 := (hb.cell (p := ⟨kg, ko + 8, none⟩) hkg).trans k8
      have hk9 := (hb.cell (p := ⟨kg, ko + 9, none⟩) hkg).trans k9
      clear hk
      refine ⟨_, rfl, rfl, rfl, wp_value (v := .agg #[.int .i64 pa.k, .string pa.s, .int .i64 pa.vk, .bool pa.vb, .int .i64 pa.vn, .string pa.vs, .slice none 0 0, .slice none 0 0, .slice pa.kp pa.n pa.kc, .slice pa.np pa.m pa.nc]) (w' := W) ?_ ⟨_, rfl, Below.refl _ _, rfl⟩⟩
      go_simp
    · clear hiq
      have hc0 := cell_of_row W (w.heap.size + 1) 0 _ _ _ hx3
      have hc1 := cell_of_row W (w.heap.size + 1) 1 _ _ _ hx3
      have hc2 := cell_of_row W (w.heap.size + 1) 2 _ _ _ hx3
      have hc3 := cell_of_row W (w.heap.size + 1) 3 _ _ _ hx3
      have hc4 := cell_of_row W (w.heap.size + 1) 4 _ _ _ hx3
      have hc5 := cell_of_row W (w.heap.size + 1) 5 _ _ _ hx3
      clear hk
      refine ⟨_, rfl, rfl, rfl, wp_value (v := .agg #[.int .i64 dk, .bool db, .int .i64 dn, .string ds, .slice dp dm dc, .slice dq dl de]) (w' := W) ?_ ⟨_, rfl, Below.refl _ _, rfl⟩⟩
      go_simp
    · clear hiq
      have e3 : a.eval (.tmp 12) = .agg #[.int .i64 pa.k, .string pa.s, .int .i64 pa.vk, .bool pa.vb, .int .i64 pa.vn, .string pa.vs, .slice none 0 0, .slice none 0 0, .slice pa.kp pa.n pa.kc, .slice pa.np pa.m pa.nc] := hk 3 (mem_of (by kernel_rfl))
      have f3 := ev e3
      have e4 : a.eval (.tmp 13) = .agg #[.int .i64 dk, .bool db, .int .i64 dn, .string ds, .slice dp dm dc, .slice dq dl de] := hk 4 (mem_of (by kernel_rfl))
      have f4 := ev e4
      clear hk
      refine ⟨_, rfl, rfl, rfl, wp_enter (f := 30) (args := #[.agg #[.int .i64 pa.k, .string pa.s, .int .i64 pa.vk, .bool pa.vb, .int .i64 pa.vn, .string pa.vs, .slice none 0 0, .slice none 0 0, .slice pa.kp pa.n pa.kc, .slice pa.np pa.m pa.nc], .agg #[.int .i64 dk, .bool db, .int .i64 dn, .string ds, .slice dp dm dc, .slice dq dl de]]) ?_ ((kt0 W hb).mono ?_)⟩
      · go_simp
      · rintro e w2 ⟨rfl, hb2⟩
        exact ⟨_, rfl, _, rfl, hb2, rfl⟩
    · clear hiq
      have e5 : a.eval (.tmp 14) = .tuple #[.bool B0, .int .i64 E0] := hk 5 (mem_of (by kernel_rfl))
      have f5 := ev e5
      clear hk
      refine ⟨_, rfl, rfl, rfl, wp_value (v := .tuple #[.bool B0, .int .i64 E0]) (w' := W) ?_ ⟨_, rfl, Below.refl _ _, rfl⟩⟩
      go_simp
    · clear hiq
      have e6 : a.eval (.tmp 8) = .tuple #[.bool B0, .int .i64 E0] := hk 6 (mem_of (by kernel_rfl))
      have f6 := ev e6
      clear hk
      refine ⟨_, rfl, rfl, rfl, wp_value (v := .bool B0) (w' := W) ?_ ⟨_, rfl, Below.refl _ _, rfl⟩⟩
      go_simp
    · clear hiq
      have e6 : a.eval (.tmp 8) = .tuple #[.bool B0, .int .i64 E0] := hk 6 (mem_of (by kernel_rfl))
      have f6 := ev e6
      clear hk
      refine ⟨_, rfl, rfl, rfl, wp_value (v := .int .i64 E0) (w' := W) ?_ ⟨_, rfl, Below.refl _ _, rfl⟩⟩
      go_simp
    · clear hiq
      have e7 : a.eval (.tmp 15) = .bool B0 := hk 7 (mem_of (by kernel_rfl))
      have f7 := ev e7
      clear hk
      refine ⟨_, rfl, rfl, rfl, wp_value (v := .bool B0) (w' := W) ?_ ⟨_, rfl, Below.refl _ _, rfl⟩⟩
      go_simp
    · clear hiq
      have e8 : a.eval (.tmp 16) = .int .i64 E0 := hk 8 (mem_of (by kernel_rfl))
      have f8 := ev e8
      clear hk
      refine ⟨_, rfl, rfl, rfl, wp_value (v := .int .i64 E0) (w' := W) ?_ ⟨_, rfl, Below.refl _ _, rfl⟩⟩
      go_simp
  case post =>
    intro V1 W hbW hV
    have v9 : V1 9 = .bool B0 := hV 9 (by omega)
    have v10 : V1 10 = .int .i64 E0 := hV 10 (by omega)
    have bR : Hid (W.heap[w.heap.size]? = some (.cells #[.int .i64 6, .string ⟨#[65, 78, 68]⟩, .int .i64 vk, .bool vb, .int .i64 vn, .string vs, .slice none 0 0, .slice none 0 0, .slice (some ⟨kg, ko, none⟩) 2 kc, .slice np m nc] 28 (0, 0)) ∧ W.heap[w.heap.size + 1]? = some (.cells #[.int .i64 dk, .bool db, .int .i64 dn, .string ds, .slice dp dm dc, .slice dq dl de] 25 (0, 0)) ∧ Below w.heap.size w W) := ⟨Below.row hbW aR.out.1, Below.row hbW aR.out.2.1, aR.out.2.2.trans (hbW.mono aR.out.2.2.size)⟩
    clear hV hbW aR rw30 rw31 kt0 k0 k1 k2 k3 k4 k5 k6 k7 k8 k9 hkg
    simp only [putAll, reduceIte, Nat.reduceLT, Nat.reduceEqDiff, Nat.reduceAdd, Nat.reduceSub]
    rw [v9, v10]
    simp only [Act.put, List.setIfInBounds_toArray, List.set_cons_zero, List.set_cons_succ]
    change wpList _ _ _ [] _ _
    clear v9 v10
    have cx1 : W.cell? ⟨w.heap.size, 1, none⟩ = some (.string ⟨#[65, 78, 68]⟩) := cell_of_row W _ 1 _ _ _ bR.out.1
    rcases HC.out with ⟨rfl, rfl, rfl, rfl⟩ | ⟨rfl, rfl, rfl, rfl⟩ | ⟨rfl, rfl, rfl, rfl⟩
    · go_wp2
      go_ret2
      exact ⟨rfl, bR.out.2.2⟩
    · go_wp2
      go_ret2
      exact ⟨rfl, bR.out.2.2⟩
    · have rW0 := bR.out.1
      have rW1 := bR.out.2.1
      have hkg : kg < W.heap.size := Nat.lt_of_lt_of_le HM.out.1 bR.out.2.2.size
      have kt1 : ∀ W2, Below W.heap.size W W2 → Calls Tryz.prog 30 #[.agg #[.int .i64 pc.k, .string pc.s, .int .i64 pc.vk, .bool pc.vb, .int .i64 pc.vn, .string pc.vs, .slice none 0 0, .slice none 0 0, .slice pc.kp pc.n pc.kc, .slice pc.np pc.m pc.nc], .agg #[.int .i64 dk, .bool db, .int .i64 dn, .string ds, .slice dp dm dc, .slice dq dl de]] W2 fun r W' => r = .returned (.tuple #[.bool RB, .int .i64 RE]) ∧ Below W2.heap.size W2 W' := fun W2 hb => HM.out.2.2 W2 (bR.out.2.2.trans (hb.mono bR.out.2.2.size))
      have k0 : W.cell? ⟨kg, ko + 10, none⟩ = some (.int .i64 pc.k) := (bR.out.2.2.cell (p := ⟨kg, ko + 10, none⟩) HM.out.1).trans (HM.out.2.1 0 (by decide))
      have k1 : W.cell? ⟨kg, ko + 10 + 1, none⟩ = some (.string pc.s) := (bR.out.2.2.cell (p := ⟨kg, ko + 10 + 1, none⟩) HM.out.1).trans (HM.out.2.1 1 (by decide))
      have k2 : W.cell? ⟨kg, ko + 10 + 2, none⟩ = some (.int .i64 pc.vk) := (bR.out.2.2.cell (p := ⟨kg, ko + 10 + 2, none⟩) HM.out.1).trans (HM.out.2.1 2 (by decide))
      have k3 : W.cell? ⟨kg, ko + 10 + 3, none⟩ = some (.bool pc.vb) := (bR.out.2.2.cell (p := ⟨kg, ko + 10 + 3, none⟩) HM.out.1).trans (HM.out.2.1 3 (by decide))
      have k4 : W.cell? ⟨kg, ko + 10 + 4, none⟩ = some (.int .i64 pc.vn) := (bR.out.2.2.cell (p := ⟨kg, ko + 10 + 4, none⟩) HM.out.1).trans (HM.out.2.1 4 (by decide))
      have k5 : W.cell? ⟨kg, ko + 10 + 5, none⟩ = some (.string pc.vs) := (bR.out.2.2.cell (p := ⟨kg, ko + 10 + 5, none⟩) HM.out.1).trans (HM.out.2.1 5 (by decide))
      have k6 : W.cell? ⟨kg, ko + 10 + 6, none⟩ = some (.slice none 0 0) := (bR.out.2.2.cell (p := ⟨kg, ko + 10 + 6, none⟩) HM.out.1).trans (HM.out.2.1 6 (by decide))
      have k7 : W.cell? ⟨kg, ko + 10 + 7, none⟩ = some (.slice none 0 0) := (bR.out.2.2.cell (p := ⟨kg, ko + 10 + 7, none⟩) HM.out.1).trans (HM.out.2.1 7 (by decide))
      have k8 : W.cell? ⟨kg, ko + 10 + 8, none⟩ = some (.slice pc.kp pc.n pc.kc) := (bR.out.2.2.cell (p := ⟨kg, ko + 10 + 8, none⟩) HM.out.1).trans (HM.out.2.1 8 (by decide))
      have k9 : W.cell? ⟨kg, ko + 10 + 9, none⟩ = some (.slice pc.np pc.m pc.nc) := (bR.out.2.2.cell (p := ⟨kg, ko + 10 + 9, none⟩) HM.out.1).trans (HM.out.2.1 9 (by decide))
      clear HM HC
      go_wp2_with fail
      refine any_tail (by kernel_rfl) 10 (by exact Nat.le_of_ble_eq_true rfl) (fun i => if i < 8 then i + 28 else i - 4) (mixR [] [.pointer (some ⟨w.heap.size, 8, none⟩), .slice (some ⟨kg, ko, none⟩) 2 kc, .pointer (some ⟨kg, ko + 10, none⟩), .agg #[.int .i64 pc.k, .string pc.s, .int .i64 pc.vk, .bool pc.vb, .int .i64 pc.vn, .string pc.vs, .slice none 0 0, .slice none 0 0, .slice pc.kp pc.n pc.kc, .slice pc.np pc.m pc.nc], .agg #[.int .i64 dk, .bool db, .int .i64 dn, .string ds, .slice dp dm dc, .slice dq dl de], .tuple #[.bool RB, .int .i64 RE], .bool RB, .int .i64 RE, .bool RB, .int .i64 RE]) (by kernel_rfl) (by kernel_rfl) (by kernel_rfl) (by kernel_rfl) (mixR_later _ _ (stab_nil)) ?step ?post
      case step =>
        intro iq hiq a W hrest hb hk
        have hp2 : a.eval (.tmp 2) = .pointer (some ⟨w.heap.size, 0, none⟩) := (hrest 2 (by intro iq2 hiq2; (repeat' split) <;> omega)).trans rfl
        have fp2 := ev hp2
        have hx2 : W.heap[w.heap.size]? = some (.cells #[.int .i64 6, .string ⟨#[65, 78, 68]⟩, .int .i64 vk, .bool vb, .int .i64 vn, .string vs, .slice none 0 0, .slice none 0 0, .slice (some ⟨kg, ko, none⟩) 2 kc, .slice np m nc] 28 (0, 0)) := (hb.block _ (lt_of_row rW0)).trans rW0
        have hp3 : a.eval (.tmp 3) = .pointer (some ⟨(w.heap.size + 1), 0, none⟩) := (hrest 3 (by intro iq2 hiq2; (repeat' split) <;> omega)).trans rfl
        have fp3 := ev hp3
        have hx3 : W.heap[(w.heap.size + 1)]? = some (.cells #[.int .i64 dk, .bool db, .int .i64 dn, .string ds, .slice dp dm dc, .slice dq dl de] 25 (0, 0)) := (hb.block _ (lt_of_row rW1)).trans rW1
        clear hrest
        obtain rfl | rfl | rfl | rfl | rfl | rfl | rfl | rfl | rfl | rfl : iq = 0 ∨ iq = 1 ∨ iq = 2 ∨ iq = 3 ∨ iq = 4 ∨ iq = 5 ∨ iq = 6 ∨ iq = 7 ∨ iq = 8 ∨ iq = 9 := by omega
        · clear hiq
          clear hk
          refine ⟨_, rfl, rfl, rfl, wp_value (v := .pointer (some ⟨w.heap.size, 8, none⟩)) (w' := W) ?_ ⟨_, rfl, Below.refl _ _, rfl⟩⟩
          go_simp
        · clear hiq
          have e0 : a.eval (.tmp 28) = .pointer (some ⟨w.heap.size, 8, none⟩) := hk 0 (mem_of (by kernel_rfl))
          have f0 := ev e0
          have hc8 := cell_of_row W w.heap.size 8 _ _ _ hx2
          clear hk
          refine ⟨_, rfl, rfl, rfl, wp_value (v := .slice (some ⟨kg, ko, none⟩) 2 kc) (w' := W) ?_ ⟨_, rfl, Below.refl _ _, rfl⟩⟩
          go_simp
        · clear hiq
          have e1 : a.eval (.tmp 29) = .slice (some ⟨kg, ko, none⟩) 2 kc := hk 1 (mem_of (by kernel_rfl))
          have f1 := ev e1
          clear hk
          refine ⟨_, rfl, rfl, rfl, wp_value (v := .pointer (some ⟨kg, ko + 10, none⟩)) (w' := W) ?_ ⟨_, rfl, Below.refl _ _, rfl⟩⟩
          go_simp
        · clear hiq
          have e2 : a.eval (.tmp 30) = .pointer (some ⟨kg, ko + 10, none⟩) := hk 2 (mem_of (by kernel_rfl))
          have f2 := ev e2
          have hk0 := (hb.cell (p := ⟨kg, ko + 10, none⟩) hkg).trans k0
          have hk1 := (hb.cell (p := ⟨kg, ko + 10 + 1, none⟩) hkg).trans k1
          have hk2 := (hb.cell (p := ⟨kg, ko + 10 + 2, none⟩) hkg).trans k2
          have hk3 := (hb.cell (p := ⟨kg, ko + 10 + 3, none⟩) hkg).trans k3
          have hk4 := (hb.cell (p := ⟨kg, ko + 10 + 4, none⟩) hkg).trans k4
          have hk5 := (hb.cell (p := ⟨kg, ko + 10 + 5, none⟩) hkg).trans k5
          have hk6 := (hb.cell (p := ⟨kg, ko + 10 + 6, none⟩) hkg).trans k6
          have hk7 := (hb.cell (p := ⟨kg, ko + 10 + 7, none⟩) hkg).trans k7
          have hk8 := (hb.cell (p := ⟨kg, ko + 10 + 8, none⟩) hkg).trans k8
          have hk9 := (hb.cell (p := ⟨kg, ko + 10 + 9, none⟩) hkg).trans k9
          clear hk
          refine ⟨_, rfl, rfl, rfl, wp_value (v := .agg #[.int .i64 pc.k, .string pc.s, .int .i64 pc.vk, .bool pc.vb, .int .i64 pc.vn, .string pc.vs, .slice none 0 0, .slice none 0 0, .slice pc.kp pc.n pc.kc, .slice pc.np pc.m pc.nc]) (w' := W) ?_ ⟨_, rfl, Below.refl _ _, rfl⟩⟩
          go_simp
        · clear hiq
          have hc0 := cell_of_row W (w.heap.size + 1) 0 _ _ _ hx3
          have hc1 := cell_of_row W (w.heap.size + 1) 1 _ _ _ hx3
          have hc2 := cell_of_row W (w.heap.size + 1) 2 _ _ _ hx3
          have hc3 := cell_of_row W (w.heap.size + 1) 3 _ _ _ hx3
          have hc4 := cell_of_row W (w.heap.size + 1) 4 _ _ _ hx3
          have hc5 := cell_of_row W (w.heap.size + 1) 5 _ _ _ hx3
          clear hk
          refine ⟨_, rfl, rfl, rfl, wp_value (v := .agg #[.int .i64 dk, .bool db, .int .i64 dn, .string ds, .slice dp dm dc, .slice dq dl de]) (w' := W) ?_ ⟨_, rfl, Below.refl _ _, rfl⟩⟩
          go_simp
        · clear hiq
          have e3 : a.eval (.tmp 31) = .agg #[.int .i64 pc.k, .string pc.s, .int .i64 pc.vk, .bool pc.vb, .int .i64 pc.vn, .string pc.vs, .slice none 0 0, .slice none 0 0, .slice pc.kp pc.n pc.kc, .slice pc.np pc.m pc.nc] := hk 3 (mem_of (by kernel_rfl))
          have f3 := ev e3
          have e4 : a.eval (.tmp 32) = .agg #[.int .i64 dk, .bool db, .int .i64 dn, .string ds, .slice dp dm dc, .slice dq dl de] := hk 4 (mem_of (by kernel_rfl))
          have f4 := ev e4
          clear hk
          refine ⟨_, rfl, rfl, rfl, wp_enter (f := 30) (args := #[.agg #[.int .i64 pc.k, .string pc.s, .int .i64 pc.vk, .bool pc.vb, .int .i64 pc.vn, .string pc.vs, .slice none 0 0, .slice none 0 0, .slice pc.kp pc.n pc.kc, .slice pc.np pc.m pc.nc], .agg #[.int .i64 dk, .bool db, .int .i64 dn, .string ds, .slice dp dm dc, .slice dq dl de]]) ?_ ((kt1 W hb).mono ?_)⟩
          · go_simp
          · rintro e w2 ⟨rfl, hb2⟩
            exact ⟨_, rfl, _, rfl, hb2, rfl⟩
        · clear hiq
          have e5 : a.eval (.tmp 33) = .tuple #[.bool RB, .int .i64 RE] := hk 5 (mem_of (by kernel_rfl))
          have f5 := ev e5
          clear hk
          refine ⟨_, rfl, rfl, rfl, wp_value (v := .bool RB) (w' := W) ?_ ⟨_, rfl, Below.refl _ _, rfl⟩⟩
          go_simp
        · clear hiq
          have e5 : a.eval (.tmp 33) = .tuple #[.bool RB, .int .i64 RE] := hk 5 (mem_of (by kernel_rfl))
          have f5 := ev e5
          clear hk
          refine ⟨_, rfl, rfl, rfl, wp_value (v := .int .i64 RE) (w' := W) ?_ ⟨_, rfl, Below.refl _ _, rfl⟩⟩
          go_simp
        · clear hiq
          have e6 : a.eval (.tmp 34) = .bool RB := hk 6 (mem_of (by kernel_rfl))
          have f6 := ev e6
          clear hk
          refine ⟨_, rfl, rfl, rfl, wp_value (v := .bool RB) (w' := W) ?_ ⟨_, rfl, Below.refl _ _, rfl⟩⟩
          go_simp
        · clear hiq
          have e7 : a.eval (.tmp 35) = .int .i64 RE := hk 7 (mem_of (by kernel_rfl))
          have f7 := ev e7
          clear hk
          refine ⟨_, rfl, rfl, rfl, wp_value (v := .int .i64 RE) (w' := W) ?_ ⟨_, rfl, Below.refl _ _, rfl⟩⟩
          go_simp
      case post =>
        intro V2 W2 hbW2 hV2
        have u8 : V2 8 = .bool RB := hV2 8 (by omega)
        have u9 : V2 9 = .int .i64 RE := hV2 9 (by omega)
        have H2 := mkHid (bR.out.2.2.trans (hbW2.mono bR.out.2.2.size))
        clear hV2 hbW2
        simp only [putAll, reduceIte, Nat.reduceLT, Nat.reduceAdd, Nat.reduceSub]
        rw [u8, u9]
        simp only [Act.put, List.setIfInBounds_toArray, List.set_cons_zero, List.set_cons_succ]
        change wpList _ _ _ [] _ _
        go_wp2
        go_ret2
        exact ⟨rfl, H2.out⟩
set_option maxRecDepth 100000 in
set_option maxHeartbeats 8000000 in
theorem joined_or_all (vk : Int) (vb : Bool) (vn : Int) (vs : ByteArray) (kg ko kc : Nat) (np : Option Addr) (m nc : Nat) (dk : Int) (db : Bool) (dn : Int) (ds : ByteArray) (dp : Option Addr) (dm dc : Nat) (dq : Option Addr) (dl de : Nat) (w : World) (hkg : kg < w.heap.size) (B0 : Bool) (E0 : Int) (pa : XR) (h0 : At10 w kg ko pa) (kz0 : ∀ W, Below w.heap.size w W → Calls Tryz.prog 30 #[.agg #[.int .i64 pa.k, .string pa.s, .int .i64 pa.vk, .bool pa.vb, .int .i64 pa.vn, .string pa.vs, .slice none 0 0, .slice none 0 0, .slice pa.kp pa.n pa.kc, .slice pa.np pa.m pa.nc], .agg #[.int .i64 dk, .bool db, .int .i64 dn, .string ds, .slice dp dm dc, .slice dq dl de]] W fun r W' => r = .returned (.tuple #[.bool B0, .int .i64 E0]) ∧ Below W.heap.size W W') (B1 : Bool) (E1 : Int) (pc : XR) (h1 : At10 w kg (ko + 10) pc) (kz1 : ∀ W, Below w.heap.size w W → Calls Tryz.prog 30 #[.agg #[.int .i64 pc.k, .string pc.s, .int .i64 pc.vk, .bool pc.vb, .int .i64 pc.vn, .string pc.vs, .slice none 0 0, .slice none 0 0, .slice pc.kp pc.n pc.kc, .slice pc.np pc.m pc.nc], .agg #[.int .i64 dk, .bool db, .int .i64 dn, .string ds, .slice dp dm dc, .slice dq dl de]] W fun r W' => r = .returned (.tuple #[.bool B1, .int .i64 E1]) ∧ Below W.heap.size W W') (RB : Bool) (RE : Int) (hcase : (E0 = 131 ∧ B0 = false ∧ RB = false ∧ RE = 131) ∨ (E0 = 0 ∧ B0 = true ∧ RB = true ∧ RE = 0) ∨ (E0 = 0 ∧ B0 = false ∧ RB = B1 ∧ RE = E1)) :
    Calls Tryz.prog 41 #[.agg #[.int .i64 6, .string ⟨#[79, 82]⟩, .int .i64 vk, .bool vb, .int .i64 vn, .string vs, .slice none 0 0, .slice none 0 0, .slice (some ⟨kg, ko, none⟩) 2 kc, .slice np m nc], .agg #[.int .i64 dk, .bool db, .int .i64 dn, .string ds, .slice dp dm dc, .slice dq dl de]] w fun r w' => r = .returned (.tuple #[.bool RB, .int .i64 RE]) ∧ Below w.heap.size w w' := by
  obtain ⟨w3, hw3⟩ : ∃ u, ((w.alloc (.cells #[.int .i64 6, .string ⟨#[79, 82]⟩, .int .i64 vk, .bool vb, .int .i64 vn, .string vs, .slice none 0 0, .slice none 0 0, .slice (some ⟨kg, ko, none⟩) 2 kc, .slice np m nc] 28)).alloc (.cells #[.int .i64 dk, .bool db, .int .i64 dn, .string ds, .slice dp dm dc, .slice dq dl de] 25)) = u := ⟨_, rfl⟩
  obtain ⟨rw30, rw31, bw3⟩ := alloc2 hw3
  have HWw3 := mkHid hw3
  have hkg3 : kg < w3.heap.size := Nat.lt_of_lt_of_le hkg bw3.size
  have kt0 : ∀ W, Below w3.heap.size w3 W → Calls Tryz.prog 30 #[.agg #[.int .i64 pa.k, .string pa.s, .int .i64 pa.vk, .bool pa.vb, .int .i64 pa.vn, .string pa.vs, .slice none 0 0, .slice none 0 0, .slice pa.kp pa.n pa.kc, .slice pa.np pa.m pa.nc], .agg #[.int .i64 dk, .bool db, .int .i64 dn, .string ds, .slice dp dm dc, .slice dq dl de]] W fun r W' => r = .returned (.tuple #[.bool B0, .int .i64 E0]) ∧ Below W.heap.size W W' := fun W hb => kz0 W (bw3.trans (hb.mono bw3.size))
  have k0 : w3.cell? ⟨kg, ko, none⟩ = some (.int .i64 pa.k) := (bw3.cell (p := ⟨kg, ko, none⟩) hkg).trans (h0 0 (by decide))
  have k1 : w3.cell? ⟨kg, ko + 1, none⟩ = some (.string pa.s) := (bw3.cell (p := ⟨kg, ko + 1, none⟩) hkg).trans (h0 1 (by decide))
  have k2 : w3.cell? ⟨kg, ko + 2, none⟩ = some (.int .i64 pa.vk) := (bw3.cell (p := ⟨kg, ko + 2, none⟩) hkg).trans (h0 2 (by decide))
  have k3 : w3.cell? ⟨kg, ko + 3, none⟩ = some (.bool pa.vb) := (bw3.cell (p := ⟨kg, ko + 3, none⟩) hkg).trans (h0 3 (by decide))
  have k4 : w3.cell? ⟨kg, ko + 4, none⟩ = some (.int .i64 pa.vn) := (bw3.cell (p := ⟨kg, ko + 4, none⟩) hkg).trans (h0 4 (by decide))
  have k5 : w3.cell? ⟨kg, ko + 5, none⟩ = some (.string pa.vs) := (bw3.cell (p := ⟨kg, ko + 5, none⟩) hkg).trans (h0 5 (by decide))
  have k6 : w3.cell? ⟨kg, ko + 6, none⟩ = some (.slice none 0 0) := (bw3.cell (p := ⟨kg, ko + 6, none⟩) hkg).trans (h0 6 (by decide))
  have k7 : w3.cell? ⟨kg, ko + 7, none⟩ = some (.slice none 0 0) := (bw3.cell (p := ⟨kg, ko + 7, none⟩) hkg).trans (h0 7 (by decide))
  have k8 : w3.cell? ⟨kg, ko + 8, none⟩ = some (.slice pa.kp pa.n pa.kc) := (bw3.cell (p := ⟨kg, ko + 8, none⟩) hkg).trans (h0 8 (by decide))
  have k9 : w3.cell? ⟨kg, ko + 9, none⟩ = some (.slice pa.np pa.m pa.nc) := (bw3.cell (p := ⟨kg, ko + 9, none⟩) hkg).trans (h0 9 (by decide))
  have HM := mkHid (And.intro hkg (And.intro h1 kz1))
  have HC := mkHid hcase
  have aR : Hid (w3.heap[w.heap.size]? = some (.cells #[.int .i64 6, .string ⟨#[79, 82]⟩, .int .i64 vk, .bool vb, .int .i64 vn, .string vs, .slice none 0 0, .slice none 0 0, .slice (some ⟨kg, ko, none⟩) 2 kc, .slice np m nc] 28 (0, 0)) ∧ w3.heap[w.heap.size + 1]? = some (.cells #[.int .i64 dk, .bool db, .int .i64 dn, .string ds, .slice dp dm dc, .slice dq dl de] 25 (0, 0)) ∧ Below w.heap.size w w3) := ⟨rw30, rw31, bw3⟩
  clear hw3 bw3 kz0 h0 hkg h1 kz1 hcase
  have hkg := hkg3
  clear hkg3
  go_enter Tryz.func41, Tryz.ntmps41
  go_wp2_with (first | rw [HWw3.out] | fail)
  refine any_tail (by kernel_rfl) 11 (by exact Nat.le_of_ble_eq_true rfl) (fun i => if i < 6 then i + 9 else if i = 6 then 8 else if i < 9 then i + 8 else i - 3) (mixR [] [.pointer (some ⟨w.heap.size, 8, none⟩), .slice (some ⟨kg, ko, none⟩) 2 kc, .pointer (some ⟨kg, ko, none⟩), .agg #[.int .i64 pa.k, .string pa.s, .int .i64 pa.vk, .bool pa.vb, .int .i64 pa.vn, .string pa.vs, .slice none 0 0, .slice none 0 0, .slice pa.kp pa.n pa.kc, .slice pa.np pa.m pa.nc], .agg #[.int .i64 dk, .bool db, .int .i64 dn, .string ds, .slice dp dm dc, .slice dq dl de], .tuple #[.bool B0, .int .i64 E0], .tuple #[.bool B0, .int .i64 E0], .bool B0, .int .i64 E0, .bool B0, .int .i64 E0]) (by kernel_rfl) (by kernel_rfl) (by kernel_rfl) (by kernel_rfl) (mixR_later _ _ (stab_nil)) ?step ?post
  case step =>
    intro iq hiq a W hrest hb hk
    have hp2 : a.eval (.tmp 2) = .pointer (some ⟨w.heap.size, 0, none⟩) := (hrest 2 (by intro iq2 hiq2; (repeat' split) <;> omega)).trans rfl
    have fp2 := ev hp2
    have hx2 : W.heap[w.heap.size]? = some (.cells #[.int .i64 6, .string ⟨#[79, 82]⟩, .int .i64 vk, .bool vb, .int .i64 vn, .string vs, .slice none 0 0, .slice none 0 0, .slice (some ⟨kg, ko, none⟩) 2 kc, .slice np m nc] 28 (0, 0)) := (hb.block _ (lt_of_row rw30)).trans rw30
    have hp3 : a.eval (.tmp 3) = .pointer (some ⟨(w.heap.size + 1), 0, none⟩) := (hrest 3 (by intro iq2 hiq2; (repeat' split) <;> omega)).trans rfl
    have fp3 := ev hp3
    have hx3 : W.heap[(w.heap.size + 1)]? = some (.cells #[.int .i64 dk, .bool db, .int .i64 dn, .string ds, .slice dp dm dc, .slice dq dl de] 25 (0, 0)) := (hb.block _ (lt_of_row rw31)).trans rw31
    clear hrest
    obtain rfl | rfl | rfl | rfl | rfl | rfl | rfl | rfl | rfl | rfl | rfl : iq = 0 ∨ iq = 1 ∨ iq = 2 ∨ iq = 3 ∨ iq = 4 ∨ iq = 5 ∨ iq = 6 ∨ iq = 7 ∨ iq = 8 ∨ iq = 9 ∨ iq = 10 := by omega
    · clear hiq
      clear hk
      refine ⟨_, rfl, rfl, rfl, wp_value (v := .pointer (some ⟨w.heap.size, 8, none⟩)) (w' := W) ?_ ⟨_, rfl, Below.refl _ _, rfl⟩⟩
      go_simp
    · clear hiq
      have e0 : a.eval (.tmp 9) = .pointer (some ⟨w.heap.size, 8, none⟩) := hk 0 (mem_of (by kernel_rfl))
      have f0 := ev e0
      have hc8 := cell_of_row W w.heap.size 8 _ _ _ hx2
      clear hk
      refine ⟨_, rfl, rfl, rfl, wp_value (v := .slice (some ⟨kg, ko, none⟩) 2 kc) (w' := W) ?_ ⟨_, rfl, Below.refl _ _, rfl⟩⟩
      go_simp
    · clear hiq
      have e1 : a.eval (.tmp 10) = .slice (some ⟨kg, ko, none⟩) 2 kc := hk 1 (mem_of (by kernel_rfl))
      have f1 := ev e1
      clear hk
      refine ⟨_, rfl, rfl, rfl, wp_value (v := .pointer (some ⟨kg, ko, none⟩)) (w' := W) ?_ ⟨_, rfl, Below.refl _ _, rfl⟩⟩
      go_simp
    · clear hiq
      have e2 : a.eval (.tmp 11) = .pointer (some ⟨kg, ko, none⟩) := hk 2 (mem_of (by kernel_rfl))
      have f2 := ev e2
      have hk0 := (hb.cell (p := ⟨kg, ko, none⟩) hkg).trans k0
      have hk1 := (hb.cell (p := ⟨kg, ko + 1, none⟩) hkg).trans k1
      have hk2 := (hb.cell (p := ⟨kg, ko + 2, none⟩) hkg).trans k2
      have hk3 := (hb.cell (p := ⟨kg, ko + 3, none⟩) hkg).trans k3
      have hk4 := (hb.cell (p := ⟨kg, ko + 4, none⟩) hkg).trans k4
      have hk5 := (hb.cell (p := ⟨kg, ko + 5, none⟩) hkg).trans k5
      have hk6 := (hb.cell (p := ⟨kg, ko + 6, none⟩) hkg).trans k6
      have hk7 := (hb.cell (p := ⟨kg, ko + 7, none⟩) hkg).trans k7
      have hk8 := (hb.cell (p := ⟨kg, ko + 8, none⟩) hkg).trans k8
      have hk9 := (hb.cell (p := ⟨kg, ko + 9, none⟩) hkg).trans k9
      clear hk
      refine ⟨_, rfl, rfl, rfl, wp_value (v := .agg #[.int .i64 pa.k, .string pa.s, .int .i64 pa.vk, .bool pa.vb, .int .i64 pa.vn, .string pa.vs, .slice none 0 0, .slice none 0 0, .slice pa.kp pa.n pa.kc, .slice pa.np pa.m pa.nc]) (w' := W) ?_ ⟨_, rfl, Below.refl _ _, rfl⟩⟩
      go_simp
    · clear hiq
      have hc0 := cell_of_row W (w.heap.size + 1) 0 _ _ _ hx3
      have hc1 := cell_of_row W (w.heap.size + 1) 1 _ _ _ hx3
      have hc2 := cell_of_row W (w.heap.size + 1) 2 _ _ _ hx3
      have hc3 := cell_of_row W (w.heap.size + 1) 3 _ _ _ hx3
      have hc4 := cell_of_row W (w.heap.size + 1) 4 _ _ _ hx3
      have hc5 := cell_of_row W (w.heap.size + 1) 5 _ _ _ hx3
      clear hk
      refine ⟨_, rfl, rfl, rfl, wp_value (v := .agg #[.int .i64 dk, .bool db, .int .i64 dn, .string ds, .slice dp dm dc, .slice dq dl de]) (w' := W) ?_ ⟨_, rfl, Below.refl _ _, rfl⟩⟩
      go_simp
    · clear hiq
      have e3 : a.eval (.tmp 12) = .agg #[.int .i64 pa.k, .string pa.s, .int .i64 pa.vk, .bool pa.vb, .int .i64 pa.vn, .string pa.vs, .slice none 0 0, .slice none 0 0, .slice pa.kp pa.n pa.kc, .slice pa.np pa.m pa.nc] := hk 3 (mem_of (by kernel_rfl))
      have f3 := ev e3
      have e4 : a.eval (.tmp 13) = .agg #[.int .i64 dk, .bool db, .int .i64 dn, .string ds, .slice dp dm dc, .slice dq dl de] := hk 4 (mem_of (by kernel_rfl))
      have f4 := ev e4
      clear hk
      refine ⟨_, rfl, rfl, rfl, wp_enter (f := 30) (args := #[.agg #[.int .i64 pa.k, .string pa.s, .int .i64 pa.vk, .bool pa.vb, .int .i64 pa.vn, .string pa.vs, .slice none 0 0, .slice none 0 0, .slice pa.kp pa.n pa.kc, .slice pa.np pa.m pa.nc], .agg #[.int .i64 dk, .bool db, .int .i64 dn, .string ds, .slice dp dm dc, .slice dq dl de]]) ?_ ((kt0 W hb).mono ?_)⟩
      · go_simp
      · rintro e w2 ⟨rfl, hb2⟩
        exact ⟨_, rfl, _, rfl, hb2, rfl⟩
    · clear hiq
      have e5 : a.eval (.tmp 14) = .tuple #[.bool B0, .int .i64 E0] := hk 5 (mem_of (by kernel_rfl))
      have f5 := ev e5
      clear hk
      refine ⟨_, rfl, rfl, rfl, wp_value (v := .tuple #[.bool B0, .int .i64 E0]) (w' := W) ?_ ⟨_, rfl, Below.refl _ _, rfl⟩⟩
      go_simp
    · clear hiq
      have e6 : a.eval (.tmp 8) = .tuple #[.bool B0, .int .i64 E0] := hk 6 (mem_of (by kernel_rfl))
      have f6 := ev e6
      clear hk
      refine ⟨_, rfl, rfl, rfl, wp_value (v := .bool B0) (w' := W) ?_ ⟨_, rfl, Below.refl _ _, rfl⟩⟩
      go_simp
    · clear hiq
      have e6 : a.eval (.tmp 8) = .tuple #[.bool B0, .int .i64 E0] := hk 6 (mem_of (by kernel_rfl))
      have f6 := ev e6
      clear hk
      refine ⟨_, rfl, rfl, rfl, wp_value (v := .int .i64 E0) (w' := W) ?_ ⟨_, rfl, Below.refl _ _, rfl⟩⟩
      go_simp
    · clear hiq
      have e7 : a.eval (.tmp 15) = .bool B0 := hk 7 (mem_of (by kernel_rfl))
      have f7 := ev e7
      clear hk
      refine ⟨_, rfl, rfl, rfl, wp_value (v := .bool B0) (w' := W) ?_ ⟨_, rfl, Below.refl _ _, rfl⟩⟩
      go_simp
    · clear hiq
      have e8 : a.eval (.tmp 16) = .int .i64 E0 := hk 8 (mem_of (by kernel_rfl))
      have f8 := ev e8
      clear hk
      refine ⟨_, rfl, rfl, rfl, wp_value (v := .int .i64 E0) (w' := W) ?_ ⟨_, rfl, Below.refl _ _, rfl⟩⟩
      go_simp
  case post =>
    intro V1 W hbW hV
    have v9 : V1 9 = .bool B0 := hV 9 (by omega)
    have v10 : V1 10 = .int .i64 E0 := hV 10 (by omega)
    have bR : Hid (W.heap[w.heap.size]? = some (.cells #[.int .i64 6, .string ⟨#[79, 82]⟩, .int .i64 vk, .bool vb, .int .i64 vn, .string vs, .slice none 0 0, .slice none 0 0, .slice (some ⟨kg, ko, none⟩) 2 kc, .slice np m nc] 28 (0, 0)) ∧ W.heap[w.heap.size + 1]? = some (.cells #[.int .i64 dk, .bool db, .int .i64 dn, .string ds, .slice dp dm dc, .slice dq dl de] 25 (0, 0)) ∧ Below w.heap.size w W) := ⟨Below.row hbW aR.out.1, Below.row hbW aR.out.2.1, aR.out.2.2.trans (hbW.mono aR.out.2.2.size)⟩
    clear hV hbW aR rw30 rw31 kt0 k0 k1 k2 k3 k4 k5 k6 k7 k8 k9 hkg
    simp only [putAll, reduceIte, Nat.reduceLT, Nat.reduceEqDiff, Nat.reduceAdd, Nat.reduceSub]
    rw [v9, v10]
    simp only [Act.put, List.setIfInBounds_toArray, List.set_cons_zero, List.set_cons_succ]
    change wpList _ _ _ [] _ _
    clear v9 v10
    have cx1 : W.cell? ⟨w.heap.size, 1, none⟩ = some (.string ⟨#[79, 82]⟩) := cell_of_row W _ 1 _ _ _ bR.out.1
    rcases HC.out with ⟨rfl, rfl, rfl, rfl⟩ | ⟨rfl, rfl, rfl, rfl⟩ | ⟨rfl, rfl, rfl, rfl⟩
    · go_wp2
      go_ret2
      exact ⟨rfl, bR.out.2.2⟩
    · go_wp2
      go_ret2
      exact ⟨rfl, bR.out.2.2⟩
    · have rW0 := bR.out.1
      have rW1 := bR.out.2.1
      have hkg : kg < W.heap.size := Nat.lt_of_lt_of_le HM.out.1 bR.out.2.2.size
      have kt1 : ∀ W2, Below W.heap.size W W2 → Calls Tryz.prog 30 #[.agg #[.int .i64 pc.k, .string pc.s, .int .i64 pc.vk, .bool pc.vb, .int .i64 pc.vn, .string pc.vs, .slice none 0 0, .slice none 0 0, .slice pc.kp pc.n pc.kc, .slice pc.np pc.m pc.nc], .agg #[.int .i64 dk, .bool db, .int .i64 dn, .string ds, .slice dp dm dc, .slice dq dl de]] W2 fun r W' => r = .returned (.tuple #[.bool RB, .int .i64 RE]) ∧ Below W2.heap.size W2 W' := fun W2 hb => HM.out.2.2 W2 (bR.out.2.2.trans (hb.mono bR.out.2.2.size))
      have k0 : W.cell? ⟨kg, ko + 10, none⟩ = some (.int .i64 pc.k) := (bR.out.2.2.cell (p := ⟨kg, ko + 10, none⟩) HM.out.1).trans (HM.out.2.1 0 (by decide))
      have k1 : W.cell? ⟨kg, ko + 10 + 1, none⟩ = some (.string pc.s) := (bR.out.2.2.cell (p := ⟨kg, ko + 10 + 1, none⟩) HM.out.1).trans (HM.out.2.1 1 (by decide))
      have k2 : W.cell? ⟨kg, ko + 10 + 2, none⟩ = some (.int .i64 pc.vk) := (bR.out.2.2.cell (p := ⟨kg, ko + 10 + 2, none⟩) HM.out.1).trans (HM.out.2.1 2 (by decide))
      have k3 : W.cell? ⟨kg, ko + 10 + 3, none⟩ = some (.bool pc.vb) := (bR.out.2.2.cell (p := ⟨kg, ko + 10 + 3, none⟩) HM.out.1).trans (HM.out.2.1 3 (by decide))
      have k4 : W.cell? ⟨kg, ko + 10 + 4, none⟩ = some (.int .i64 pc.vn) := (bR.out.2.2.cell (p := ⟨kg, ko + 10 + 4, none⟩) HM.out.1).trans (HM.out.2.1 4 (by decide))
      have k5 : W.cell? ⟨kg, ko + 10 + 5, none⟩ = some (.string pc.vs) := (bR.out.2.2.cell (p := ⟨kg, ko + 10 + 5, none⟩) HM.out.1).trans (HM.out.2.1 5 (by decide))
      have k6 : W.cell? ⟨kg, ko + 10 + 6, none⟩ = some (.slice none 0 0) := (bR.out.2.2.cell (p := ⟨kg, ko + 10 + 6, none⟩) HM.out.1).trans (HM.out.2.1 6 (by decide))
      have k7 : W.cell? ⟨kg, ko + 10 + 7, none⟩ = some (.slice none 0 0) := (bR.out.2.2.cell (p := ⟨kg, ko + 10 + 7, none⟩) HM.out.1).trans (HM.out.2.1 7 (by decide))
      have k8 : W.cell? ⟨kg, ko + 10 + 8, none⟩ = some (.slice pc.kp pc.n pc.kc) := (bR.out.2.2.cell (p := ⟨kg, ko + 10 + 8, none⟩) HM.out.1).trans (HM.out.2.1 8 (by decide))
      have k9 : W.cell? ⟨kg, ko + 10 + 9, none⟩ = some (.slice pc.np pc.m pc.nc) := (bR.out.2.2.cell (p := ⟨kg, ko + 10 + 9, none⟩) HM.out.1).trans (HM.out.2.1 9 (by decide))
      clear HM HC
      go_wp2_with fail
      refine any_tail (by kernel_rfl) 10 (by exact Nat.le_of_ble_eq_true rfl) (fun i => if i < 8 then i + 28 else i - 4) (mixR [] [.pointer (some ⟨w.heap.size, 8, none⟩), .slice (some ⟨kg, ko, none⟩) 2 kc, .pointer (some ⟨kg, ko + 10, none⟩), .agg #[.int .i64 pc.k, .string pc.s, .int .i64 pc.vk, .bool pc.vb, .int .i64 pc.vn, .string pc.vs, .slice none 0 0, .slice none 0 0, .slice pc.kp pc.n pc.kc, .slice pc.np pc.m pc.nc], .agg #[.int .i64 dk, .bool db, .int .i64 dn, .string ds, .slice dp dm dc, .slice dq dl de], .tuple #[.bool RB, .int .i64 RE], .bool RB, .int .i64 RE, .bool RB, .int .i64 RE]) (by kernel_rfl) (by kernel_rfl) (by kernel_rfl) (by kernel_rfl) (mixR_later _ _ (stab_nil)) ?step ?post
      case step =>
        intro iq hiq a W hrest hb hk
        have hp2 : a.eval (.tmp 2) = .pointer (some ⟨w.heap.size, 0, none⟩) := (hrest 2 (by intro iq2 hiq2; (repeat' split) <;> omega)).trans rfl
        have fp2 := ev hp2
        have hx2 : W.heap[w.heap.size]? = some (.cells #[.int .i64 6, .string ⟨#[79, 82]⟩, .int .i64 vk, .bool vb, .int .i64 vn, .string vs, .slice none 0 0, .slice none 0 0, .slice (some ⟨kg, ko, none⟩) 2 kc, .slice np m nc] 28 (0, 0)) := (hb.block _ (lt_of_row rW0)).trans rW0
        have hp3 : a.eval (.tmp 3) = .pointer (some ⟨(w.heap.size + 1), 0, none⟩) := (hrest 3 (by intro iq2 hiq2; (repeat' split) <;> omega)).trans rfl
        have fp3 := ev hp3
        have hx3 : W.heap[(w.heap.size + 1)]? = some (.cells #[.int .i64 dk, .bool db, .int .i64 dn, .string ds, .slice dp dm dc, .slice dq dl de] 25 (0, 0)) := (hb.block _ (lt_of_row rW1)).trans rW1
        clear hrest
        obtain rfl | rfl | rfl | rfl | rfl | rfl | rfl | rfl | rfl | rfl : iq = 0 ∨ iq = 1 ∨ iq = 2 ∨ iq = 3 ∨ iq = 4 ∨ iq = 5 ∨ iq = 6 ∨ iq = 7 ∨ iq = 8 ∨ iq = 9 := by omega
        · clear hiq
          clear hk
          refine ⟨_, rfl, rfl, rfl, wp_value (v := .pointer (some ⟨w.heap.size, 8, none⟩)) (w' := W) ?_ ⟨_, rfl, Below.refl _ _, rfl⟩⟩
          go_simp
        · clear hiq
          have e0 : a.eval (.tmp 28) = .pointer (some ⟨w.heap.size, 8, none⟩) := hk 0 (mem_of (by kernel_rfl))
          have f0 := ev e0
          have hc8 := cell_of_row W w.heap.size 8 _ _ _ hx2
          clear hk
          refine ⟨_, rfl, rfl, rfl, wp_value (v := .slice (some ⟨kg, ko, none⟩) 2 kc) (w' := W) ?_ ⟨_, rfl, Below.refl _ _, rfl⟩⟩
          go_simp
        · clear hiq
          have e1 : a.eval (.tmp 29) = .slice (some ⟨kg, ko, none⟩) 2 kc := hk 1 (mem_of (by kernel_rfl))
          have f1 := ev e1
          clear hk
          refine ⟨_, rfl, rfl, rfl, wp_value (v := .pointer (some ⟨kg, ko + 10, none⟩)) (w' := W) ?_ ⟨_, rfl, Below.refl _ _, rfl⟩⟩
          go_simp
        · clear hiq
          have e2 : a.eval (.tmp 30) = .pointer (some ⟨kg, ko + 10, none⟩) := hk 2 (mem_of (by kernel_rfl))
          have f2 := ev e2
          have hk0 := (hb.cell (p := ⟨kg, ko + 10, none⟩) hkg).trans k0
          have hk1 := (hb.cell (p := ⟨kg, ko + 10 + 1, none⟩) hkg).trans k1
          have hk2 := (hb.cell (p := ⟨kg, ko + 10 + 2, none⟩) hkg).trans k2
          have hk3 := (hb.cell (p := ⟨kg, ko + 10 + 3, none⟩) hkg).trans k3
          have hk4 := (hb.cell (p := ⟨kg, ko + 10 + 4, none⟩) hkg).trans k4
          have hk5 := (hb.cell (p := ⟨kg, ko + 10 + 5, none⟩) hkg).trans k5
          have hk6 := (hb.cell (p := ⟨kg, ko + 10 + 6, none⟩) hkg).trans k6
          have hk7 := (hb.cell (p := ⟨kg, ko + 10 + 7, none⟩) hkg).trans k7
          have hk8 := (hb.cell (p := ⟨kg, ko + 10 + 8, none⟩) hkg).trans k8
          have hk9 := (hb.cell (p := ⟨kg, ko + 10 + 9, none⟩) hkg).trans k9
          clear hk
          refine ⟨_, rfl, rfl, rfl, wp_value (v := .agg #[.int .i64 pc.k, .string pc.s, .int .i64 pc.vk, .bool pc.vb, .int .i64 pc.vn, .string pc.vs, .slice none 0 0, .slice none 0 0, .slice pc.kp pc.n pc.kc, .slice pc.np pc.m pc.nc]) (w' := W) ?_ ⟨_, rfl, Below.refl _ _, rfl⟩⟩
          go_simp
        · clear hiq
          have hc0 := cell_of_row W (w.heap.size + 1) 0 _ _ _ hx3
          have hc1 := cell_of_row W (w.heap.size + 1) 1 _ _ _ hx3
          have hc2 := cell_of_row W (w.heap.size + 1) 2 _ _ _ hx3
          have hc3 := cell_of_row W (w.heap.size + 1) 3 _ _ _ hx3
          have hc4 := cell_of_row W (w.heap.size + 1) 4 _ _ _ hx3
          have hc5 := cell_of_row W (w.heap.size + 1) 5 _ _ _ hx3
          clear hk
          refine ⟨_, rfl, rfl, rfl, wp_value (v := .agg #[.int .i64 dk, .bool db, .int .i64 dn, .string ds, .slice dp dm dc, .slice dq dl de]) (w' := W) ?_ ⟨_, rfl, Below.refl _ _, rfl⟩⟩
          go_simp
        · clear hiq
          have e3 : a.eval (.tmp 31) = .agg #[.int .i64 pc.k, .string pc.s, .int .i64 pc.vk, .bool pc.vb, .int .i64 pc.vn, .string pc.vs, .slice none 0 0, .slice none 0 0, .slice pc.kp pc.n pc.kc, .slice pc.np pc.m pc.nc] := hk 3 (mem_of (by kernel_rfl))
          have f3 := ev e3
          have e4 : a.eval (.tmp 32) = .agg #[.int .i64 dk, .bool db, .int .i64 dn, .string ds, .slice dp dm dc, .slice dq dl de] := hk 4 (mem_of (by kernel_rfl))
          have f4 := ev e4
          clear hk
          refine ⟨_, rfl, rfl, rfl, wp_enter (f := 30) (args := #[.agg #[.int .i64 pc.k, .string pc.s, .int .i64 pc.vk, .bool pc.vb, .int .i64 pc.vn, .string pc.vs, .slice none 0 0, .slice none 0 0, .slice pc.kp pc.n pc.kc, .slice pc.np pc.m pc.nc], .agg #[.int .i64 dk, .bool db, .int .i64 dn, .string ds, .slice dp dm dc, .slice dq dl de]]) ?_ ((kt1 W hb).mono ?_)⟩
          · go_simp
          · rintro e w2 ⟨rfl, hb2⟩
            exact ⟨_, rfl, _, rfl, hb2, rfl⟩
        · clear hiq
          have e5 : a.eval (.tmp 33) = .tuple #[.bool RB, .int .i64 RE] := hk 5 (mem_of (by kernel_rfl))
          have f5 := ev e5
          clear hk
          refine ⟨_, rfl, rfl, rfl, wp_value (v := .bool RB) (w' := W) ?_ ⟨_, rfl, Below.refl _ _, rfl⟩⟩
          go_simp
        · clear hiq
          have e5 : a.eval (.tmp 33) = .tuple #[.bool RB, .int .i64 RE] := hk 5 (mem_of (by kernel_rfl))
          have f5 := ev e5
          clear hk
          refine ⟨_, rfl, rfl, rfl, wp_value (v := .int .i64 RE) (w' := W) ?_ ⟨_, rfl, Below.refl _ _, rfl⟩⟩
          go_simp
        · clear hiq
          have e6 : a.eval (.tmp 34) = .bool RB := hk 6 (mem_of (by kernel_rfl))
          have f6 := ev e6
          clear hk
          refine ⟨_, rfl, rfl, rfl, wp_value (v := .bool RB) (w' := W) ?_ ⟨_, rfl, Below.refl _ _, rfl⟩⟩
          go_simp
        · clear hiq
          have e7 : a.eval (.tmp 35) = .int .i64 RE := hk 7 (mem_of (by kernel_rfl))
          have f7 := ev e7
          clear hk
          refine ⟨_, rfl, rfl, rfl, wp_value (v := .int .i64 RE) (w' := W) ?_ ⟨_, rfl, Below.refl _ _, rfl⟩⟩
          go_simp
      case post =>
        intro V2 W2 hbW2 hV2
        have u8 : V2 8 = .bool RB := hV2 8 (by omega)
        have u9 : V2 9 = .int .i64 RE := hV2 9 (by omega)
        have H2 := mkHid (bR.out.2.2.trans (hbW2.mono bR.out.2.2.size))
        clear hV2 hbW2
        simp only [putAll, reduceIte, Nat.reduceLT, Nat.reduceAdd, Nat.reduceSub]
        rw [u8, u9]
        simp only [Act.put, List.setIfInBounds_toArray, List.set_cons_zero, List.set_cons_succ]
        change wpList _ _ _ [] _ _
        go_wp2
        go_ret2
        exact ⟨rfl, H2.out⟩
end Go.Proofs.YtnnclhmhbmbkfaaGreatDoor
