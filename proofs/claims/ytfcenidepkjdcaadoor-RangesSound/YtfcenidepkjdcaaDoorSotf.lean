/- RangesSound of one table, called. -/
import Derived.Test.YtfcenidepkjdcaaDoorSou
namespace Go.Proofs.YtfcenidepkjdcaaDoor
open Go.RowKit Go.Shelf
attribute [local go_sem] Oper.semAt_some
set_option maxRecDepth 100000 in
set_option maxHeartbeats 8000000 in
theorem sound_tf (w : World) (na nb nc : Int) (T U : V.Tr) (K M : ByteArray) (hab : (na == nb) = true) (hac : (na == nc) = false)
    (kaw : ∀ W, Below w.heap.size w W → Calls Tryd.prog 8 #[] W fun e w' => e = .returned (.bool true) ∧ Below W.heap.size W w')
    (kb : ∀ W, Calls Tryd.prog 15 #[.int .i64 nb] W fun e w' => (∃ v, e = .returned v ∧ LyV T v w') ∧ Below W.heap.size W w')
    (kc : ∀ W, Calls Tryd.prog 15 #[.int .i64 nc] W fun e w' => (∃ v, e = .returned v ∧ LyV U v w') ∧ Below W.heap.size W w')
    (kv : ∀ W, Calls Tryd.prog 17 #[.int .i64 na] W fun e w' => e = .returned (.agg #[.int .i64 2, .bool false, .int .i64 na, .string ⟨#[]⟩, .slice none 0 0, .slice none 0 0]) ∧ Below W.heap.size W w')
    (ke : ∀ W, Below w.heap.size w W → Calls Tryd.prog 19 #[.agg #[.int .i64 2, .bool false, .int .i64 na, .string ⟨#[]⟩, .slice none 0 0, .slice none 0 0]] W fun e w' => e = .returned (.agg #[.string K, .string M]) ∧ Below W.heap.size W w')
    (kp : ∀ W, Calls Tryd.prog 18 #[.string ⟨#[116]⟩, .string ⟨#[97]⟩, .agg #[.string K, .string M]] W fun e w' => e = .returned (.agg #[.string ⟨#[116]⟩, .string ⟨#[97]⟩, .string K, .string M]) ∧ Below W.heap.size W w')
    (kh : ∀ W A C, Below w.heap.size w W → V.Lies W.heap.size W T A → V.Lies W.heap.size W U C → Calls Tryd.prog 9 #[.agg #[.string ⟨#[116]⟩, .string ⟨#[97]⟩, .string K, .string M], .agg #[.string ⟨#[116]⟩, .bool false, .int .i64 T.k, .bool T.b, .int .i64 T.n, .string T.s, .slice A.pa T.m A.pc, .slice A.na T.q A.nc, .int .i64 U.k, .bool U.b, .int .i64 U.n, .string U.s, .slice C.pa U.m C.pc, .slice C.na U.q C.nc, .bool true, .bool true]] W fun e w' => e = .returned (.bool true) ∧ Below W.heap.size W w')
    (kw : ∀ W, Calls Tryd.prog 20 #[.string ⟨#[116]⟩] W fun e w' => e = .returned (.agg #[.string ⟨#[116]⟩, .string ⟨#[]⟩, .string ⟨#[]⟩, .string ⟨#[]⟩]) ∧ Below W.heap.size W w') :
    Calls Tryd.prog 5 #[.agg #[.int .i64 na, .int .i64 nb, .int .i64 nc], .bool false] w fun e w' => e = .returned (.bool true) ∧ Below w.heap.size w w' := by
  obtain ⟨w1, hw1⟩ : ∃ w1, w.alloc (.cells #[.int .i64 na, .int .i64 nb, .int .i64 nc] 46) = w1 := ⟨_, rfl⟩
  have hb1 : Below w.heap.size w w1 := by rw [← hw1]; exact (Below.refl _ w).alloc (Nat.le_refl _) _
  have r1 : w1.heap[w.heap.size]? = some (.cells #[.int .i64 na, .int .i64 nb, .int .i64 nc] 46 (0, 0)) := by rw [← hw1]; exact heap_alloc_new _ _
  have HW : Hid (w.alloc (.cells #[.int .i64 na, .int .i64 nb, .int .i64 nc] 46) = w1) := hw1
  have HAB : Hid ((na == nb) = true ∧ (na == nc) = false) := ⟨hab, hac⟩
  clear hw1 hab hac
  go_enter Tryd.func5, Tryd.ntmps5
  go_wp2_with fail
  rw [HW.out]
  refine B.any_tail (by kernel_rfl) 9 (by exact Nat.le_of_ble_eq_true rfl) (fun i => if i < 6 then i + 12 else i - 1) (B.mixR [] [.pointer (some ⟨w.heap.size, 0, none⟩), .int .i64 na, .pointer (some ⟨w.heap.size, 1, none⟩), .int .i64 nb, .pointer (some ⟨w.heap.size, 2, none⟩), .int .i64 nc, .int .i64 na, .int .i64 nb, .int .i64 nc]) (by kernel_rfl) (by kernel_rfl) (by kernel_rfl) (by kernel_rfl) (B.mixR_later _ _ (B.stab_nil)) ?step ?post
  case step =>
    intro iq hiq a W hrest hb hk
    have hp2 : a.eval (.tmp 2) = .pointer (some ⟨w.heap.size, 0, none⟩) := (hrest 2 (by intro iq2 hiq2; (repeat' split) <;> omega)).trans rfl
    have fp2 := B.ev hp2
    have hx2 : W.heap[w.heap.size]? = some (.cells #[.int .i64 na, .int .i64 nb, .int .i64 nc] 46 (0, 0)) := (hb.block _ (lt_of_row r1)).trans r1
    clear hrest
    obtain rfl | rfl | rfl | rfl | rfl | rfl | rfl | rfl | rfl : iq = 0 ∨ iq = 1 ∨ iq = 2 ∨ iq = 3 ∨ iq = 4 ∨ iq = 5 ∨ iq = 6 ∨ iq = 7 ∨ iq = 8 := by omega
    · clear hiq
      clear hk
      refine ⟨_, rfl, rfl, rfl, B.wp_value (v := .pointer (some ⟨w.heap.size, 0, none⟩)) (w' := W) ?_ ⟨_, rfl, Below.refl _ _, rfl⟩⟩
      go_simp
    · clear hiq
      have e0 : a.eval (.tmp 12) = .pointer (some ⟨w.heap.size, 0, none⟩) := hk 0 (B.mem_of (by kernel_rfl))
      have f0 := B.ev e0
      have hc0 := cell_of_row W w.heap.size 0 _ _ _ hx2
      clear hk
      refine ⟨_, rfl, rfl, rfl, B.wp_value (v := .int .i64 na) (w' := W) ?_ ⟨_, rfl, Below.refl _ _, rfl⟩⟩
      go_simp
    · clear hiq
      clear hk
      refine ⟨_, rfl, rfl, rfl, B.wp_value (v := .pointer (some ⟨w.heap.size, 1, none⟩)) (w' := W) ?_ ⟨_, rfl, Below.refl _ _, rfl⟩⟩
      go_simp
    · clear hiq
      have e2 : a.eval (.tmp 14) = .pointer (some ⟨w.heap.size, 1, none⟩) := hk 2 (B.mem_of (by kernel_rfl))
      have f2 := B.ev e2
      have hc1 := cell_of_row W w.heap.size 1 _ _ _ hx2
      clear hk
      refine ⟨_, rfl, rfl, rfl, B.wp_value (v := .int .i64 nb) (w' := W) ?_ ⟨_, rfl, Below.refl _ _, rfl⟩⟩
      go_simp
    · clear hiq
      clear hk
      refine ⟨_, rfl, rfl, rfl, B.wp_value (v := .pointer (some ⟨w.heap.size, 2, none⟩)) (w' := W) ?_ ⟨_, rfl, Below.refl _ _, rfl⟩⟩
      go_simp
    · clear hiq
      have e4 : a.eval (.tmp 16) = .pointer (some ⟨w.heap.size, 2, none⟩) := hk 4 (B.mem_of (by kernel_rfl))
      have f4 := B.ev e4
      have hc2 := cell_of_row W w.heap.size 2 _ _ _ hx2
      clear hk
      refine ⟨_, rfl, rfl, rfl, B.wp_value (v := .int .i64 nc) (w' := W) ?_ ⟨_, rfl, Below.refl _ _, rfl⟩⟩
      go_simp
    · clear hiq
      have e1 : a.eval (.tmp 13) = .int .i64 na := hk 1 (B.mem_of (by kernel_rfl))
      have f1 := B.ev e1
      clear hk
      refine ⟨_, rfl, rfl, rfl, B.wp_value (v := .int .i64 na) (w' := W) ?_ ⟨_, rfl, Below.refl _ _, rfl⟩⟩
      go_simp
    · clear hiq
      have e3 : a.eval (.tmp 15) = .int .i64 nb := hk 3 (B.mem_of (by kernel_rfl))
      have f3 := B.ev e3
      clear hk
      refine ⟨_, rfl, rfl, rfl, B.wp_value (v := .int .i64 nb) (w' := W) ?_ ⟨_, rfl, Below.refl _ _, rfl⟩⟩
      go_simp
    · clear hiq
      have e5 : a.eval (.tmp 17) = .int .i64 nc := hk 5 (B.mem_of (by kernel_rfl))
      have f5 := B.ev e5
      clear hk
      refine ⟨_, rfl, rfl, rfl, B.wp_value (v := .int .i64 nc) (w' := W) ?_ ⟨_, rfl, Below.refl _ _, rfl⟩⟩
      go_simp
  case post =>
    intro V1 W0 hbW hV
    have v1 : V1 6 = .int .i64 na := hV 6 (by omega)
    have v3 : V1 7 = .int .i64 nb := hV 7 (by omega)
    have v5 : V1 8 = .int .i64 nc := hV 8 (by omega)
    have hB0 : Below w.heap.size w W0 := hb1.trans (hbW.mono hb1.size)
    clear hV hbW hb1 r1 HW
    simp only [B.putAll, Nat.reduceAdd, Nat.reduceLT, Nat.reduceSub, if_true, if_false]
    rw [v1, v3, v5]
    simp only [Act.put, List.setIfInBounds_toArray, List.set_cons_zero, List.set_cons_succ]
    change wpList _ _ _ [] _ _
    go_wp2_with fail
    refine (kb W0).mono ?_
    rintro e w2 ⟨⟨_, rfl, A, rfl, hA⟩, hb2⟩
    have hB2 := hB0.trans (hb2.mono hB0.size)
    clear hB0 hb2 v1 v3 v5
    unfold V.Tr.val
    go_wp2_with fail
    refine (kc w2).mono ?_
    rintro e w3 ⟨⟨_, rfl, C, rfl, hC⟩, hb3⟩
    have hB3 := hB2.trans (hb3.mono hB2.size)
    have hA3 := lies_more hA hb3
    unfold V.Tr.val
    obtain ⟨w4, hw4⟩ : ∃ w4, w3.alloc (.cells #[.string ⟨#[116]⟩, .bool false, .int .i64 T.k, .bool T.b, .int .i64 T.n, .string T.s, .slice A.pa T.m A.pc, .slice A.na T.q A.nc, .int .i64 U.k, .bool U.b, .int .i64 U.n, .string U.s, .slice C.pa U.m C.pc, .slice C.na U.q C.nc, .bool true, .bool true] 31) = w4 := ⟨_, rfl⟩
    have hb4 : Below w3.heap.size w3 w4 := by rw [← hw4]; exact (Below.refl _ w3).alloc (Nat.le_refl _) _
    have r4 : w4.heap[w3.heap.size]? = some (.cells #[.string ⟨#[116]⟩, .bool false, .int .i64 T.k, .bool T.b, .int .i64 T.n, .string T.s, .slice A.pa T.m A.pc, .slice A.na T.q A.nc, .int .i64 U.k, .bool U.b, .int .i64 U.n, .string U.s, .slice C.pa U.m C.pc, .slice C.na U.q C.nc, .bool true, .bool true] 31 (0, 0)) := by rw [← hw4]; exact heap_alloc_new _ _
    have HX : Hid (w3.alloc (.cells #[.string ⟨#[116]⟩, .bool false, .int .i64 T.k, .bool T.b, .int .i64 T.n, .string T.s, .slice A.pa T.m A.pc, .slice A.na T.q A.nc, .int .i64 U.k, .bool U.b, .int .i64 U.n, .string U.s, .slice C.pa U.m C.pc, .slice C.na U.q C.nc, .bool true, .bool true] 31) = w4) := hw4
    have hB4 := hB3.trans (hb4.mono hB3.size)
    have hA4 := lies_more hA3 hb4
    have hC4 := lies_more hC hb4
    clear hw4 hb4 hA hA3 hC hB2 hb3 hB3 kb kc
    go_wp2_with fail
    rw [HX.out]
    obtain ⟨z, hz⟩ : ∃ z, w3.heap.size = z := ⟨_, rfl⟩
    rw [hz] at r4 ⊢
    clear hz HX
    refine B.any_tail (by kernel_rfl) 6 (by exact Nat.le_of_ble_eq_true rfl) (fun i => i + 27) (B.mixR [] [.int .i64 na, .agg #[.int .i64 2, .bool false, .int .i64 na, .string ⟨#[]⟩, .slice none 0 0, .slice none 0 0], .agg #[.string K, .string M], .agg #[.string ⟨#[116]⟩, .string ⟨#[97]⟩, .string K, .string M], .agg #[.string ⟨#[116]⟩, .bool false, .int .i64 T.k, .bool T.b, .int .i64 T.n, .string T.s, .slice A.pa T.m A.pc, .slice A.na T.q A.nc, .int .i64 U.k, .bool U.b, .int .i64 U.n, .string U.s, .slice C.pa U.m C.pc, .slice C.na U.q C.nc, .bool true, .bool true], .bool true]) (by kernel_rfl) (by kernel_rfl) (by kernel_rfl) (by kernel_rfl) (B.mixR_later _ _ (B.stab_nil)) ?step ?post
    case step =>
      intro iq hiq a W hrest hb hk
      have hp9 : a.eval (.tmp 9) = .pointer (some ⟨z, 0, none⟩) := (hrest 9 (by intro iq2 hiq2; (repeat' split) <;> omega)).trans rfl
      have fp9 := B.ev hp9
      have hx9 : W.heap[z]? = some (.cells #[.string ⟨#[116]⟩, .bool false, .int .i64 T.k, .bool T.b, .int .i64 T.n, .string T.s, .slice A.pa T.m A.pc, .slice A.na T.q A.nc, .int .i64 U.k, .bool U.b, .int .i64 U.n, .string U.s, .slice C.pa U.m C.pc, .slice C.na U.q C.nc, .bool true, .bool true] 31 (0, 0)) := (hb.block _ (lt_of_row r4)).trans r4
      have hp5 : a.eval (.tmp 5) = .int .i64 na := (hrest 5 (by intro iq2 hiq2; (repeat' split) <;> omega)).trans rfl
      have fp5 := B.ev hp5
      clear hrest
      obtain rfl | rfl | rfl | rfl | rfl | rfl : iq = 0 ∨ iq = 1 ∨ iq = 2 ∨ iq = 3 ∨ iq = 4 ∨ iq = 5 := by omega
      · clear hiq
        clear hk
        refine ⟨_, rfl, rfl, rfl, B.wp_value (v := .int .i64 na) (w' := W) ?_ ⟨_, rfl, Below.refl _ _, rfl⟩⟩
        go_simp
      · clear hiq
        have e0 : a.eval (.tmp 27) = .int .i64 na := hk 0 (B.mem_of (by kernel_rfl))
        have f0 := B.ev e0
        clear hk
        refine ⟨_, rfl, rfl, rfl, B.wp_enter (f := 17) (args := #[.int .i64 na]) ?_ ((kv W).mono ?_)⟩
        · go_simp
        · rintro e w2 ⟨rfl, hb2⟩
          exact ⟨_, rfl, _, rfl, hb2, rfl⟩
      · clear hiq
        have e1 : a.eval (.tmp 28) = .agg #[.int .i64 2, .bool false, .int .i64 na, .string ⟨#[]⟩, .slice none 0 0, .slice none 0 0] := hk 1 (B.mem_of (by kernel_rfl))
        have f1 := B.ev e1
        clear hk
        refine ⟨_, rfl, rfl, rfl, B.wp_enter (f := 19) (args := #[.agg #[.int .i64 2, .bool false, .int .i64 na, .string ⟨#[]⟩, .slice none 0 0, .slice none 0 0]]) ?_ ((ke W (hB4.trans (hb.mono hB4.size))).mono ?_)⟩
        · go_simp
        · rintro e w2 ⟨rfl, hb2⟩
          exact ⟨_, rfl, _, rfl, hb2, rfl⟩
      · clear hiq
        have e2 : a.eval (.tmp 29) = .agg #[.string K, .string M] := hk 2 (B.mem_of (by kernel_rfl))
        have f2 := B.ev e2
        clear hk
        refine ⟨_, rfl, rfl, rfl, B.wp_enter (f := 18) (args := #[.string ⟨#[116]⟩, .string ⟨#[97]⟩, .agg #[.string K, .string M]]) ?_ ((kp W).mono ?_)⟩
        · go_simp
        · rintro e w2 ⟨rfl, hb2⟩
          exact ⟨_, rfl, _, rfl, hb2, rfl⟩
      · clear hiq
        have hc0 := cell_of_row W z 0 _ _ _ hx9
        have hc1 := cell_of_row W z 1 _ _ _ hx9
        have hc2 := cell_of_row W z 2 _ _ _ hx9
        have hc3 := cell_of_row W z 3 _ _ _ hx9
        have hc4 := cell_of_row W z 4 _ _ _ hx9
        have hc5 := cell_of_row W z 5 _ _ _ hx9
        have hc6 := cell_of_row W z 6 _ _ _ hx9
        have hc7 := cell_of_row W z 7 _ _ _ hx9
        have hc8 := cell_of_row W z 8 _ _ _ hx9
        have hc9 := cell_of_row W z 9 _ _ _ hx9
        have hc10 := cell_of_row W z 10 _ _ _ hx9
        have hc11 := cell_of_row W z 11 _ _ _ hx9
        have hc12 := cell_of_row W z 12 _ _ _ hx9
        have hc13 := cell_of_row W z 13 _ _ _ hx9
        have hc14 := cell_of_row W z 14 _ _ _ hx9
        have hc15 := cell_of_row W z 15 _ _ _ hx9
        clear hk
        refine ⟨_, rfl, rfl, rfl, B.wp_value (v := .agg #[.string ⟨#[116]⟩, .bool false, .int .i64 T.k, .bool T.b, .int .i64 T.n, .string T.s, .slice A.pa T.m A.pc, .slice A.na T.q A.nc, .int .i64 U.k, .bool U.b, .int .i64 U.n, .string U.s, .slice C.pa U.m C.pc, .slice C.na U.q C.nc, .bool true, .bool true]) (w' := W) ?_ ⟨_, rfl, Below.refl _ _, rfl⟩⟩
        go_simp
      · clear hiq
        have e3 : a.eval (.tmp 30) = .agg #[.string ⟨#[116]⟩, .string ⟨#[97]⟩, .string K, .string M] := hk 3 (B.mem_of (by kernel_rfl))
        have f3 := B.ev e3
        have e4 : a.eval (.tmp 31) = .agg #[.string ⟨#[116]⟩, .bool false, .int .i64 T.k, .bool T.b, .int .i64 T.n, .string T.s, .slice A.pa T.m A.pc, .slice A.na T.q A.nc, .int .i64 U.k, .bool U.b, .int .i64 U.n, .string U.s, .slice C.pa U.m C.pc, .slice C.na U.q C.nc, .bool true, .bool true] := hk 4 (B.mem_of (by kernel_rfl))
        have f4 := B.ev e4
        clear hk
        refine ⟨_, rfl, rfl, rfl, B.wp_enter (f := 9) (args := #[.agg #[.string ⟨#[116]⟩, .string ⟨#[97]⟩, .string K, .string M], .agg #[.string ⟨#[116]⟩, .bool false, .int .i64 T.k, .bool T.b, .int .i64 T.n, .string T.s, .slice A.pa T.m A.pc, .slice A.na T.q A.nc, .int .i64 U.k, .bool U.b, .int .i64 U.n, .string U.s, .slice C.pa U.m C.pc, .slice C.na U.q C.nc, .bool true, .bool true]]) ?_ ((kh W A C (hB4.trans (hb.mono hB4.size)) (lies_more hA4 hb) (lies_more hC4 hb)).mono ?_)⟩
        · go_simp
        · rintro e w2 ⟨rfl, hb2⟩
          exact ⟨_, rfl, _, rfl, hb2, rfl⟩
    case post =>
      intro V2 W5 hbV hV
      have v5 : V2 5 = .bool true := hV 5 (by omega)
      have r5 := (hbV.block _ (lt_of_row r4)).trans r4
      have hB5 := hB4.trans (hbV.mono hB4.size)
      clear hV hbV hA4 hC4 r4 hB4 kh kp ke kv
      simp only [B.putAll, Nat.reduceAdd]
      rw [v5]
      simp only [Act.put, List.setIfInBounds_toArray, List.set_cons_zero, List.set_cons_succ]
      obtain ⟨hab, hac⟩ := HAB.out
      all_goals
        go_wp2_with fail
        refine (kaw W5 hB5).mono ?_
        rintro e w6 ⟨rfl, hb6⟩
        have r6 := (hb6.block _ (lt_of_row r5)).trans r5
        have hB6 := hB5.trans (hb6.mono hB5.size)
        clear hb6
        go_wp2_with fail
        refine (kw w6).mono ?_
        rintro e w7 ⟨rfl, hb7⟩
        have r7 := (hb7.block _ (lt_of_row r6)).trans r6
        have hB7 := hB6.trans (hb7.mono hB6.size)
        clear hb7 hab hac
        go_wp2_with fail
        refine (add_nil _ _ _ _ w7).mono ?_
        rintro e w8 ⟨rfl, hb8⟩
        have r8 := (hb8.block _ (lt_of_row r7)).trans r7
        have hB8 := hB7.trans (hb8.mono hB7.size)
        clear hb8
        go_wp2_with fail
        refine (all_nil w8).mono ?_
        rintro e w9 ⟨rfl, hb9⟩
        have r9 := (hb9.block _ (lt_of_row r8)).trans r8
        have hB9 := hB8.trans (hb9.mono hB8.size)
        clear hb9
        have d0 := cell_of_row w9 _ 0 _ _ _ r9
        have d1 := cell_of_row w9 _ 1 _ _ _ r9
        have d2 := cell_of_row w9 _ 2 _ _ _ r9
        have d3 := cell_of_row w9 _ 3 _ _ _ r9
        have d4 := cell_of_row w9 _ 4 _ _ _ r9
        have d5 := cell_of_row w9 _ 5 _ _ _ r9
        have d6 := cell_of_row w9 _ 6 _ _ _ r9
        have d7 := cell_of_row w9 _ 7 _ _ _ r9
        have d8 := cell_of_row w9 _ 8 _ _ _ r9
        have d9 := cell_of_row w9 _ 9 _ _ _ r9
        have d10 := cell_of_row w9 _ 10 _ _ _ r9
        have d11 := cell_of_row w9 _ 11 _ _ _ r9
        have d12 := cell_of_row w9 _ 12 _ _ _ r9
        have d13 := cell_of_row w9 _ 13 _ _ _ r9
        have d14 := cell_of_row w9 _ 14 _ _ _ r9
        have d15 := cell_of_row w9 _ 15 _ _ _ r9
        go_wp2_with fail
        refine (hit_nil _ _ _ _).mono ?_
        rintro e w10 ⟨rfl, hb10⟩
        have hB10 := (hB9.alloc hB9.size _).trans (hb10.mono (by simp; exact Nat.le_succ_of_le hB9.size))
        clear hb10
        go_wp2_with fail
        refine (clone_nil w10).mono ?_
        rintro e w11 ⟨rfl, hb11⟩
        have hB11 := hB10.trans (hb11.mono hB10.size)
        clear hb11
        go_wp2_with fail
        refine (all_nil w11).mono ?_
        rintro e w12 ⟨rfl, hb12⟩
        go_wp2_with fail
        go_ret
        exact ⟨rfl, hB11.trans (hb12.mono hB11.size)⟩
end Go.Proofs.YtfcenidepkjdcaaDoor
