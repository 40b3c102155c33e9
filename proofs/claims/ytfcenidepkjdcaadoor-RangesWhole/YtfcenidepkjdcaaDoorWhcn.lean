/- RangesWhole: one of its cases. -/
import Derived.Test.YtfcenidepkjdcaaDoorAwk
import Derived.Test.YtfcenidepkjdcaaDoorCud
namespace Go.Proofs.YtfcenidepkjdcaaDoor
open Go.RowKit Go.Shelf
attribute [local go_sem] Oper.semAt_some
set_option maxRecDepth 100000 in
set_option maxHeartbeats 8000000 in
theorem whole_new_false (w : World) (table tb fl lo hi tt : ByteArray) (sh : Bool) (t : V.Tr) (x : V.Ad) (u : V.Tr) (y : V.Ad) (T U : V.Tr)
    (kaw : ∀ W, Below w.heap.size w W → Calls Tryd.prog 8 #[] W fun e w' => e = .returned (.bool true) ∧ Below W.heap.size W w')
    (kcut : ∀ W, Below w.heap.size w W → Calls Tryd.prog 7 #[.agg #[.string tt, .bool sh, .int .i64 t.k, .bool t.b, .int .i64 t.n, .string t.s, .slice x.pa t.m x.pc, .slice x.na t.q x.nc, .int .i64 u.k, .bool u.b, .int .i64 u.n, .string u.s, .slice y.pa u.m y.pc, .slice y.na u.q y.nc, .bool false, .bool true]] W fun e w' => ∃ A C, e = .returned (.tuple #[.agg #[.string tt, .bool sh, .int .i64 T.k, .bool T.b, .int .i64 T.n, .string T.s, .slice A.pa T.m A.pc, .slice A.na T.q A.nc, .int .i64 U.k, .bool U.b, .int .i64 U.n, .string U.s, .slice C.pa U.m C.pc, .slice C.na U.q C.nc, .bool false, .bool true], .bool true]) ∧ V.Lies w'.heap.size w' T A ∧ V.Lies w'.heap.size w' U C ∧ Below W.heap.size W w')
    (p1 p2 p3 : ByteArray) (hq : (tt.toList == table.toList) = false)
    (kwh : ∀ W, Calls Tryd.prog 20 #[.string table] W fun e w' => e = .returned (.agg #[.string table, .string ⟨#[]⟩, .string ⟨#[]⟩, .string ⟨#[]⟩]) ∧ Below W.heap.size W w')
    (khw : ∀ W A C, Below w.heap.size w W → V.Lies W.heap.size W T A → V.Lies W.heap.size W U C → Calls Tryd.prog 9 #[.agg #[.string table, .string ⟨#[]⟩, .string ⟨#[]⟩, .string ⟨#[]⟩], .agg #[.string tt, .bool sh, .int .i64 T.k, .bool T.b, .int .i64 T.n, .string T.s, .slice A.pa T.m A.pc, .slice A.na T.q A.nc, .int .i64 U.k, .bool U.b, .int .i64 U.n, .string U.s, .slice C.pa U.m C.pc, .slice C.na U.q C.nc, .bool false, .bool true]] W fun e w' => e = .returned (.bool false) ∧ Below W.heap.size W w')
    (kpt : ∀ W, Calls Tryd.prog 18 #[.string table, .string fl, .agg #[.string lo, .string hi]] W fun e w' => e = .returned (.agg #[.string table, .string p1, .string p2, .string p3]) ∧ Below W.heap.size W w')
    (khp : ∀ W A C, Below w.heap.size w W → V.Lies W.heap.size W T A → V.Lies W.heap.size W U C → Calls Tryd.prog 9 #[.agg #[.string table, .string p1, .string p2, .string p3], .agg #[.string tt, .bool sh, .int .i64 T.k, .bool T.b, .int .i64 T.n, .string T.s, .slice A.pa T.m A.pc, .slice A.na T.q A.nc, .int .i64 U.k, .bool U.b, .int .i64 U.n, .string U.s, .slice C.pa U.m C.pc, .slice C.na U.q C.nc, .bool false, .bool true]] W fun e w' => e = .returned (.bool false) ∧ Below W.heap.size W w')
    : Calls Tryd.prog 6 #[.string table, .agg #[.string tb, .string fl, .string lo, .string hi], .agg #[.string tt, .bool sh, .int .i64 t.k, .bool t.b, .int .i64 t.n, .string t.s, .slice x.pa t.m x.pc, .slice x.na t.q x.nc, .int .i64 u.k, .bool u.b, .int .i64 u.n, .string u.s, .slice y.pa u.m y.pc, .slice y.na u.q y.nc, .bool false, .bool true]] w fun e w' => e = .returned (.bool true) ∧ Below w.heap.size w w' := by
  obtain ⟨w1, hw1⟩ : ∃ w1, (w.alloc (.cells #[.string tb, .string fl, .string lo, .string hi] 25)).alloc (.cells #[.string tt, .bool sh, .int .i64 t.k, .bool t.b, .int .i64 t.n, .string t.s, .slice x.pa t.m x.pc, .slice x.na t.q x.nc, .int .i64 u.k, .bool u.b, .int .i64 u.n, .string u.s, .slice y.pa u.m y.pc, .slice y.na u.q y.nc, .bool false, .bool true] 31) = w1 := ⟨_, rfl⟩
  have hb1 : Below w.heap.size w w1 := by rw [← hw1]; exact ((Below.refl _ w).alloc (Nat.le_refl _) _).alloc (by simp) _
  have r1 : w1.heap[w.heap.size]? = some (.cells #[.string tb, .string fl, .string lo, .string hi] 25 (0, 0)) := by rw [← hw1]; exact (Below.heap_alloc _ _ _ (by simp)).trans (heap_alloc_new _ _)
  have HW : Hid ((w.alloc (.cells #[.string tb, .string fl, .string lo, .string hi] 25)).alloc (.cells #[.string tt, .bool sh, .int .i64 t.k, .bool t.b, .int .i64 t.n, .string t.s, .slice x.pa t.m x.pc, .slice x.na t.q x.nc, .int .i64 u.k, .bool u.b, .int .i64 u.n, .string u.s, .slice y.pa u.m y.pc, .slice y.na u.q y.nc, .bool false, .bool true] 31) = w1) := hw1
  clear hw1
  go_enter Tryd.func6, Tryd.ntmps6
  go_wp2_with fail
  rw [HW.out]
  refine (kcut w1 hb1).mono ?_
  rintro e w2 ⟨A, C, rfl, lA, lC, hb2⟩
  obtain ⟨w3, hw3⟩ : ∃ w3, w2.alloc (.cells #[.string tt, .bool sh, .int .i64 T.k, .bool T.b, .int .i64 T.n, .string T.s, .slice A.pa T.m A.pc, .slice A.na T.q A.nc, .int .i64 U.k, .bool U.b, .int .i64 U.n, .string U.s, .slice C.pa U.m C.pc, .slice C.na U.q C.nc, .bool false, .bool true] 31) = w3 := ⟨_, rfl⟩
  have hb23 : Below w2.heap.size w2 w3 := by rw [← hw3]; exact (Below.refl _ w2).alloc (Nat.le_refl _) _
  have rx : w3.heap[w2.heap.size]? = some (.cells #[.string tt, .bool sh, .int .i64 T.k, .bool T.b, .int .i64 T.n, .string T.s, .slice A.pa T.m A.pc, .slice A.na T.q A.nc, .int .i64 U.k, .bool U.b, .int .i64 U.n, .string U.s, .slice C.pa U.m C.pc, .slice C.na U.q C.nc, .bool false, .bool true] 31 (0, 0)) := by rw [← hw3]; exact heap_alloc_new _ _
  have hb13 : Below w1.heap.size w1 w3 := hb2.trans (hb23.mono hb2.size)
  have rd : w3.heap[w.heap.size]? = some (.cells #[.string tb, .string fl, .string lo, .string hi] 25 (0, 0)) := (hb13.block _ (lt_of_row r1)).trans r1
  have hbw3 : Below w.heap.size w w3 := hb1.trans (hb13.mono hb1.size)
  have mA := lies_more lA hb23
  have mC := lies_more lC hb23
  have HX : Hid (w2.alloc (.cells #[.string tt, .bool sh, .int .i64 T.k, .bool T.b, .int .i64 T.n, .string T.s, .slice A.pa T.m A.pc, .slice A.na T.q A.nc, .int .i64 U.k, .bool U.b, .int .i64 U.n, .string U.s, .slice C.pa U.m C.pc, .slice C.na U.q C.nc, .bool false, .bool true] 31) = w3) := hw3
  clear hw3 hb2 lA lC r1 hb1 hb13 HW kcut hb23
  go_wp2_with fail
  rw [HX.out]
  obtain ⟨zx, hzx⟩ : ∃ z, w2.heap.size = z := ⟨_, rfl⟩
  rw [hzx] at rx ⊢
  clear hzx HX
  refine B.any_tail (by kernel_rfl) 4 (by exact Nat.le_of_ble_eq_true rfl) (fun i => i + 34) (B.mixR [] [.string table, .agg #[.string table, .string ⟨#[]⟩, .string ⟨#[]⟩, .string ⟨#[]⟩], .agg #[.string tt, .bool sh, .int .i64 T.k, .bool T.b, .int .i64 T.n, .string T.s, .slice A.pa T.m A.pc, .slice A.na T.q A.nc, .int .i64 U.k, .bool U.b, .int .i64 U.n, .string U.s, .slice C.pa U.m C.pc, .slice C.na U.q C.nc, .bool false, .bool true], .bool false]) (by kernel_rfl) (by kernel_rfl) (by kernel_rfl) (by kernel_rfl) (B.mixR_later _ _ (B.stab_nil)) ?step ?post
  case step =>
    intro iq hiq a W hrest hb hk
    have hp7 : a.eval (.tmp 7) = .pointer (some ⟨zx, 0, none⟩) := (hrest 7 (by intro iq2 hiq2; (repeat' split) <;> omega)).trans rfl
    have fp7 := B.ev hp7
    have hx7 : W.heap[zx]? = some (.cells #[.string tt, .bool sh, .int .i64 T.k, .bool T.b, .int .i64 T.n, .string T.s, .slice A.pa T.m A.pc, .slice A.na T.q A.nc, .int .i64 U.k, .bool U.b, .int .i64 U.n, .string U.s, .slice C.pa U.m C.pc, .slice C.na U.q C.nc, .bool false, .bool true] 31 (0, 0)) := (hb.block _ (lt_of_row rx)).trans rx
    have hp0 : a.eval (.tmp 0) = .string table := (hrest 0 (by intro iq2 hiq2; (repeat' split) <;> omega)).trans rfl
    have fp0 := B.ev hp0
    clear hrest
    obtain rfl | rfl | rfl | rfl : iq = 0 ∨ iq = 1 ∨ iq = 2 ∨ iq = 3 := by omega
    · clear hiq
      clear hk
      refine ⟨_, rfl, rfl, rfl, B.wp_value (v := .string table) (w' := W) ?_ ⟨_, rfl, Below.refl _ _, rfl⟩⟩
      go_simp
    · clear hiq
      have e0 : a.eval (.tmp 34) = .string table := hk 0 (B.mem_of (by kernel_rfl))
      have f0 := B.ev e0
      clear hk
      refine ⟨_, rfl, rfl, rfl, B.wp_enter (f := 20) (args := #[.string table]) ?_ ((kwh W).mono ?_)⟩
      · go_simp
      · rintro e w2 ⟨rfl, hb2⟩
        exact ⟨_, rfl, _, rfl, hb2, rfl⟩
    · clear hiq
      have hc0 := cell_of_row W zx 0 _ _ _ hx7
      have hc1 := cell_of_row W zx 1 _ _ _ hx7
      have hc2 := cell_of_row W zx 2 _ _ _ hx7
      have hc3 := cell_of_row W zx 3 _ _ _ hx7
      have hc4 := cell_of_row W zx 4 _ _ _ hx7
      have hc5 := cell_of_row W zx 5 _ _ _ hx7
      have hc6 := cell_of_row W zx 6 _ _ _ hx7
      have hc7 := cell_of_row W zx 7 _ _ _ hx7
      have hc8 := cell_of_row W zx 8 _ _ _ hx7
      have hc9 := cell_of_row W zx 9 _ _ _ hx7
      have hc10 := cell_of_row W zx 10 _ _ _ hx7
      have hc11 := cell_of_row W zx 11 _ _ _ hx7
      have hc12 := cell_of_row W zx 12 _ _ _ hx7
      have hc13 := cell_of_row W zx 13 _ _ _ hx7
      have hc14 := cell_of_row W zx 14 _ _ _ hx7
      have hc15 := cell_of_row W zx 15 _ _ _ hx7
      clear hk
      refine ⟨_, rfl, rfl, rfl, B.wp_value (v := .agg #[.string tt, .bool sh, .int .i64 T.k, .bool T.b, .int .i64 T.n, .string T.s, .slice A.pa T.m A.pc, .slice A.na T.q A.nc, .int .i64 U.k, .bool U.b, .int .i64 U.n, .string U.s, .slice C.pa U.m C.pc, .slice C.na U.q C.nc, .bool false, .bool true]) (w' := W) ?_ ⟨_, rfl, Below.refl _ _, rfl⟩⟩
      go_simp
    · clear hiq
      have e1 : a.eval (.tmp 35) = .agg #[.string table, .string ⟨#[]⟩, .string ⟨#[]⟩, .string ⟨#[]⟩] := hk 1 (B.mem_of (by kernel_rfl))
      have f1 := B.ev e1
      have e2 : a.eval (.tmp 36) = .agg #[.string tt, .bool sh, .int .i64 T.k, .bool T.b, .int .i64 T.n, .string T.s, .slice A.pa T.m A.pc, .slice A.na T.q A.nc, .int .i64 U.k, .bool U.b, .int .i64 U.n, .string U.s, .slice C.pa U.m C.pc, .slice C.na U.q C.nc, .bool false, .bool true] := hk 2 (B.mem_of (by kernel_rfl))
      have f2 := B.ev e2
      clear hk
      refine ⟨_, rfl, rfl, rfl, B.wp_enter (f := 9) (args := #[.agg #[.string table, .string ⟨#[]⟩, .string ⟨#[]⟩, .string ⟨#[]⟩], .agg #[.string tt, .bool sh, .int .i64 T.k, .bool T.b, .int .i64 T.n, .string T.s, .slice A.pa T.m A.pc, .slice A.na T.q A.nc, .int .i64 U.k, .bool U.b, .int .i64 U.n, .string U.s, .slice C.pa U.m C.pc, .slice C.na U.q C.nc, .bool false, .bool true]]) ?_ ((khw W A C (hbw3.trans (hb.mono hbw3.size)) (lies_more mA hb) (lies_more mC hb)).mono ?_)⟩
      · go_simp
      · rintro e w2 ⟨rfl, hb2⟩
        exact ⟨_, rfl, _, rfl, hb2, rfl⟩
  case post =>
    intro V1 W1 hbV hV
    have v3 : V1 3 = .bool false := hV 3 (by omega)
    have rx1 := (hbV.block _ (lt_of_row rx)).trans rx
    have rd1 := (hbV.block _ (lt_of_row rd)).trans rd
    have hbw1 : Below w.heap.size w W1 := hbw3.trans (hbV.mono hbw3.size)
    have mA1 := lies_more mA hbV
    have mC1 := lies_more mC hbV
    clear hV hbV mA mC rx rd hbw3 khw
    simp only [B.putAll, Nat.reduceAdd]
    rw [v3]
    simp only [Act.put, List.setIfInBounds_toArray, List.set_cons_zero, List.set_cons_succ]
    go_wp2_with fail
    refine B.any_tail (by kernel_rfl) 8 (by exact Nat.le_of_ble_eq_true rfl) (fun i => i + 38) (B.mixR [] [.string table, .pointer (some ⟨w.heap.size, 1, none⟩), .string fl, .pointer (some ⟨w.heap.size, 2, none⟩), .agg #[.string lo, .string hi], .agg #[.string table, .string p1, .string p2, .string p3], .agg #[.string tt, .bool sh, .int .i64 T.k, .bool T.b, .int .i64 T.n, .string T.s, .slice A.pa T.m A.pc, .slice A.na T.q A.nc, .int .i64 U.k, .bool U.b, .int .i64 U.n, .string U.s, .slice C.pa U.m C.pc, .slice C.na U.q C.nc, .bool false, .bool true], .bool false]) (by kernel_rfl) (by kernel_rfl) (by kernel_rfl) (by kernel_rfl) (B.mixR_later _ _ (B.stab_nil)) ?step ?post
    case step =>
      intro iq hiq a W hrest hb hk
      have hp4 : a.eval (.tmp 4) = .pointer (some ⟨w.heap.size, 0, none⟩) := (hrest 4 (by intro iq2 hiq2; (repeat' split) <;> omega)).trans rfl
      have fp4 := B.ev hp4
      have hx4 : W.heap[w.heap.size]? = some (.cells #[.string tb, .string fl, .string lo, .string hi] 25 (0, 0)) := (hb.block _ (lt_of_row rd1)).trans rd1
      have hp7 : a.eval (.tmp 7) = .pointer (some ⟨zx, 0, none⟩) := (hrest 7 (by intro iq2 hiq2; (repeat' split) <;> omega)).trans rfl
      have fp7 := B.ev hp7
      have hx7 : W.heap[zx]? = some (.cells #[.string tt, .bool sh, .int .i64 T.k, .bool T.b, .int .i64 T.n, .string T.s, .slice A.pa T.m A.pc, .slice A.na T.q A.nc, .int .i64 U.k, .bool U.b, .int .i64 U.n, .string U.s, .slice C.pa U.m C.pc, .slice C.na U.q C.nc, .bool false, .bool true] 31 (0, 0)) := (hb.block _ (lt_of_row rx1)).trans rx1
      have hp0 : a.eval (.tmp 0) = .string table := (hrest 0 (by intro iq2 hiq2; (repeat' split) <;> omega)).trans rfl
      have fp0 := B.ev hp0
      clear hrest
      obtain rfl | rfl | rfl | rfl | rfl | rfl | rfl | rfl : iq = 0 ∨ iq = 1 ∨ iq = 2 ∨ iq = 3 ∨ iq = 4 ∨ iq = 5 ∨ iq = 6 ∨ iq = 7 := by omega
      · clear hiq
        clear hk
        refine ⟨_, rfl, rfl, rfl, B.wp_value (v := .string table) (w' := W) ?_ ⟨_, rfl, Below.refl _ _, rfl⟩⟩
        go_simp
      · clear hiq
        clear hk
        refine ⟨_, rfl, rfl, rfl, B.wp_value (v := .pointer (some ⟨w.heap.size, 1, none⟩)) (w' := W) ?_ ⟨_, rfl, Below.refl _ _, rfl⟩⟩
        go_simp
      · clear hiq
        have e1 : a.eval (.tmp 39) = .pointer (some ⟨w.heap.size, 1, none⟩) := hk 1 (B.mem_of (by kernel_rfl))
        have f1 := B.ev e1
        have hc1 := cell_of_row W w.heap.size 1 _ _ _ hx4
        clear hk
        refine ⟨_, rfl, rfl, rfl, B.wp_value (v := .string fl) (w' := W) ?_ ⟨_, rfl, Below.refl _ _, rfl⟩⟩
        go_simp
      · clear hiq
        clear hk
        refine ⟨_, rfl, rfl, rfl, B.wp_value (v := .pointer (some ⟨w.heap.size, 2, none⟩)) (w' := W) ?_ ⟨_, rfl, Below.refl _ _, rfl⟩⟩
        go_simp
      · clear hiq
        have e3 : a.eval (.tmp 41) = .pointer (some ⟨w.heap.size, 2, none⟩) := hk 3 (B.mem_of (by kernel_rfl))
        have f3 := B.ev e3
        have hc2 := cell_of_row W w.heap.size 2 _ _ _ hx4
        have hc3 := cell_of_row W w.heap.size 3 _ _ _ hx4
        clear hk
        refine ⟨_, rfl, rfl, rfl, B.wp_value (v := .agg #[.string lo, .string hi]) (w' := W) ?_ ⟨_, rfl, Below.refl _ _, rfl⟩⟩
        go_simp
      · clear hiq
        have e0 : a.eval (.tmp 38) = .string table := hk 0 (B.mem_of (by kernel_rfl))
        have f0 := B.ev e0
        have e2 : a.eval (.tmp 40) = .string fl := hk 2 (B.mem_of (by kernel_rfl))
        have f2 := B.ev e2
        have e4 : a.eval (.tmp 42) = .agg #[.string lo, .string hi] := hk 4 (B.mem_of (by kernel_rfl))
        have f4 := B.ev e4
        clear hk
        refine ⟨_, rfl, rfl, rfl, B.wp_enter (f := 18) (args := #[.string table, .string fl, .agg #[.string lo, .string hi]]) ?_ ((kpt W).mono ?_)⟩
        · go_simp
        · rintro e w2 ⟨rfl, hb2⟩
          exact ⟨_, rfl, _, rfl, hb2, rfl⟩
      · clear hiq
        have hc0 := cell_of_row W zx 0 _ _ _ hx7
        have hc1 := cell_of_row W zx 1 _ _ _ hx7
        have hc2 := cell_of_row W zx 2 _ _ _ hx7
        have hc3 := cell_of_row W zx 3 _ _ _ hx7
        have hc4 := cell_of_row W zx 4 _ _ _ hx7
        have hc5 := cell_of_row W zx 5 _ _ _ hx7
        have hc6 := cell_of_row W zx 6 _ _ _ hx7
        have hc7 := cell_of_row W zx 7 _ _ _ hx7
        have hc8 := cell_of_row W zx 8 _ _ _ hx7
        have hc9 := cell_of_row W zx 9 _ _ _ hx7
        have hc10 := cell_of_row W zx 10 _ _ _ hx7
        have hc11 := cell_of_row W zx 11 _ _ _ hx7
        have hc12 := cell_of_row W zx 12 _ _ _ hx7
        have hc13 := cell_of_row W zx 13 _ _ _ hx7
        have hc14 := cell_of_row W zx 14 _ _ _ hx7
        have hc15 := cell_of_row W zx 15 _ _ _ hx7
        clear hk
        refine ⟨_, rfl, rfl, rfl, B.wp_value (v := .agg #[.string tt, .bool sh, .int .i64 T.k, .bool T.b, .int .i64 T.n, .string T.s, .slice A.pa T.m A.pc, .slice A.na T.q A.nc, .int .i64 U.k, .bool U.b, .int .i64 U.n, .string U.s, .slice C.pa U.m C.pc, .slice C.na U.q C.nc, .bool false, .bool true]) (w' := W) ?_ ⟨_, rfl, Below.refl _ _, rfl⟩⟩
        go_simp
      · clear hiq
        have e5 : a.eval (.tmp 43) = .agg #[.string table, .string p1, .string p2, .string p3] := hk 5 (B.mem_of (by kernel_rfl))
        have f5 := B.ev e5
        have e6 : a.eval (.tmp 44) = .agg #[.string tt, .bool sh, .int .i64 T.k, .bool T.b, .int .i64 T.n, .string T.s, .slice A.pa T.m A.pc, .slice A.na T.q A.nc, .int .i64 U.k, .bool U.b, .int .i64 U.n, .string U.s, .slice C.pa U.m C.pc, .slice C.na U.q C.nc, .bool false, .bool true] := hk 6 (B.mem_of (by kernel_rfl))
        have f6 := B.ev e6
        clear hk
        refine ⟨_, rfl, rfl, rfl, B.wp_enter (f := 9) (args := #[.agg #[.string table, .string p1, .string p2, .string p3], .agg #[.string tt, .bool sh, .int .i64 T.k, .bool T.b, .int .i64 T.n, .string T.s, .slice A.pa T.m A.pc, .slice A.na T.q A.nc, .int .i64 U.k, .bool U.b, .int .i64 U.n, .string U.s, .slice C.pa U.m C.pc, .slice C.na U.q C.nc, .bool false, .bool true]]) ?_ ((khp W A C (hbw1.trans (hb.mono hbw1.size)) (lies_more mA1 hb) (lies_more mC1 hb)).mono ?_)⟩
        · go_simp
        · rintro e w2 ⟨rfl, hb2⟩
          exact ⟨_, rfl, _, rfl, hb2, rfl⟩
    case post =>
      intro V2 W2 hbV hV
      have v7 : V2 7 = .bool false := hV 7 (by omega)
      have rx2 := (hbV.block _ (lt_of_row rx1)).trans rx1
      have hbw2 : Below w.heap.size w W2 := hbw1.trans (hbV.mono hbw1.size)
      clear hV hbV mA1 mC1 rx1 rd1 hbw1 khp kpt
      simp only [B.putAll, Nat.reduceAdd]
      rw [v7]
      simp only [Act.put, List.setIfInBounds_toArray, List.set_cons_zero, List.set_cons_succ]
      go_wp2_with fail
      refine (kaw W2 hbw2).mono ?_
      rintro e w5 ⟨rfl, hb5⟩
      have rx5 := (hb5.block _ (lt_of_row rx2)).trans rx2
      have hbw5 : Below w.heap.size w w5 := hbw2.trans (hb5.mono hbw2.size)
      have d0 := cell_of_row w5 _ 0 _ _ _ rx5
      clear hb5 hbw2 kaw rx2
      go_wp2_with fail
      refine (kwh w5).mono ?_
      rintro e w6 ⟨rfl, hb6⟩
      go_wp2_with fail
      go_ret
      exact ⟨rfl, hbw5.trans (hb6.mono hbw5.size)⟩
end Go.Proofs.YtfcenidepkjdcaaDoor
