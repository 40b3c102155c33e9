/- RangesWhole where the documents may not be, or nothing was done. -/
import Derived.Test.YtfcenidepkjdcaaDoorAwk
import Derived.Test.YtfcenidepkjdcaaDoorCud
namespace Go.Proofs.YtfcenidepkjdcaaDoor
open Go.RowKit Go.Shelf
attribute [local go_sem] Oper.semAt_some
set_option maxRecDepth 100000 in
set_option maxHeartbeats 8000000 in
theorem whole_bad (w : World) (table tb fl lo hi tt : ByteArray) (sh was is : Bool) (t : V.Tr) (x : V.Ad) (u : V.Tr) (y : V.Ad) (T U : V.Tr)
    (kaw : ∀ W, Below w.heap.size w W → Calls Tryd.prog 8 #[] W fun e w' => e = .returned (.bool true) ∧ Below W.heap.size W w')
    (kcut : ∀ W, Below w.heap.size w W → Calls Tryd.prog 7 #[.agg #[.string tt, .bool sh, .int .i64 t.k, .bool t.b, .int .i64 t.n, .string t.s, .slice x.pa t.m x.pc, .slice x.na t.q x.nc, .int .i64 u.k, .bool u.b, .int .i64 u.n, .string u.s, .slice y.pa u.m y.pc, .slice y.na u.q y.nc, .bool was, .bool is]] W fun e w' => ∃ A C, e = .returned (.tuple #[.agg #[.string tt, .bool sh, .int .i64 T.k, .bool T.b, .int .i64 T.n, .string T.s, .slice A.pa T.m A.pc, .slice A.na T.q A.nc, .int .i64 U.k, .bool U.b, .int .i64 U.n, .string U.s, .slice C.pa U.m C.pc, .slice C.na U.q C.nc, .bool was, .bool is], .bool false]) ∧ V.Lies w'.heap.size w' T A ∧ V.Lies w'.heap.size w' U C ∧ Below W.heap.size W w')
    : Calls Tryd.prog 6 #[.string table, .agg #[.string tb, .string fl, .string lo, .string hi], .agg #[.string tt, .bool sh, .int .i64 t.k, .bool t.b, .int .i64 t.n, .string t.s, .slice x.pa t.m x.pc, .slice x.na t.q x.nc, .int .i64 u.k, .bool u.b, .int .i64 u.n, .string u.s, .slice y.pa u.m y.pc, .slice y.na u.q y.nc, .bool was, .bool is]] w fun e w' => e = .returned (.bool true) ∧ Below w.heap.size w w' := by
  obtain ⟨w1, hw1⟩ : ∃ w1, (w.alloc (.cells #[.string tb, .string fl, .string lo, .string hi] 25)).alloc (.cells #[.string tt, .bool sh, .int .i64 t.k, .bool t.b, .int .i64 t.n, .string t.s, .slice x.pa t.m x.pc, .slice x.na t.q x.nc, .int .i64 u.k, .bool u.b, .int .i64 u.n, .string u.s, .slice y.pa u.m y.pc, .slice y.na u.q y.nc, .bool was, .bool is] 31) = w1 := ⟨_, rfl⟩
  have hb1 : Below w.heap.size w w1 := by rw [← hw1]; exact ((Below.refl _ w).alloc (Nat.le_refl _) _).alloc (by simp) _
  have r1 : w1.heap[w.heap.size]? = some (.cells #[.string tb, .string fl, .string lo, .string hi] 25 (0, 0)) := by rw [← hw1]; exact (Below.heap_alloc _ _ _ (by simp)).trans (heap_alloc_new _ _)
  have HW : Hid ((w.alloc (.cells #[.string tb, .string fl, .string lo, .string hi] 25)).alloc (.cells #[.string tt, .bool sh, .int .i64 t.k, .bool t.b, .int .i64 t.n, .string t.s, .slice x.pa t.m x.pc, .slice x.na t.q x.nc, .int .i64 u.k, .bool u.b, .int .i64 u.n, .string u.s, .slice y.pa u.m y.pc, .slice y.na u.q y.nc, .bool was, .bool is] 31) = w1) := hw1
  clear hw1
  go_enter Tryd.func6, Tryd.ntmps6
  go_wp2_with fail
  rw [HW.out]
  refine (kcut w1 hb1).mono ?_
  rintro e w2 ⟨A, C, rfl, lA, lC, hb2⟩
  obtain ⟨w3, hw3⟩ : ∃ w3, w2.alloc (.cells #[.string tt, .bool sh, .int .i64 T.k, .bool T.b, .int .i64 T.n, .string T.s, .slice A.pa T.m A.pc, .slice A.na T.q A.nc, .int .i64 U.k, .bool U.b, .int .i64 U.n, .string U.s, .slice C.pa U.m C.pc, .slice C.na U.q C.nc, .bool was, .bool is] 31) = w3 := ⟨_, rfl⟩
  have hb23 : Below w2.heap.size w2 w3 := by rw [← hw3]; exact (Below.refl _ w2).alloc (Nat.le_refl _) _
  have rx : w3.heap[w2.heap.size]? = some (.cells #[.string tt, .bool sh, .int .i64 T.k, .bool T.b, .int .i64 T.n, .string T.s, .slice A.pa T.m A.pc, .slice A.na T.q A.nc, .int .i64 U.k, .bool U.b, .int .i64 U.n, .string U.s, .slice C.pa U.m C.pc, .slice C.na U.q C.nc, .bool was, .bool is] 31 (0, 0)) := by rw [← hw3]; exact heap_alloc_new _ _
  have hb13 : Below w1.heap.size w1 w3 := hb2.trans (hb23.mono hb2.size)
  have rd : w3.heap[w.heap.size]? = some (.cells #[.string tb, .string fl, .string lo, .string hi] 25 (0, 0)) := (hb13.block _ (lt_of_row r1)).trans r1
  have hbw3 : Below w.heap.size w w3 := hb1.trans (hb13.mono hb1.size)
  have mA := lies_more lA hb23
  have mC := lies_more lC hb23
  have HX : Hid (w2.alloc (.cells #[.string tt, .bool sh, .int .i64 T.k, .bool T.b, .int .i64 T.n, .string T.s, .slice A.pa T.m A.pc, .slice A.na T.q A.nc, .int .i64 U.k, .bool U.b, .int .i64 U.n, .string U.s, .slice C.pa U.m C.pc, .slice C.na U.q C.nc, .bool was, .bool is] 31) = w3) := hw3
  clear hw3 hb2 lA lC r1 hb1 hb13 HW kcut hb23
  go_wp2_with fail
  rw [HX.out]
  obtain ⟨zx, hzx⟩ : ∃ z, w2.heap.size = z := ⟨_, rfl⟩
  rw [hzx] at rx ⊢
  clear hzx HX
  refine (kaw w3 hbw3).mono ?_
  rintro e w4 ⟨rfl, hb4⟩
  go_wp2_with fail
  go_ret
  exact ⟨rfl, hbw3.trans (hb4.mono hbw3.size)⟩
set_option maxRecDepth 100000 in
set_option maxHeartbeats 8000000 in
theorem whole_idle (w : World) (table tb fl lo hi tt : ByteArray) (t : V.Tr) (x : V.Ad) (u : V.Tr) (y : V.Ad) (T U : V.Tr)
    (kaw : ∀ W, Below w.heap.size w W → Calls Tryd.prog 8 #[] W fun e w' => e = .returned (.bool true) ∧ Below W.heap.size W w')
    (kcut : ∀ W, Below w.heap.size w W → Calls Tryd.prog 7 #[.agg #[.string tt, .bool false, .int .i64 t.k, .bool t.b, .int .i64 t.n, .string t.s, .slice x.pa t.m x.pc, .slice x.na t.q x.nc, .int .i64 u.k, .bool u.b, .int .i64 u.n, .string u.s, .slice y.pa u.m y.pc, .slice y.na u.q y.nc, .bool false, .bool false]] W fun e w' => ∃ A C, e = .returned (.tuple #[.agg #[.string tt, .bool false, .int .i64 T.k, .bool T.b, .int .i64 T.n, .string T.s, .slice A.pa T.m A.pc, .slice A.na T.q A.nc, .int .i64 U.k, .bool U.b, .int .i64 U.n, .string U.s, .slice C.pa U.m C.pc, .slice C.na U.q C.nc, .bool false, .bool false], .bool true]) ∧ V.Lies w'.heap.size w' T A ∧ V.Lies w'.heap.size w' U C ∧ Below W.heap.size W w')
    : Calls Tryd.prog 6 #[.string table, .agg #[.string tb, .string fl, .string lo, .string hi], .agg #[.string tt, .bool false, .int .i64 t.k, .bool t.b, .int .i64 t.n, .string t.s, .slice x.pa t.m x.pc, .slice x.na t.q x.nc, .int .i64 u.k, .bool u.b, .int .i64 u.n, .string u.s, .slice y.pa u.m y.pc, .slice y.na u.q y.nc, .bool false, .bool false]] w fun e w' => e = .returned (.bool true) ∧ Below w.heap.size w w' := by
  obtain ⟨w1, hw1⟩ : ∃ w1, (w.alloc (.cells #[.string tb, .string fl, .string lo, .string hi] 25)).alloc (.cells #[.string tt, .bool false, .int .i64 t.k, .bool t.b, .int .i64 t.n, .string t.s, .slice x.pa t.m x.pc, .slice x.na t.q x.nc, .int .i64 u.k, .bool u.b, .int .i64 u.n, .string u.s, .slice y.pa u.m y.pc, .slice y.na u.q y.nc, .bool false, .bool false] 31) = w1 := ⟨_, rfl⟩
  have hb1 : Below w.heap.size w w1 := by rw [← hw1]; exact ((Below.refl _ w).alloc (Nat.le_refl _) _).alloc (by simp) _
  have r1 : w1.heap[w.heap.size]? = some (.cells #[.string tb, .string fl, .string lo, .string hi] 25 (0, 0)) := by rw [← hw1]; exact (Below.heap_alloc _ _ _ (by simp)).trans (heap_alloc_new _ _)
  have HW : Hid ((w.alloc (.cells #[.string tb, .string fl, .string lo, .string hi] 25)).alloc (.cells #[.string tt, .bool false, .int .i64 t.k, .bool t.b, .int .i64 t.n, .string t.s, .slice x.pa t.m x.pc, .slice x.na t.q x.nc, .int .i64 u.k, .bool u.b, .int .i64 u.n, .string u.s, .slice y.pa u.m y.pc, .slice y.na u.q y.nc, .bool false, .bool false] 31) = w1) := hw1
  clear hw1
  go_enter Tryd.func6, Tryd.ntmps6
  go_wp2_with fail
  rw [HW.out]
  refine (kcut w1 hb1).mono ?_
  rintro e w2 ⟨A, C, rfl, lA, lC, hb2⟩
  obtain ⟨w3, hw3⟩ : ∃ w3, w2.alloc (.cells #[.string tt, .bool false, .int .i64 T.k, .bool T.b, .int .i64 T.n, .string T.s, .slice A.pa T.m A.pc, .slice A.na T.q A.nc, .int .i64 U.k, .bool U.b, .int .i64 U.n, .string U.s, .slice C.pa U.m C.pc, .slice C.na U.q C.nc, .bool false, .bool false] 31) = w3 := ⟨_, rfl⟩
  have hb23 : Below w2.heap.size w2 w3 := by rw [← hw3]; exact (Below.refl _ w2).alloc (Nat.le_refl _) _
  have rx : w3.heap[w2.heap.size]? = some (.cells #[.string tt, .bool false, .int .i64 T.k, .bool T.b, .int .i64 T.n, .string T.s, .slice A.pa T.m A.pc, .slice A.na T.q A.nc, .int .i64 U.k, .bool U.b, .int .i64 U.n, .string U.s, .slice C.pa U.m C.pc, .slice C.na U.q C.nc, .bool false, .bool false] 31 (0, 0)) := by rw [← hw3]; exact heap_alloc_new _ _
  have hb13 : Below w1.heap.size w1 w3 := hb2.trans (hb23.mono hb2.size)
  have rd : w3.heap[w.heap.size]? = some (.cells #[.string tb, .string fl, .string lo, .string hi] 25 (0, 0)) := (hb13.block _ (lt_of_row r1)).trans r1
  have hbw3 : Below w.heap.size w w3 := hb1.trans (hb13.mono hb1.size)
  have mA := lies_more lA hb23
  have mC := lies_more lC hb23
  have HX : Hid (w2.alloc (.cells #[.string tt, .bool false, .int .i64 T.k, .bool T.b, .int .i64 T.n, .string T.s, .slice A.pa T.m A.pc, .slice A.na T.q A.nc, .int .i64 U.k, .bool U.b, .int .i64 U.n, .string U.s, .slice C.pa U.m C.pc, .slice C.na U.q C.nc, .bool false, .bool false] 31) = w3) := hw3
  clear hw3 hb2 lA lC r1 hb1 hb13 HW kcut hb23
  go_wp2_with fail
  rw [HX.out]
  obtain ⟨zx, hzx⟩ : ∃ z, w2.heap.size = z := ⟨_, rfl⟩
  rw [hzx] at rx ⊢
  clear hzx HX
  refine (kaw w3 hbw3).mono ?_
  rintro e w4 ⟨rfl, hb4⟩
  go_wp2_with fail
  go_ret
  exact ⟨rfl, hbw3.trans (hb4.mono hbw3.size)⟩
end Go.Proofs.YtfcenidepkjdcaaDoor
