/- Hits of a document that was there. Hits where the touch is of the shape, or of nothing. Hits of a document that came. Hits of a document that was there. -/
import Derived.Test.YtfcenidepkjdcaaDoorXaq
namespace Go.Proofs.YtfcenidepkjdcaaDoor
open Go.RowKit Go.Shelf
attribute [local go_sem] Oper.semAt_some
set_option maxRecDepth 100000 in
set_option maxHeartbeats 8000000 in
theorem hit_all_old {w : World} (tb fl lo hi tt : ByteArray) (is : Bool) (t : V.Tr) (x : V.Ad) (u : V.Tr) (y : V.Ad) (htt : (tb.toList == tt.toList) = true) (hfl : fl.toList.isEmpty = true) :
    Calls Tryd.prog 9 #[.agg #[.string tb, .string fl, .string lo, .string hi], .agg #[.string tt, .bool false, .int .i64 t.k, .bool t.b, .int .i64 t.n, .string t.s, .slice x.pa t.m x.pc, .slice x.na t.q x.nc, .int .i64 u.k, .bool u.b, .int .i64 u.n, .string u.s, .slice y.pa u.m y.pc, .slice y.na u.q y.nc, .bool true, .bool is]] w fun e w' => e = .returned (.bool true) ∧ Below w.heap.size w w' := by
  obtain ⟨w1, hw1⟩ : ∃ w1, (w.alloc (.cells #[.string tb, .string fl, .string lo, .string hi] 25)).alloc (.cells #[.string tt, .bool false, .int .i64 t.k, .bool t.b, .int .i64 t.n, .string t.s, .slice x.pa t.m x.pc, .slice x.na t.q x.nc, .int .i64 u.k, .bool u.b, .int .i64 u.n, .string u.s, .slice y.pa u.m y.pc, .slice y.na u.q y.nc, .bool true, .bool is] 31) = w1 := ⟨_, rfl⟩
  have hb1 : Below w.heap.size w w1 := by rw [← hw1]; exact ((Below.refl _ w).alloc (Nat.le_refl _) _).alloc (by simp) _
  have r1 : w1.heap[w.heap.size + 1]? = some (.cells #[.string tt, .bool false, .int .i64 t.k, .bool t.b, .int .i64 t.n, .string t.s, .slice x.pa t.m x.pc, .slice x.na t.q x.nc, .int .i64 u.k, .bool u.b, .int .i64 u.n, .string u.s, .slice y.pa u.m y.pc, .slice y.na u.q y.nc, .bool true, .bool is] 31 (0, 0)) := by
    rw [← hw1]
    have := heap_alloc_new (w.alloc (.cells #[.string tb, .string fl, .string lo, .string hi] 25)) (.cells #[.string tt, .bool false, .int .i64 t.k, .bool t.b, .int .i64 t.n, .string t.s, .slice x.pa t.m x.pc, .slice x.na t.q x.nc, .int .i64 u.k, .bool u.b, .int .i64 u.n, .string u.s, .slice y.pa u.m y.pc, .slice y.na u.q y.nc, .bool true, .bool is] 31)
    simpa using this
  have HW : Hid ((w.alloc (.cells #[.string tb, .string fl, .string lo, .string hi] 25)).alloc (.cells #[.string tt, .bool false, .int .i64 t.k, .bool t.b, .int .i64 t.n, .string t.s, .slice x.pa t.m x.pc, .slice x.na t.q x.nc, .int .i64 u.k, .bool u.b, .int .i64 u.n, .string u.s, .slice y.pa u.m y.pc, .slice y.na u.q y.nc, .bool true, .bool is] 31) = w1) := hw1
  clear hw1
  have hs := fun W => sight_yes tb fl lo hi W hfl
  have kt := fun W => all_seen t x W
  have ku := fun W => all_seen u y W
  unfold V.Tr.val at kt ku
  unfold rdA at hs
  clear hfl
  go_enter Tryd.func9, Tryd.ntmps9
  go_wp2_with fail
  rw [HW.out]
  refine (hs w1).mono ?_
  rintro e w2 ⟨rfl, hb2⟩
  have r2 := (hb2.block _ (lt_of_row r1)).trans r1
  have hbb : Below w.heap.size w w2 := hb1.trans (hb2.mono hb1.size)
  clear hb2 r1 hb1 hs HW
  have c0 := cell_of_row w2 _ 0 _ _ _ r2
  have c1 := cell_of_row w2 _ 1 _ _ _ r2
  have c2 := cell_of_row w2 _ 2 _ _ _ r2
  have c3 := cell_of_row w2 _ 3 _ _ _ r2
  have c4 := cell_of_row w2 _ 4 _ _ _ r2
  have c5 := cell_of_row w2 _ 5 _ _ _ r2
  have c6 := cell_of_row w2 _ 6 _ _ _ r2
  have c7 := cell_of_row w2 _ 7 _ _ _ r2
  have c8 := cell_of_row w2 _ 8 _ _ _ r2
  have c9 := cell_of_row w2 _ 9 _ _ _ r2
  have c10 := cell_of_row w2 _ 10 _ _ _ r2
  have c11 := cell_of_row w2 _ 11 _ _ _ r2
  have c12 := cell_of_row w2 _ 12 _ _ _ r2
  have c13 := cell_of_row w2 _ 13 _ _ _ r2
  have c14 := cell_of_row w2 _ 14 _ _ _ r2
  have c15 := cell_of_row w2 _ 15 _ _ _ r2
  go_wp2_with fail
  refine (kt _).mono ?_
  rintro e w3 ⟨rfl, hb3⟩
  have r3 := (hb3.block _ (lt_of_row r2)).trans r2
  have hb4 := hbb.trans (hb3.mono hbb.size)
  clear hb3 hbb c0 c1 c2 c3 c4 c5 c6 c7 c8 c9 c10 c11 c12 c13 c14 c15
  have d1 := cell_of_row w3 _ 1 _ _ _ r3
  have d8 := cell_of_row w3 _ 8 _ _ _ r3
  have d9 := cell_of_row w3 _ 9 _ _ _ r3
  have d10 := cell_of_row w3 _ 10 _ _ _ r3
  have d11 := cell_of_row w3 _ 11 _ _ _ r3
  have d12 := cell_of_row w3 _ 12 _ _ _ r3
  have d13 := cell_of_row w3 _ 13 _ _ _ r3
  have d14 := cell_of_row w3 _ 14 _ _ _ r3
  have d15 := cell_of_row w3 _ 15 _ _ _ r3
  go_wp2_with fail
  go_ret
  exact ⟨rfl, hb4⟩
end Go.Proofs.YtfcenidepkjdcaaDoor
namespace Go.Proofs.YtfcenidepkjdcaaDoor
open Go.RowKit Go.Shelf
attribute [local go_sem] Oper.semAt_some
set_option maxRecDepth 100000 in
set_option maxHeartbeats 8000000 in
theorem hit_some_shape {w : World} (tb fl lo hi tt : ByteArray) (was is : Bool) (t : V.Tr) (x : V.Ad) (u : V.Tr) (y : V.Ad) (htt : (tb.toList == tt.toList) = true) (hfl : fl.toList.isEmpty = false) (T U : Bool)
    (_kt : ∀ W z, W.heap[z]? = some (.cells #[.string tb, .string fl, .string lo, .string hi] 25 (0, 0)) → Below w.heap.size w W → Calls Tryd.prog 43 #[.agg #[.int .i64 t.k, .bool t.b, .int .i64 t.n, .string t.s, .slice x.pa t.m x.pc, .slice x.na t.q x.nc], .pointer (some ⟨z, 0, none⟩)] W fun e w' => e = .returned (.bool T) ∧ Below W.heap.size W w')
    (_ku : ∀ W z, W.heap[z]? = some (.cells #[.string tb, .string fl, .string lo, .string hi] 25 (0, 0)) → Below w.heap.size w W → Calls Tryd.prog 43 #[.agg #[.int .i64 u.k, .bool u.b, .int .i64 u.n, .string u.s, .slice y.pa u.m y.pc, .slice y.na u.q y.nc], .pointer (some ⟨z, 0, none⟩)] W fun e w' => e = .returned (.bool U) ∧ Below W.heap.size W w') :
    Calls Tryd.prog 9 #[.agg #[.string tb, .string fl, .string lo, .string hi], .agg #[.string tt, .bool true, .int .i64 t.k, .bool t.b, .int .i64 t.n, .string t.s, .slice x.pa t.m x.pc, .slice x.na t.q x.nc, .int .i64 u.k, .bool u.b, .int .i64 u.n, .string u.s, .slice y.pa u.m y.pc, .slice y.na u.q y.nc, .bool was, .bool is]] w fun e w' => e = .returned (.bool true) ∧ Below w.heap.size w w' := by
  obtain ⟨w1, hw1⟩ : ∃ w1, (w.alloc (.cells #[.string tb, .string fl, .string lo, .string hi] 25)).alloc (.cells #[.string tt, .bool true, .int .i64 t.k, .bool t.b, .int .i64 t.n, .string t.s, .slice x.pa t.m x.pc, .slice x.na t.q x.nc, .int .i64 u.k, .bool u.b, .int .i64 u.n, .string u.s, .slice y.pa u.m y.pc, .slice y.na u.q y.nc, .bool was, .bool is] 31) = w1 := ⟨_, rfl⟩
  have hb1 : Below w.heap.size w w1 := by rw [← hw1]; exact ((Below.refl _ w).alloc (Nat.le_refl _) _).alloc (by simp) _
  have r1 : w1.heap[w.heap.size + 1]? = some (.cells #[.string tt, .bool true, .int .i64 t.k, .bool t.b, .int .i64 t.n, .string t.s, .slice x.pa t.m x.pc, .slice x.na t.q x.nc, .int .i64 u.k, .bool u.b, .int .i64 u.n, .string u.s, .slice y.pa u.m y.pc, .slice y.na u.q y.nc, .bool was, .bool is] 31 (0, 0)) := by
    rw [← hw1]
    have := heap_alloc_new (w.alloc (.cells #[.string tb, .string fl, .string lo, .string hi] 25)) (.cells #[.string tt, .bool true, .int .i64 t.k, .bool t.b, .int .i64 t.n, .string t.s, .slice x.pa t.m x.pc, .slice x.na t.q x.nc, .int .i64 u.k, .bool u.b, .int .i64 u.n, .string u.s, .slice y.pa u.m y.pc, .slice y.na u.q y.nc, .bool was, .bool is] 31)
    simpa using this
  have HW : Hid ((w.alloc (.cells #[.string tb, .string fl, .string lo, .string hi] 25)).alloc (.cells #[.string tt, .bool true, .int .i64 t.k, .bool t.b, .int .i64 t.n, .string t.s, .slice x.pa t.m x.pc, .slice x.na t.q x.nc, .int .i64 u.k, .bool u.b, .int .i64 u.n, .string u.s, .slice y.pa u.m y.pc, .slice y.na u.q y.nc, .bool was, .bool is] 31) = w1) := hw1
  clear hw1
  have hs := fun W => sight_no tb fl lo hi W hfl
  unfold rdA at hs
  clear hfl
  go_enter Tryd.func9, Tryd.ntmps9
  go_wp2_with fail
  rw [HW.out]
  refine (hs w1).mono ?_
  rintro e w2 ⟨rfl, rz, hb2⟩
  have r2 := (hb2.block _ (lt_of_row r1)).trans r1
  have hbb : Below w.heap.size w w2 := hb1.trans (hb2.mono hb1.size)
  clear hb2 r1 hb1 hs HW
  obtain ⟨z, hzz⟩ : ∃ z, w1.heap.size = z := ⟨_, rfl⟩
  rw [hzz] at rz ⊢
  clear hzz
  have c0 := cell_of_row w2 _ 0 _ _ _ r2
  have c1 := cell_of_row w2 _ 1 _ _ _ r2
  have c2 := cell_of_row w2 _ 2 _ _ _ r2
  have c3 := cell_of_row w2 _ 3 _ _ _ r2
  have c4 := cell_of_row w2 _ 4 _ _ _ r2
  have c5 := cell_of_row w2 _ 5 _ _ _ r2
  have c6 := cell_of_row w2 _ 6 _ _ _ r2
  have c7 := cell_of_row w2 _ 7 _ _ _ r2
  have c8 := cell_of_row w2 _ 8 _ _ _ r2
  have c9 := cell_of_row w2 _ 9 _ _ _ r2
  have c10 := cell_of_row w2 _ 10 _ _ _ r2
  have c11 := cell_of_row w2 _ 11 _ _ _ r2
  have c12 := cell_of_row w2 _ 12 _ _ _ r2
  have c13 := cell_of_row w2 _ 13 _ _ _ r2
  have c14 := cell_of_row w2 _ 14 _ _ _ r2
  have c15 := cell_of_row w2 _ 15 _ _ _ r2
  go_wp2_with fail
  go_ret
  exact ⟨rfl, hbb⟩
set_option maxRecDepth 100000 in
set_option maxHeartbeats 8000000 in
theorem hit_some_none {w : World} (tb fl lo hi tt : ByteArray) (t : V.Tr) (x : V.Ad) (u : V.Tr) (y : V.Ad) (htt : (tb.toList == tt.toList) = true) (hfl : fl.toList.isEmpty = false) (T U : Bool)
    (_kt : ∀ W z, W.heap[z]? = some (.cells #[.string tb, .string fl, .string lo, .string hi] 25 (0, 0)) → Below w.heap.size w W → Calls Tryd.prog 43 #[.agg #[.int .i64 t.k, .bool t.b, .int .i64 t.n, .string t.s, .slice x.pa t.m x.pc, .slice x.na t.q x.nc], .pointer (some ⟨z, 0, none⟩)] W fun e w' => e = .returned (.bool T) ∧ Below W.heap.size W w')
    (_ku : ∀ W z, W.heap[z]? = some (.cells #[.string tb, .string fl, .string lo, .string hi] 25 (0, 0)) → Below w.heap.size w W → Calls Tryd.prog 43 #[.agg #[.int .i64 u.k, .bool u.b, .int .i64 u.n, .string u.s, .slice y.pa u.m y.pc, .slice y.na u.q y.nc], .pointer (some ⟨z, 0, none⟩)] W fun e w' => e = .returned (.bool U) ∧ Below W.heap.size W w') :
    Calls Tryd.prog 9 #[.agg #[.string tb, .string fl, .string lo, .string hi], .agg #[.string tt, .bool false, .int .i64 t.k, .bool t.b, .int .i64 t.n, .string t.s, .slice x.pa t.m x.pc, .slice x.na t.q x.nc, .int .i64 u.k, .bool u.b, .int .i64 u.n, .string u.s, .slice y.pa u.m y.pc, .slice y.na u.q y.nc, .bool false, .bool false]] w fun e w' => e = .returned (.bool false) ∧ Below w.heap.size w w' := by
  obtain ⟨w1, hw1⟩ : ∃ w1, (w.alloc (.cells #[.string tb, .string fl, .string lo, .string hi] 25)).alloc (.cells #[.string tt, .bool false, .int .i64 t.k, .bool t.b, .int .i64 t.n, .string t.s, .slice x.pa t.m x.pc, .slice x.na t.q x.nc, .int .i64 u.k, .bool u.b, .int .i64 u.n, .string u.s, .slice y.pa u.m y.pc, .slice y.na u.q y.nc, .bool false, .bool false] 31) = w1 := ⟨_, rfl⟩
  have hb1 : Below w.heap.size w w1 := by rw [← hw1]; exact ((Below.refl _ w).alloc (Nat.le_refl _) _).alloc (by simp) _
  have r1 : w1.heap[w.heap.size + 1]? = some (.cells #[.string tt, .bool false, .int .i64 t.k, .bool t.b, .int .i64 t.n, .string t.s, .slice x.pa t.m x.pc, .slice x.na t.q x.nc, .int .i64 u.k, .bool u.b, .int .i64 u.n, .string u.s, .slice y.pa u.m y.pc, .slice y.na u.q y.nc, .bool false, .bool false] 31 (0, 0)) := by
    rw [← hw1]
    have := heap_alloc_new (w.alloc (.cells #[.string tb, .string fl, .string lo, .string hi] 25)) (.cells #[.string tt, .bool false, .int .i64 t.k, .bool t.b, .int .i64 t.n, .string t.s, .slice x.pa t.m x.pc, .slice x.na t.q x.nc, .int .i64 u.k, .bool u.b, .int .i64 u.n, .string u.s, .slice y.pa u.m y.pc, .slice y.na u.q y.nc, .bool false, .bool false] 31)
    simpa using this
  have HW : Hid ((w.alloc (.cells #[.string tb, .string fl, .string lo, .string hi] 25)).alloc (.cells #[.string tt, .bool false, .int .i64 t.k, .bool t.b, .int .i64 t.n, .string t.s, .slice x.pa t.m x.pc, .slice x.na t.q x.nc, .int .i64 u.k, .bool u.b, .int .i64 u.n, .string u.s, .slice y.pa u.m y.pc, .slice y.na u.q y.nc, .bool false, .bool false] 31) = w1) := hw1
  clear hw1
  have hs := fun W => sight_no tb fl lo hi W hfl
  unfold rdA at hs
  clear hfl
  go_enter Tryd.func9, Tryd.ntmps9
  go_wp2_with fail
  rw [HW.out]
  refine (hs w1).mono ?_
  rintro e w2 ⟨rfl, rz, hb2⟩
  have r2 := (hb2.block _ (lt_of_row r1)).trans r1
  have hbb : Below w.heap.size w w2 := hb1.trans (hb2.mono hb1.size)
  clear hb2 r1 hb1 hs HW
  obtain ⟨z, hzz⟩ : ∃ z, w1.heap.size = z := ⟨_, rfl⟩
  rw [hzz] at rz ⊢
  clear hzz
  have c0 := cell_of_row w2 _ 0 _ _ _ r2
  have c1 := cell_of_row w2 _ 1 _ _ _ r2
  have c2 := cell_of_row w2 _ 2 _ _ _ r2
  have c3 := cell_of_row w2 _ 3 _ _ _ r2
  have c4 := cell_of_row w2 _ 4 _ _ _ r2
  have c5 := cell_of_row w2 _ 5 _ _ _ r2
  have c6 := cell_of_row w2 _ 6 _ _ _ r2
  have c7 := cell_of_row w2 _ 7 _ _ _ r2
  have c8 := cell_of_row w2 _ 8 _ _ _ r2
  have c9 := cell_of_row w2 _ 9 _ _ _ r2
  have c10 := cell_of_row w2 _ 10 _ _ _ r2
  have c11 := cell_of_row w2 _ 11 _ _ _ r2
  have c12 := cell_of_row w2 _ 12 _ _ _ r2
  have c13 := cell_of_row w2 _ 13 _ _ _ r2
  have c14 := cell_of_row w2 _ 14 _ _ _ r2
  have c15 := cell_of_row w2 _ 15 _ _ _ r2
  go_wp2_with fail
  go_ret
  exact ⟨rfl, hbb⟩
end Go.Proofs.YtfcenidepkjdcaaDoor
namespace Go.Proofs.YtfcenidepkjdcaaDoor
open Go.RowKit Go.Shelf
attribute [local go_sem] Oper.semAt_some
set_option maxRecDepth 100000 in
set_option maxHeartbeats 8000000 in
theorem hit_some_new {w : World} (tb fl lo hi tt : ByteArray) (t : V.Tr) (x : V.Ad) (u : V.Tr) (y : V.Ad) (htt : (tb.toList == tt.toList) = true) (hfl : fl.toList.isEmpty = false) (T U : Bool)
    (_kt : ∀ W z, W.heap[z]? = some (.cells #[.string tb, .string fl, .string lo, .string hi] 25 (0, 0)) → Below w.heap.size w W → Calls Tryd.prog 43 #[.agg #[.int .i64 t.k, .bool t.b, .int .i64 t.n, .string t.s, .slice x.pa t.m x.pc, .slice x.na t.q x.nc], .pointer (some ⟨z, 0, none⟩)] W fun e w' => e = .returned (.bool T) ∧ Below W.heap.size W w')
    (ku : ∀ W z, W.heap[z]? = some (.cells #[.string tb, .string fl, .string lo, .string hi] 25 (0, 0)) → Below w.heap.size w W → Calls Tryd.prog 43 #[.agg #[.int .i64 u.k, .bool u.b, .int .i64 u.n, .string u.s, .slice y.pa u.m y.pc, .slice y.na u.q y.nc], .pointer (some ⟨z, 0, none⟩)] W fun e w' => e = .returned (.bool U) ∧ Below W.heap.size W w') :
    Calls Tryd.prog 9 #[.agg #[.string tb, .string fl, .string lo, .string hi], .agg #[.string tt, .bool false, .int .i64 t.k, .bool t.b, .int .i64 t.n, .string t.s, .slice x.pa t.m x.pc, .slice x.na t.q x.nc, .int .i64 u.k, .bool u.b, .int .i64 u.n, .string u.s, .slice y.pa u.m y.pc, .slice y.na u.q y.nc, .bool false, .bool true]] w fun e w' => e = .returned (.bool U) ∧ Below w.heap.size w w' := by
  obtain ⟨w1, hw1⟩ : ∃ w1, (w.alloc (.cells #[.string tb, .string fl, .string lo, .string hi] 25)).alloc (.cells #[.string tt, .bool false, .int .i64 t.k, .bool t.b, .int .i64 t.n, .string t.s, .slice x.pa t.m x.pc, .slice x.na t.q x.nc, .int .i64 u.k, .bool u.b, .int .i64 u.n, .string u.s, .slice y.pa u.m y.pc, .slice y.na u.q y.nc, .bool false, .bool true] 31) = w1 := ⟨_, rfl⟩
  have hb1 : Below w.heap.size w w1 := by rw [← hw1]; exact ((Below.refl _ w).alloc (Nat.le_refl _) _).alloc (by simp) _
  have r1 : w1.heap[w.heap.size + 1]? = some (.cells #[.string tt, .bool false, .int .i64 t.k, .bool t.b, .int .i64 t.n, .string t.s, .slice x.pa t.m x.pc, .slice x.na t.q x.nc, .int .i64 u.k, .bool u.b, .int .i64 u.n, .string u.s, .slice y.pa u.m y.pc, .slice y.na u.q y.nc, .bool false, .bool true] 31 (0, 0)) := by
    rw [← hw1]
    have := heap_alloc_new (w.alloc (.cells #[.string tb, .string fl, .string lo, .string hi] 25)) (.cells #[.string tt, .bool false, .int .i64 t.k, .bool t.b, .int .i64 t.n, .string t.s, .slice x.pa t.m x.pc, .slice x.na t.q x.nc, .int .i64 u.k, .bool u.b, .int .i64 u.n, .string u.s, .slice y.pa u.m y.pc, .slice y.na u.q y.nc, .bool false, .bool true] 31)
    simpa using this
  have HW : Hid ((w.alloc (.cells #[.string tb, .string fl, .string lo, .string hi] 25)).alloc (.cells #[.string tt, .bool false, .int .i64 t.k, .bool t.b, .int .i64 t.n, .string t.s, .slice x.pa t.m x.pc, .slice x.na t.q x.nc, .int .i64 u.k, .bool u.b, .int .i64 u.n, .string u.s, .slice y.pa u.m y.pc, .slice y.na u.q y.nc, .bool false, .bool true] 31) = w1) := hw1
  clear hw1
  have hs := fun W => sight_no tb fl lo hi W hfl
  unfold rdA at hs
  clear hfl
  go_enter Tryd.func9, Tryd.ntmps9
  go_wp2_with fail
  rw [HW.out]
  refine (hs w1).mono ?_
  rintro e w2 ⟨rfl, rz, hb2⟩
  have r2 := (hb2.block _ (lt_of_row r1)).trans r1
  have hbb : Below w.heap.size w w2 := hb1.trans (hb2.mono hb1.size)
  clear hb2 r1 hb1 hs HW
  obtain ⟨z, hzz⟩ : ∃ z, w1.heap.size = z := ⟨_, rfl⟩
  rw [hzz] at rz ⊢
  clear hzz
  have c0 := cell_of_row w2 _ 0 _ _ _ r2
  have c1 := cell_of_row w2 _ 1 _ _ _ r2
  have c2 := cell_of_row w2 _ 2 _ _ _ r2
  have c3 := cell_of_row w2 _ 3 _ _ _ r2
  have c4 := cell_of_row w2 _ 4 _ _ _ r2
  have c5 := cell_of_row w2 _ 5 _ _ _ r2
  have c6 := cell_of_row w2 _ 6 _ _ _ r2
  have c7 := cell_of_row w2 _ 7 _ _ _ r2
  have c8 := cell_of_row w2 _ 8 _ _ _ r2
  have c9 := cell_of_row w2 _ 9 _ _ _ r2
  have c10 := cell_of_row w2 _ 10 _ _ _ r2
  have c11 := cell_of_row w2 _ 11 _ _ _ r2
  have c12 := cell_of_row w2 _ 12 _ _ _ r2
  have c13 := cell_of_row w2 _ 13 _ _ _ r2
  have c14 := cell_of_row w2 _ 14 _ _ _ r2
  have c15 := cell_of_row w2 _ 15 _ _ _ r2
  go_wp2_with fail
  refine (ku w2 z rz hbb).mono ?_
  rintro e w3 ⟨rfl, hb3⟩
  have r3 := (hb3.block _ (lt_of_row r2)).trans r2
  have rz3 := (hb3.block _ (lt_of_row rz)).trans rz
  have hb4 := hbb.trans (hb3.mono hbb.size)
  clear hb3 hbb c0 c1 c2 c3 c4 c5 c6 c7 c8 c9 c10 c11 c12 c13 c14 c15
  have d1 := cell_of_row w3 _ 1 _ _ _ r3
  have d8 := cell_of_row w3 _ 8 _ _ _ r3
  have d9 := cell_of_row w3 _ 9 _ _ _ r3
  have d10 := cell_of_row w3 _ 10 _ _ _ r3
  have d11 := cell_of_row w3 _ 11 _ _ _ r3
  have d12 := cell_of_row w3 _ 12 _ _ _ r3
  have d13 := cell_of_row w3 _ 13 _ _ _ r3
  have d14 := cell_of_row w3 _ 14 _ _ _ r3
  have d15 := cell_of_row w3 _ 15 _ _ _ r3
  go_wp2_with fail
  go_ret
  exact ⟨rfl, hb4⟩
end Go.Proofs.YtfcenidepkjdcaaDoor
namespace Go.Proofs.YtfcenidepkjdcaaDoor
open Go.RowKit Go.Shelf
attribute [local go_sem] Oper.semAt_some
set_option maxRecDepth 100000 in
set_option maxHeartbeats 8000000 in
theorem hit_some_old {w : World} (tb fl lo hi tt : ByteArray) (is : Bool) (t : V.Tr) (x : V.Ad) (u : V.Tr) (y : V.Ad) (htt : (tb.toList == tt.toList) = true) (hfl : fl.toList.isEmpty = false) (T U : Bool)
    (kt : ∀ W z, W.heap[z]? = some (.cells #[.string tb, .string fl, .string lo, .string hi] 25 (0, 0)) → Below w.heap.size w W → Calls Tryd.prog 43 #[.agg #[.int .i64 t.k, .bool t.b, .int .i64 t.n, .string t.s, .slice x.pa t.m x.pc, .slice x.na t.q x.nc], .pointer (some ⟨z, 0, none⟩)] W fun e w' => e = .returned (.bool T) ∧ Below W.heap.size W w')
    (ku : ∀ W z, W.heap[z]? = some (.cells #[.string tb, .string fl, .string lo, .string hi] 25 (0, 0)) → Below w.heap.size w W → Calls Tryd.prog 43 #[.agg #[.int .i64 u.k, .bool u.b, .int .i64 u.n, .string u.s, .slice y.pa u.m y.pc, .slice y.na u.q y.nc], .pointer (some ⟨z, 0, none⟩)] W fun e w' => e = .returned (.bool U) ∧ Below W.heap.size W w') :
    Calls Tryd.prog 9 #[.agg #[.string tb, .string fl, .string lo, .string hi], .agg #[.string tt, .bool false, .int .i64 t.k, .bool t.b, .int .i64 t.n, .string t.s, .slice x.pa t.m x.pc, .slice x.na t.q x.nc, .int .i64 u.k, .bool u.b, .int .i64 u.n, .string u.s, .slice y.pa u.m y.pc, .slice y.na u.q y.nc, .bool true, .bool is]] w fun e w' => e = .returned (.bool (T || (is && U))) ∧ Below w.heap.size w w' := by
  obtain ⟨w1, hw1⟩ : ∃ w1, (w.alloc (.cells #[.string tb, .string fl, .string lo, .string hi] 25)).alloc (.cells #[.string tt, .bool false, .int .i64 t.k, .bool t.b, .int .i64 t.n, .string t.s, .slice x.pa t.m x.pc, .slice x.na t.q x.nc, .int .i64 u.k, .bool u.b, .int .i64 u.n, .string u.s, .slice y.pa u.m y.pc, .slice y.na u.q y.nc, .bool true, .bool is] 31) = w1 := ⟨_, rfl⟩
  have hb1 : Below w.heap.size w w1 := by rw [← hw1]; exact ((Below.refl _ w).alloc (Nat.le_refl _) _).alloc (by simp) _
  have r1 : w1.heap[w.heap.size + 1]? = some (.cells #[.string tt, .bool false, .int .i64 t.k, .bool t.b, .int .i64 t.n, .string t.s, .slice x.pa t.m x.pc, .slice x.na t.q x.nc, .int .i64 u.k, .bool u.b, .int .i64 u.n, .string u.s, .slice y.pa u.m y.pc, .slice y.na u.q y.nc, .bool true, .bool is] 31 (0, 0)) := by
    rw [← hw1]
    have := heap_alloc_new (w.alloc (.cells #[.string tb, .string fl, .string lo, .string hi] 25)) (.cells #[.string tt, .bool false, .int .i64 t.k, .bool t.b, .int .i64 t.n, .string t.s, .slice x.pa t.m x.pc, .slice x.na t.q x.nc, .int .i64 u.k, .bool u.b, .int .i64 u.n, .string u.s, .slice y.pa u.m y.pc, .slice y.na u.q y.nc, .bool true, .bool is] 31)
    simpa using this
  have HW : Hid ((w.alloc (.cells #[.string tb, .string fl, .string lo, .string hi] 25)).alloc (.cells #[.string tt, .bool false, .int .i64 t.k, .bool t.b, .int .i64 t.n, .string t.s, .slice x.pa t.m x.pc, .slice x.na t.q x.nc, .int .i64 u.k, .bool u.b, .int .i64 u.n, .string u.s, .slice y.pa u.m y.pc, .slice y.na u.q y.nc, .bool true, .bool is] 31) = w1) := hw1
  clear hw1
  have hs := fun W => sight_no tb fl lo hi W hfl
  unfold rdA at hs
  clear hfl
  go_enter Tryd.func9, Tryd.ntmps9
  go_wp2_with fail
  rw [HW.out]
  refine (hs w1).mono ?_
  rintro e w2 ⟨rfl, rz, hb2⟩
  have r2 := (hb2.block _ (lt_of_row r1)).trans r1
  have hbb : Below w.heap.size w w2 := hb1.trans (hb2.mono hb1.size)
  clear hb2 r1 hb1 hs HW
  obtain ⟨z, hzz⟩ : ∃ z, w1.heap.size = z := ⟨_, rfl⟩
  rw [hzz] at rz ⊢
  clear hzz
  have c0 := cell_of_row w2 _ 0 _ _ _ r2
  have c1 := cell_of_row w2 _ 1 _ _ _ r2
  have c2 := cell_of_row w2 _ 2 _ _ _ r2
  have c3 := cell_of_row w2 _ 3 _ _ _ r2
  have c4 := cell_of_row w2 _ 4 _ _ _ r2
  have c5 := cell_of_row w2 _ 5 _ _ _ r2
  have c6 := cell_of_row w2 _ 6 _ _ _ r2
  have c7 := cell_of_row w2 _ 7 _ _ _ r2
  have c8 := cell_of_row w2 _ 8 _ _ _ r2
  have c9 := cell_of_row w2 _ 9 _ _ _ r2
  have c10 := cell_of_row w2 _ 10 _ _ _ r2
  have c11 := cell_of_row w2 _ 11 _ _ _ r2
  have c12 := cell_of_row w2 _ 12 _ _ _ r2
  have c13 := cell_of_row w2 _ 13 _ _ _ r2
  have c14 := cell_of_row w2 _ 14 _ _ _ r2
  have c15 := cell_of_row w2 _ 15 _ _ _ r2
  go_wp2_with fail
  refine (kt w2 z rz hbb).mono ?_
  rintro e w3 ⟨rfl, hb3⟩
  have r3 := (hb3.block _ (lt_of_row r2)).trans r2
  have rz3 := (hb3.block _ (lt_of_row rz)).trans rz
  have hb4 := hbb.trans (hb3.mono hbb.size)
  clear hb3 hbb c0 c1 c2 c3 c4 c5 c6 c7 c8 c9 c10 c11 c12 c13 c14 c15
  have d1 := cell_of_row w3 _ 1 _ _ _ r3
  have d8 := cell_of_row w3 _ 8 _ _ _ r3
  have d9 := cell_of_row w3 _ 9 _ _ _ r3
  have d10 := cell_of_row w3 _ 10 _ _ _ r3
  have d11 := cell_of_row w3 _ 11 _ _ _ r3
  have d12 := cell_of_row w3 _ 12 _ _ _ r3
  have d13 := cell_of_row w3 _ 13 _ _ _ r3
  have d14 := cell_of_row w3 _ 14 _ _ _ r3
  have d15 := cell_of_row w3 _ 15 _ _ _ r3
  cases T with
  | true =>
    go_wp2_with fail
    go_ret
    exact ⟨rfl, hb4⟩
  | false =>
    cases is with
    | false =>
      go_wp2_with fail
      go_ret
      exact ⟨rfl, hb4⟩
    | true =>
      go_wp2_with fail
      refine (ku w3 z rz3 hb4).mono ?_
      rintro e w4 ⟨rfl, hb5⟩
      go_wp2_with fail
      go_ret
      exact ⟨rfl, hb4.trans (hb5.mono hb4.size)⟩
end Go.Proofs.YtfcenidepkjdcaaDoor
