/- The document's Same of two sound values: whether there is nothing between them in the order. -/
import Derived.Test.YtjmjlijmeahmfaaRbf
namespace Go.Proofs.Ytjmjlijmeahmfaa
open Go.RowKit
set_option maxRecDepth 100000 in
set_option maxHeartbeats 4000000 in
theorem rsame_any {a b : Tr} {d d' : Int} (sa : soundT a d = 0) (sb : soundT b d' = 0) {B : Nat} {w : World} {x y : Ad} (hL : Lies B w a x) (hM : Lies B w b y) (hB : B ≤ w.heap.size) :
    Calls Try.prog 23 #[a.val x, b.val y] w fun e w' => e = .returned (.bool (cmpT a b == 0)) ∧ Below w.heap.size w w' := by
  show Calls Try.prog 23 #[.agg #[.int .i64 a.k, .bool a.b, .int .i64 a.n, .string a.s, .slice x.pa a.m x.pc, .slice x.na a.q x.nc], .agg #[.int .i64 b.k, .bool b.b, .int .i64 b.n, .string b.s, .slice y.pa b.m y.pc, .slice y.na b.q y.nc]] w _
  have hanti := anti_cmpT a b (Lies.real a hL) (Lies.real b hM)
  obtain ⟨n, hn⟩ : ∃ n, cmpT a b = n := ⟨_, rfl⟩
  have h1 : ∀ V, Below B w V → B ≤ V.heap.size → Calls Try.prog 20 #[.agg #[.int .i64 a.k, .bool a.b, .int .i64 a.n, .string a.s, .slice x.pa a.m x.pc, .slice x.na a.q x.nc], .agg #[.int .i64 b.k, .bool b.b, .int .i64 b.n, .string b.s, .slice y.pa b.m y.pc, .slice y.na b.q y.nc]] V fun e w' => e = .returned (.bool (decide (n < 0))) ∧ Below V.heap.size V w' := fun V hv hs => by
    have := (bef_all a b d d' sa sb).1 B V x y (hL.later hv) (hM.later hv) hs; rw [hn] at this; exact this
  have h2 : ∀ V, Below B w V → B ≤ V.heap.size → Calls Try.prog 20 #[.agg #[.int .i64 b.k, .bool b.b, .int .i64 b.n, .string b.s, .slice y.pa b.m y.pc, .slice y.na b.q y.nc], .agg #[.int .i64 a.k, .bool a.b, .int .i64 a.n, .string a.s, .slice x.pa a.m x.pc, .slice x.na a.q x.nc]] V fun e w' => e = .returned (.bool (decide (-n < 0))) ∧ Below V.heap.size V w' := fun V hv hs => by
    have := (bef_all a b d d' sa sb).2 B V y x (hM.later hv) (hL.later hv) hs; rw [hanti, hn] at this; exact this
  rw [hn]
  obtain ⟨R, hR⟩ : ∃ R, (n == 0) = R := ⟨_, rfl⟩
  rw [hR]
  have HR : Hid ((n == 0) = R) := hR
  clear hn hanti hL hM hR
  have b0 : Below w.heap.size w ((w.alloc (.cells #[.int .i64 a.k, .bool a.b, .int .i64 a.n, .string a.s, .slice x.pa a.m x.pc, .slice x.na a.q x.nc] 33)).alloc (.cells #[.int .i64 b.k, .bool b.b, .int .i64 b.n, .string b.s, .slice y.pa b.m y.pc, .slice y.na b.q y.nc] 33)) := ((Below.refl _ w).alloc (Nat.le_refl _) _).alloc (by simp) _
  have r2 : ((w.alloc (.cells #[.int .i64 a.k, .bool a.b, .int .i64 a.n, .string a.s, .slice x.pa a.m x.pc, .slice x.na a.q x.nc] 33)).alloc (.cells #[.int .i64 b.k, .bool b.b, .int .i64 b.n, .string b.s, .slice y.pa b.m y.pc, .slice y.na b.q y.nc] 33)).heap[w.heap.size]? = some (.cells #[.int .i64 a.k, .bool a.b, .int .i64 a.n, .string a.s, .slice x.pa a.m x.pc, .slice x.na a.q x.nc] 33 (0, 0)) := (Below.heap_alloc _ _ _ (by simp)).trans (heap_alloc_new _ _)
  have r3 : ((w.alloc (.cells #[.int .i64 a.k, .bool a.b, .int .i64 a.n, .string a.s, .slice x.pa a.m x.pc, .slice x.na a.q x.nc] 33)).alloc (.cells #[.int .i64 b.k, .bool b.b, .int .i64 b.n, .string b.s, .slice y.pa b.m y.pc, .slice y.na b.q y.nc] 33)).heap[w.heap.size + 1]? = some (.cells #[.int .i64 b.k, .bool b.b, .int .i64 b.n, .string b.s, .slice y.pa b.m y.pc, .slice y.na b.q y.nc] 33 (0, 0)) := by
    have := heap_alloc_new (w.alloc (.cells #[.int .i64 a.k, .bool a.b, .int .i64 a.n, .string a.s, .slice x.pa a.m x.pc, .slice x.na a.q x.nc] 33)) (.cells #[.int .i64 b.k, .bool b.b, .int .i64 b.n, .string b.s, .slice y.pa b.m y.pc, .slice y.na b.q y.nc] 33)
    simpa using this
  obtain ⟨W, hW⟩ : ∃ W, (w.alloc (.cells #[.int .i64 a.k, .bool a.b, .int .i64 a.n, .string a.s, .slice x.pa a.m x.pc, .slice x.na a.q x.nc] 33)).alloc (.cells #[.int .i64 b.k, .bool b.b, .int .i64 b.n, .string b.s, .slice y.pa b.m y.pc, .slice y.na b.q y.nc] 33) = W := ⟨_, rfl⟩
  have hsW : W.heap.size = w.heap.size + 1 + 1 := by rw [← hW]; simp
  rw [hW] at b0 r2 r3
  have HSW : Hid (W.heap.size = w.heap.size + 1 + 1) := hsW
  clear hsW
  go_enter Try.func23, Try.ntmps23
  go_upto_region 1 with fail
  try rw [hW]
  clear hW
  have u0 := cell_of_row W _ 0 _ _ _ r2
  have u1 := cell_of_row W _ 1 _ _ _ r2
  have u2 := cell_of_row W _ 2 _ _ _ r2
  have u3 := cell_of_row W _ 3 _ _ _ r2
  have u4 := cell_of_row W _ 4 _ _ _ r2
  have u5 := cell_of_row W _ 5 _ _ _ r2
  have v0 := cell_of_row W _ 0 _ _ _ r3
  have v1 := cell_of_row W _ 1 _ _ _ r3
  have v2 := cell_of_row W _ 2 _ _ _ r3
  have v3 := cell_of_row W _ 3 _ _ _ r3
  have v4 := cell_of_row W _ 4 _ _ _ r3
  have v5 := cell_of_row W _ 5 _ _ _ r3
  by_cases hn : n < 0
  · have hd1 : decide (n < 0) = true := decide_eq_true hn
    rw [hd1] at h1
    have HZ : Hid (R = false) := HR.out.symm.trans (by simp; omega)
    go_wp2_with fail
    refine (h1 W (b0.mono hB) (by have := HSW.out; omega)).mono ?_
    rintro e w1 ⟨rfl, hb1⟩
    go_wp2
    go_ret
    rw [HZ.out]
    exact ⟨rfl, b0.trans (hb1.mono (by have := HSW.out; omega))⟩
  · have hd1 : decide (n < 0) = false := decide_eq_false hn
    rw [hd1] at h1
    go_wp2_with fail
    refine (h1 W (b0.mono hB) (by have := HSW.out; omega)).mono ?_
    rintro e w1 ⟨rfl, hb1⟩
    have hs1 := hb1.size
    have q2 := (hb1.block w.heap.size (by have := HSW.out; omega)).trans r2
    have q3 := (hb1.block (w.heap.size + 1) (by have := HSW.out; omega)).trans r3
    have B1 : Below w.heap.size w w1 := b0.trans (hb1.mono (by have := HSW.out; omega))
    clear hb1 u0 u1 u2 u3 u4 u5 v0 v1 v2 v3 v4 v5
    have u0 := cell_of_row w1 _ 0 _ _ _ q2
    have u1 := cell_of_row w1 _ 1 _ _ _ q2
    have u2 := cell_of_row w1 _ 2 _ _ _ q2
    have u3 := cell_of_row w1 _ 3 _ _ _ q2
    have u4 := cell_of_row w1 _ 4 _ _ _ q2
    have u5 := cell_of_row w1 _ 5 _ _ _ q2
    have v0 := cell_of_row w1 _ 0 _ _ _ q3
    have v1 := cell_of_row w1 _ 1 _ _ _ q3
    have v2 := cell_of_row w1 _ 2 _ _ _ q3
    have v3 := cell_of_row w1 _ 3 _ _ _ q3
    have v4 := cell_of_row w1 _ 4 _ _ _ q3
    have v5 := cell_of_row w1 _ 5 _ _ _ q3
    by_cases hp : 0 < n
    · have hd2 : decide (-n < 0) = true := decide_eq_true (by omega)
      rw [hd2] at h2
      have HZ : Hid (R = false) := HR.out.symm.trans (by simp; omega)
      go_wp2_with fail
      refine (h2 w1 (B1.mono hB) (by have := HSW.out; omega)).mono ?_
      rintro e w2 ⟨rfl, hb2⟩
      go_wp2
      go_ret
      rw [HZ.out]
      exact ⟨rfl, B1.trans (hb2.mono (by have := HSW.out; omega))⟩
    · have hd2 : decide (-n < 0) = false := decide_eq_false (by omega)
      rw [hd2] at h2
      have HZ : Hid (R = true) := HR.out.symm.trans (by simp; omega)
      go_wp2_with fail
      refine (h2 w1 (B1.mono hB) (by have := HSW.out; omega)).mono ?_
      rintro e w2 ⟨rfl, hb2⟩
      go_wp2
      go_ret
      rw [HZ.out]
      exact ⟨rfl, B1.trans (hb2.mono (by have := HSW.out; omega))⟩
end Go.Proofs.Ytjmjlijmeahmfaa
