/- takeMeta, called: what is taken of bytes as a meta, and where the cursor stands behind it. -/
import Derived.Test.YtaocbkloafhmeaaDoorEnx
import Derived.Test.YtaocbkloafhmeaaDoorChk
import Derived.Test.YtaocbkloafhmeaaDoorMrx
import Derived.Deep.Cut
namespace Go.Proofs.YtaocbkloafhmeaaDoor
open Go.RowKit
theorem uintA_o {s : ByteArray} {o : Nat} {er : Int} (ho : o ≤ s.size) : (uintA s o er).o ≤ s.size := by
  unfold uintA
  split
  · exact (tkA_bound ho).2.1
  · exact ho
theorem bytesA_o {s : ByteArray} {o : Nat} {er n : Int} (ho : o ≤ s.size) : (bytesA s o er n).o ≤ s.size := by
  unfold bytesA
  split
  · split
    · exact ho
    · split
      · exact ho
      · show o + n.toNat ≤ s.size
        omega
  · exact ho
theorem textA_o {s : ByteArray} {o : Nat} {er m : Int} (ho : o ≤ s.size) : (textA s o er m).o ≤ s.size := by
  unfold textA
  split
  · split
    · split
      · exact ho
      · dsimp only
        omega
    · exact ho
  · exact ho
def opA (v : ByteArray) : Int := if v.size = 0 then 0 else chr v 0
structure Tm where
  r : Rv
  o : Nat
  e : Int
def takeR (s : ByteArray) (o : Nat) (er : Int) : Tm :=
  let a0 := bytesA s o er 1
  let a1 := textA s a0.o a0.e 16
  let a2 := textA s a1.o a1.e 16
  let a3 := uintA s a2.o a2.e
  let a4 := uintA s a3.o a3.e
  let a5 := textA s a4.o a4.e 32
  ⟨⟨opA a0.v, a1.v, a2.v, a3.v, a4.v, a5.v, ⟨#[]⟩, bodied (opA a0.v)⟩, a5.o, a5.e⟩
theorem only_row {b k : Nat} {w w' : World} {x : Obj} (h : Only b w w') (hx : w.heap[k]? = some x) (hk : k ≠ b) : w'.heap[k]? = some x := (h.block k (lt_of_row hx) hk).trans hx
theorem only_new {b z : Nat} {w w' : World} (h : Only b w w') (hz : w.heap.size ≤ z) (k : Nat) (v : Value) : Only b w (w'.setCell ⟨z, k, none⟩ v) :=
  ⟨h.os, h.tape, h.output, by simpa using h.size, fun j hj hb => (Below.heap_setCell w' ⟨z, k, none⟩ v j (by show j ≠ z; omega)).trans (h.block j hj hb)⟩
theorem only_set8 {b z : Nat} {w w' : World} (h : Only b w w') (hz : w.heap.size ≤ z) (c0 c1 c2 c3 c4 c5 c6 c7 : Value) : Only b w (set8 w' z c0 c1 c2 c3 c4 c5 c6 c7) :=
  only_new (only_new (only_new (only_new (only_new (only_new (only_new (only_new h hz 0 c0) hz 1 c1) hz 2 c2) hz 3 c3) hz 4 c4) hz 5 c5) hz 6 c6) hz 7 c7
set_option maxRecDepth 100000 in
set_option maxHeartbeats 4000000 in
theorem takem_any {w : World} {b : Nat} {s : ByteArray} {o : Nat} {er : Int} (hcu : Cur w b s (o : Int) er) (ho : o ≤ s.size) (hs : s.size ≤ 72057594037927936) :
    Calls Tryd.prog 58 #[.pointer (some ⟨b, 0, none⟩)] w fun e w' => e = .returned (takeR s o er).r.val ∧ Cur w' b s ((takeR s o er).o : Int) (takeR s o er).e ∧ Only b w w' := by
  have hbl : b < w.heap.size := lt_of_row hcu
  have k0 := fun W (h : Cur W b s (o : Int) er) => bytes_at h ho hs 1
  have o0 : (bytesA s o er 1).o ≤ s.size := bytesA_o ho
  obtain ⟨v0, p0, e0, h0⟩ : ∃ v p e, bytesA s o er 1 = ⟨v, p, e⟩ := ⟨_, _, _, rfl⟩
  rw [h0] at k0 o0
  have k1 := fun W (h : Cur W b s (p0 : Int) e0) => text_at h o0 hs 16
  have o1 : (textA s p0 e0 16).o ≤ s.size := textA_o o0
  obtain ⟨v1, p1, e1, h1⟩ : ∃ v p e, textA s p0 e0 16 = ⟨v, p, e⟩ := ⟨_, _, _, rfl⟩
  rw [h1] at k1 o1
  have k2 := fun W (h : Cur W b s (p1 : Int) e1) => text_at h o1 hs 16
  have o2 : (textA s p1 e1 16).o ≤ s.size := textA_o o1
  obtain ⟨v2, p2, e2, h2⟩ : ∃ v p e, textA s p1 e1 16 = ⟨v, p, e⟩ := ⟨_, _, _, rfl⟩
  rw [h2] at k2 o2
  have k3 := fun W (h : Cur W b s (p2 : Int) e2) => uint_at h o2 hs
  have o3 : (uintA s p2 e2).o ≤ s.size := uintA_o o2
  obtain ⟨v3, p3, e3, h3⟩ : ∃ v p e, uintA s p2 e2 = ⟨v, p, e⟩ := ⟨_, _, _, rfl⟩
  rw [h3] at k3 o3
  have k4 := fun W (h : Cur W b s (p3 : Int) e3) => uint_at h o3 hs
  have o4 : (uintA s p3 e3).o ≤ s.size := uintA_o o3
  obtain ⟨v4, p4, e4, h4⟩ : ∃ v p e, uintA s p3 e3 = ⟨v, p, e⟩ := ⟨_, _, _, rfl⟩
  rw [h4] at k4 o4
  have k5 := fun W (h : Cur W b s (p4 : Int) e4) => text_at h o4 hs 32
  obtain ⟨v5, p5, e5, h5⟩ : ∃ v p e, textA s p4 e4 32 = ⟨v, p, e⟩ := ⟨_, _, _, rfl⟩
  rw [h5] at k5
  have ht : takeR s o er = ⟨⟨opA v0, v1, v2, v3, v4, v5, ⟨#[]⟩, bodied (opA v0)⟩, p5, e5⟩ := by
    unfold takeR
    simp only [h0, h1, h2, h3, h4, h5]
  rw [ht]
  show Calls Tryd.prog 58 _ w fun e w' => e = .returned (.agg #[.int .i64 (opA v0), .string v1, .string v2, .int .u64 (v3 : Int), .int .u64 (v4 : Int), .string v5, .string ⟨#[]⟩, .bool (bodied (opA v0))]) ∧ Cur w' b s (p5 : Int) e5 ∧ Only b w w'
  have kh := fun W => has_any (opA v0) W
  obtain ⟨B, hB⟩ : ∃ B, bodied (opA v0) = B := ⟨_, rfl⟩
  rw [hB] at kh ⊢
  clear ht h0 h1 h2 h3 h4 h5 hB o0 o1 o2 o3 o4 ho
  simp only at k0 k1 k2 k3 k4 k5
  have q0 : ∀ o o', Only b w ((w.alloc o).alloc o') := fun o o' => Only.ofBelow (((Below.refl _ w).alloc (Nat.le_refl _) _).alloc (by simp) _)
  have hcz : ∀ x y, Cur ((w.alloc x).alloc y) b s (o : Int) er := fun x y => (Below.heap_alloc _ _ _ (by simp; omega)).trans ((Below.heap_alloc _ _ _ hbl).trans hcu)
  go_enter Tryd.func58, Tryd.ntmps58
  go_wp2_with fail
  refine (k0 _ (hcz _ _)).mono ?_
  rintro e w1 ⟨rfl, hc1, hq1⟩
  have hres1 : w1.heap[w.heap.size]? = some (.cells #[.int .i64 0, .string ⟨#[]⟩, .string ⟨#[]⟩, .int .u64 0, .int .u64 0, .string ⟨#[]⟩, .string ⟨#[]⟩, .bool false] 24 (0, 0)) := only_row hq1 ((Below.heap_alloc _ _ _ (by simp)).trans (heap_alloc_new _ _)) (by omega)
  have hr1 : w1.heap[w.heap.size + 1]? = some (.cells #[.int .i64 0, .string ⟨#[]⟩, .string ⟨#[]⟩, .int .u64 0, .int .u64 0, .string ⟨#[]⟩, .string ⟨#[]⟩, .bool false] 24 (0, 0)) := only_row hq1 (two_new _ _ _) (by omega)
  have hw1 := (q0 _ _).trans hq1
  by_cases hz : v0.size = 0
  · have hz' : v0.toList.isEmpty = true := by rw [empty_size]; exact decide_eq_true hz
    have hop : opA v0 = 0 := if_pos hz
    have hr_wa : w1.heap[w.heap.size + 1]? = some (.cells #[.int .i64 (opA v0), .string ⟨#[]⟩, .string ⟨#[]⟩, .int .u64 0, .int .u64 0, .string ⟨#[]⟩, .string ⟨#[]⟩, .bool false] 24 (0, 0)) := by rw [hop]; exact hr1
    have hs_wa := hres1
    have hc_wa := hc1
    have hq_wa := hw1
    clear hop hr1 hres1 hc1 hw1 hq1 k0
    obtain ⟨wa, rfl⟩ : ∃ wa, wa = w1 := ⟨_, rfl⟩
    go_wp2_with fail
    refine (k1 _ hc_wa).mono ?_
    rintro e wb ⟨rfl, hc_wb, hq'⟩
    have hr_wb := only_row hq' hr_wa (by omega)
    have hs_wb := only_row hq' hs_wa (by omega)
    have hq_wb := hq_wa.trans hq'
    clear hq' hr_wa hs_wa hc_wa hq_wa
    go_wp2_with fail
    refine (k2 _ hc_wb).mono ?_
    rintro e wc ⟨rfl, hc_wc, hq'⟩
    have hr_wc := only_row hq' hr_wb (by omega)
    have hs_wc := only_row hq' hs_wb (by omega)
    have hq_wc := hq_wb.trans hq'
    clear hq' hr_wb hs_wb hc_wb hq_wb
    have f1 := frozen_of_row wc _ 1 _ _ hr_wc
    have f2 := frozen_of_row wc _ 2 _ _ hr_wc
    have c0 := cell_of_row wc _ 0 _ _ _ hr_wc
    have c1 := cell_of_row wc _ 1 _ _ _ hr_wc
    have c2 := cell_of_row wc _ 2 _ _ _ hr_wc
    have c3 := cell_of_row wc _ 3 _ _ _ hr_wc
    have c4 := cell_of_row wc _ 4 _ _ _ hr_wc
    have c5 := cell_of_row wc _ 5 _ _ _ hr_wc
    have c6 := cell_of_row wc _ 6 _ _ _ hr_wc
    have c7 := cell_of_row wc _ 7 _ _ _ hr_wc
    go_upto_region 6 with fail
    clear c0 c1 c2 c3 c4 c5 c6 c7 f1 f2
    obtain ⟨wd, hE⟩ : ∃ W, ((wc.setCell ⟨w.heap.size + 1, 1, none⟩ (.string v1)).setCell ⟨w.heap.size + 1, 2, none⟩ (.string v2)) = W := ⟨_, rfl⟩
    have hr_wd : wd.heap[w.heap.size + 1]? = some (.cells #[.int .i64 (opA v0), .string v1, .string v2, .int .u64 0, .int .u64 0, .string ⟨#[]⟩, .string ⟨#[]⟩, .bool false] 24 (0, 0)) := by
      rw [← hE]
      have g0 := row_setCell (k := 1) hr_wc (.string v1)
      simp only [List.setIfInBounds_toArray, List.set_cons_zero, List.set_cons_succ] at g0
      have g1 := row_setCell (k := 2) g0 (.string v2)
      simp only [List.setIfInBounds_toArray, List.set_cons_zero, List.set_cons_succ] at g1
      exact g1
    have hs_wd : wd.heap[w.heap.size]? = some (.cells #[.int .i64 0, .string ⟨#[]⟩, .string ⟨#[]⟩, .int .u64 0, .int .u64 0, .string ⟨#[]⟩, .string ⟨#[]⟩, .bool false] 24 (0, 0)) := by rw [← hE]; exact (Below.heap_setCell _ _ _ _ (by first | (simp; done) | (simp; omega))).trans ((Below.heap_setCell _ _ _ _ (by first | (simp; done) | (simp; omega))).trans (hs_wc))
    have hc_wd : Cur wd b s (p2 : Int) e2 := by rw [← hE]; exact (Below.heap_setCell _ _ _ _ (by first | (simp; done) | (simp; omega))).trans ((Below.heap_setCell _ _ _ _ (by first | (simp; done) | (simp; omega))).trans (hc_wc))
    have hq_wd : Only b w wd := by rw [← hE]; exact (only_new (only_new hq_wc (by omega) 1 (.string v1)) (by omega) 2 (.string v2))
    rw [hE]
    clear hE hr_wc hs_wc hc_wc hq_wc
    go_wp2_with fail
    refine (k3 _ hc_wd).mono ?_
    rintro e we ⟨rfl, hc_we, hq'⟩
    have hr_we := only_row hq' hr_wd (by omega)
    have hs_we := only_row hq' hs_wd (by omega)
    have hq_we := hq_wd.trans hq'
    clear hq' hr_wd hs_wd hc_wd hq_wd
    go_wp2_with fail
    refine (k4 _ hc_we).mono ?_
    rintro e wf ⟨rfl, hc_wf, hq'⟩
    have hr_wf := only_row hq' hr_we (by omega)
    have hs_wf := only_row hq' hs_we (by omega)
    have hq_wf := hq_we.trans hq'
    clear hq' hr_we hs_we hc_we hq_we
    have f3 := frozen_of_row wf _ 3 _ _ hr_wf
    have f4 := frozen_of_row wf _ 4 _ _ hr_wf
    have c0 := cell_of_row wf _ 0 _ _ _ hr_wf
    have c1 := cell_of_row wf _ 1 _ _ _ hr_wf
    have c2 := cell_of_row wf _ 2 _ _ _ hr_wf
    have c3 := cell_of_row wf _ 3 _ _ _ hr_wf
    have c4 := cell_of_row wf _ 4 _ _ _ hr_wf
    have c5 := cell_of_row wf _ 5 _ _ _ hr_wf
    have c6 := cell_of_row wf _ 6 _ _ _ hr_wf
    have c7 := cell_of_row wf _ 7 _ _ _ hr_wf
    go_upto_region 7 with fail
    clear c0 c1 c2 c3 c4 c5 c6 c7 f3 f4
    obtain ⟨wg, hE⟩ : ∃ W, ((wf.setCell ⟨w.heap.size + 1, 3, none⟩ (.int .u64 (v3 : Int))).setCell ⟨w.heap.size + 1, 4, none⟩ (.int .u64 (v4 : Int))) = W := ⟨_, rfl⟩
    have hr_wg : wg.heap[w.heap.size + 1]? = some (.cells #[.int .i64 (opA v0), .string v1, .string v2, .int .u64 (v3 : Int), .int .u64 (v4 : Int), .string ⟨#[]⟩, .string ⟨#[]⟩, .bool false] 24 (0, 0)) := by
      rw [← hE]
      have g0 := row_setCell (k := 3) hr_wf (.int .u64 (v3 : Int))
      simp only [List.setIfInBounds_toArray, List.set_cons_zero, List.set_cons_succ] at g0
      have g1 := row_setCell (k := 4) g0 (.int .u64 (v4 : Int))
      simp only [List.setIfInBounds_toArray, List.set_cons_zero, List.set_cons_succ] at g1
      exact g1
    have hs_wg : wg.heap[w.heap.size]? = some (.cells #[.int .i64 0, .string ⟨#[]⟩, .string ⟨#[]⟩, .int .u64 0, .int .u64 0, .string ⟨#[]⟩, .string ⟨#[]⟩, .bool false] 24 (0, 0)) := by rw [← hE]; exact (Below.heap_setCell _ _ _ _ (by first | (simp; done) | (simp; omega))).trans ((Below.heap_setCell _ _ _ _ (by first | (simp; done) | (simp; omega))).trans (hs_wf))
    have hc_wg : Cur wg b s (p4 : Int) e4 := by rw [← hE]; exact (Below.heap_setCell _ _ _ _ (by first | (simp; done) | (simp; omega))).trans ((Below.heap_setCell _ _ _ _ (by first | (simp; done) | (simp; omega))).trans (hc_wf))
    have hq_wg : Only b w wg := by rw [← hE]; exact (only_new (only_new hq_wf (by omega) 3 (.int .u64 (v3 : Int))) (by omega) 4 (.int .u64 (v4 : Int)))
    rw [hE]
    clear hE hr_wf hs_wf hc_wf hq_wf
    go_wp2_with fail
    refine (k5 _ hc_wg).mono ?_
    rintro e wh ⟨rfl, hc_wh, hq'⟩
    have hr_wh := only_row hq' hr_wg (by omega)
    have hs_wh := only_row hq' hs_wg (by omega)
    have hq_wh := hq_wg.trans hq'
    clear hq' hr_wg hs_wg hc_wg hq_wg
    have f5 := frozen_of_row wh _ 5 _ _ hr_wh
    have c0 := cell_of_row wh _ 0 _ _ _ hr_wh
    have c1 := cell_of_row wh _ 1 _ _ _ hr_wh
    have c2 := cell_of_row wh _ 2 _ _ _ hr_wh
    have c3 := cell_of_row wh _ 3 _ _ _ hr_wh
    have c4 := cell_of_row wh _ 4 _ _ _ hr_wh
    have c5 := cell_of_row wh _ 5 _ _ _ hr_wh
    have c6 := cell_of_row wh _ 6 _ _ _ hr_wh
    have c7 := cell_of_row wh _ 7 _ _ _ hr_wh
    go_upto_region 8 with fail
    clear c0 c1 c2 c3 c4 c5 c6 c7 f5
    obtain ⟨wi, hE⟩ : ∃ W, (wh.setCell ⟨w.heap.size + 1, 5, none⟩ (.string v5)) = W := ⟨_, rfl⟩
    have hr_wi : wi.heap[w.heap.size + 1]? = some (.cells #[.int .i64 (opA v0), .string v1, .string v2, .int .u64 (v3 : Int), .int .u64 (v4 : Int), .string v5, .string ⟨#[]⟩, .bool false] 24 (0, 0)) := by
      rw [← hE]
      have g0 := row_setCell (k := 5) hr_wh (.string v5)
      simp only [List.setIfInBounds_toArray, List.set_cons_zero, List.set_cons_succ] at g0
      exact g0
    have hs_wi : wi.heap[w.heap.size]? = some (.cells #[.int .i64 0, .string ⟨#[]⟩, .string ⟨#[]⟩, .int .u64 0, .int .u64 0, .string ⟨#[]⟩, .string ⟨#[]⟩, .bool false] 24 (0, 0)) := by rw [← hE]; exact (Below.heap_setCell _ _ _ _ (by first | (simp; done) | (simp; omega))).trans (hs_wh)
    have hc_wi : Cur wi b s (p5 : Int) e5 := by rw [← hE]; exact (Below.heap_setCell _ _ _ _ (by first | (simp; done) | (simp; omega))).trans (hc_wh)
    have hq_wi : Only b w wi := by rw [← hE]; exact (only_new hq_wh (by omega) 5 (.string v5))
    rw [hE]
    clear hE hr_wh hs_wh hc_wh hq_wh
    have f7 := frozen_of_row wi _ 7 _ _ hr_wi
    have c0 := cell_of_row wi _ 0 _ _ _ hr_wi
    have c1 := cell_of_row wi _ 1 _ _ _ hr_wi
    have c2 := cell_of_row wi _ 2 _ _ _ hr_wi
    have c3 := cell_of_row wi _ 3 _ _ _ hr_wi
    have c4 := cell_of_row wi _ 4 _ _ _ hr_wi
    have c5 := cell_of_row wi _ 5 _ _ _ hr_wi
    have c6 := cell_of_row wi _ 6 _ _ _ hr_wi
    have c7 := cell_of_row wi _ 7 _ _ _ hr_wi
    go_wp2_with fail
    refine (kh _).mono ?_
    rintro e wj ⟨rfl, rfl⟩
    go_upto_region 9 with fail
    clear c0 c1 c2 c3 c4 c5 c6 c7 f7
    obtain ⟨wk, hE⟩ : ∃ W, (wj.setCell ⟨w.heap.size + 1, 7, none⟩ (.bool B)) = W := ⟨_, rfl⟩
    have hr_wk : wk.heap[w.heap.size + 1]? = some (.cells #[.int .i64 (opA v0), .string v1, .string v2, .int .u64 (v3 : Int), .int .u64 (v4 : Int), .string v5, .string ⟨#[]⟩, .bool B] 24 (0, 0)) := by
      rw [← hE]
      have g0 := row_setCell (k := 7) hr_wi (.bool B)
      simp only [List.setIfInBounds_toArray, List.set_cons_zero, List.set_cons_succ] at g0
      exact g0
    have hs_wk : wk.heap[w.heap.size]? = some (.cells #[.int .i64 0, .string ⟨#[]⟩, .string ⟨#[]⟩, .int .u64 0, .int .u64 0, .string ⟨#[]⟩, .string ⟨#[]⟩, .bool false] 24 (0, 0)) := by rw [← hE]; exact (Below.heap_setCell _ _ _ _ (by first | (simp; done) | (simp; omega))).trans (hs_wi)
    have hc_wk : Cur wk b s (p5 : Int) e5 := by rw [← hE]; exact (Below.heap_setCell _ _ _ _ (by first | (simp; done) | (simp; omega))).trans (hc_wi)
    have hq_wk : Only b w wk := by rw [← hE]; exact (only_new hq_wi (by omega) 7 (.bool B))
    rw [hE]
    clear hE hr_wi hs_wi hc_wi hq_wi
    have c0 := cell_of_row wk _ 0 _ _ _ hr_wk
    have c1 := cell_of_row wk _ 1 _ _ _ hr_wk
    have c2 := cell_of_row wk _ 2 _ _ _ hr_wk
    have c3 := cell_of_row wk _ 3 _ _ _ hr_wk
    have c4 := cell_of_row wk _ 4 _ _ _ hr_wk
    have c5 := cell_of_row wk _ 5 _ _ _ hr_wk
    have c6 := cell_of_row wk _ 6 _ _ _ hr_wk
    have c7 := cell_of_row wk _ 7 _ _ _ hr_wk
    have s0 := frozen_of_row wk _ 0 _ _ hs_wk
    have s1 := frozen_of_row wk _ 1 _ _ hs_wk
    have s2 := frozen_of_row wk _ 2 _ _ hs_wk
    have s3 := frozen_of_row wk _ 3 _ _ hs_wk
    have s4 := frozen_of_row wk _ 4 _ _ hs_wk
    have s5 := frozen_of_row wk _ 5 _ _ hs_wk
    have s6 := frozen_of_row wk _ 6 _ _ hs_wk
    have s7 := frozen_of_row wk _ 7 _ _ hs_wk
    have r0 := cell_of_row wk _ 0 _ _ _ hs_wk
    have r1 := cell_of_row wk _ 1 _ _ _ hs_wk
    have r2 := cell_of_row wk _ 2 _ _ _ hs_wk
    have r3 := cell_of_row wk _ 3 _ _ _ hs_wk
    have r4 := cell_of_row wk _ 4 _ _ _ hs_wk
    have r5 := cell_of_row wk _ 5 _ _ _ hs_wk
    have r6 := cell_of_row wk _ 6 _ _ _ hs_wk
    have r7 := cell_of_row wk _ 7 _ _ _ hs_wk
    go_wp2
    refine bodyPost_ret (v := .agg #[.int .i64 (opA v0), .string v1, .string v2, .int .u64 (v3 : Int), .int .u64 (v4 : Int), .string v5, .string ⟨#[]⟩, .bool B]) (results_cell_row Tryd.results58 _ _ w.heap.size 24 _ (0, 0) _ rfl (set8_row hs_wk _ _ _ _ _ _ _ _) Tryd.underlying24 rfl (by kernel_rfl)) rfl ⟨rfl, ?_, ?_⟩
    · exact (set8_block wk w.heap.size _ _ _ _ _ _ _ _ b (by omega)).trans hc_wk
    · exact only_set8 hq_wk (Nat.le_refl _)  _ _ _ _ _ _ _ _
  · have hz' : v0.toList.isEmpty = false := by rw [empty_size]; exact decide_eq_false hz
    have hop : opA v0 = chr v0 0 := if_neg hz
    have hch := chr_eq v0 0 (by omega)
    have hz0 : (0 : Int) < (v0.size : Int) := by omega
    have hlo : 0 ≤ chr v0 0 := by unfold chr; omega
    have hhi : chr v0 0 < 256 := by unfold chr byteAt; have := (v0.data.toList.getD 0 0).toNat_lt; omega
    have f0 := frozen_of_row w1 _ 0 _ _ hr1
    have c0 := cell_of_row w1 _ 0 _ _ _ hr1
    go_upto_region 5 with fail
    rw [← hop]
    obtain ⟨wa, hE⟩ : ∃ W, (w1.setCell ⟨w.heap.size + 1, 0, none⟩ (.int .i64 (opA v0))) = W := ⟨_, rfl⟩
    have hr_wa : wa.heap[w.heap.size + 1]? = some (.cells #[.int .i64 (opA v0), .string ⟨#[]⟩, .string ⟨#[]⟩, .int .u64 0, .int .u64 0, .string ⟨#[]⟩, .string ⟨#[]⟩, .bool false] 24 (0, 0)) := by
      rw [← hE]
      have g0 := row_setCell (k := 0) hr1 (.int .i64 (opA v0))
      simp only [List.setIfInBounds_toArray, List.set_cons_zero] at g0
      exact g0
    have hs_wa : wa.heap[w.heap.size]? = some (.cells #[.int .i64 0, .string ⟨#[]⟩, .string ⟨#[]⟩, .int .u64 0, .int .u64 0, .string ⟨#[]⟩, .string ⟨#[]⟩, .bool false] 24 (0, 0)) := by rw [← hE]; exact (Below.heap_setCell _ _ _ _ (by first | (simp; done) | (simp; omega))).trans hres1
    have hc_wa : Cur wa b s (p0 : Int) e0 := by rw [← hE]; exact (Below.heap_setCell _ _ _ _ (by first | (simp; done) | (simp; omega))).trans hc1
    have hq_wa : Only b w wa := by rw [← hE]; exact only_new hw1 (by omega) 0 (.int .i64 (opA v0))
    rw [hE]
    clear hE hop hr1 hres1 hc1 hw1 hq1 k0 hch f0 c0
    go_wp2_with fail
    refine (k1 _ hc_wa).mono ?_
    rintro e wb ⟨rfl, hc_wb, hq'⟩
    have hr_wb := only_row hq' hr_wa (by omega)
    have hs_wb := only_row hq' hs_wa (by omega)
    have hq_wb := hq_wa.trans hq'
    clear hq' hr_wa hs_wa hc_wa hq_wa
    go_wp2_with fail
    refine (k2 _ hc_wb).mono ?_
    rintro e wc ⟨rfl, hc_wc, hq'⟩
    have hr_wc := only_row hq' hr_wb (by omega)
    have hs_wc := only_row hq' hs_wb (by omega)
    have hq_wc := hq_wb.trans hq'
    clear hq' hr_wb hs_wb hc_wb hq_wb
    have f1 := frozen_of_row wc _ 1 _ _ hr_wc
    have f2 := frozen_of_row wc _ 2 _ _ hr_wc
    have c0 := cell_of_row wc _ 0 _ _ _ hr_wc
    have c1 := cell_of_row wc _ 1 _ _ _ hr_wc
    have c2 := cell_of_row wc _ 2 _ _ _ hr_wc
    have c3 := cell_of_row wc _ 3 _ _ _ hr_wc
    have c4 := cell_of_row wc _ 4 _ _ _ hr_wc
    have c5 := cell_of_row wc _ 5 _ _ _ hr_wc
    have c6 := cell_of_row wc _ 6 _ _ _ hr_wc
    have c7 := cell_of_row wc _ 7 _ _ _ hr_wc
    go_upto_region 6 with fail
    clear c0 c1 c2 c3 c4 c5 c6 c7 f1 f2
    obtain ⟨wd, hE⟩ : ∃ W, ((wc.setCell ⟨w.heap.size + 1, 1, none⟩ (.string v1)).setCell ⟨w.heap.size + 1, 2, none⟩ (.string v2)) = W := ⟨_, rfl⟩
    have hr_wd : wd.heap[w.heap.size + 1]? = some (.cells #[.int .i64 (opA v0), .string v1, .string v2, .int .u64 0, .int .u64 0, .string ⟨#[]⟩, .string ⟨#[]⟩, .bool false] 24 (0, 0)) := by
      rw [← hE]
      have g0 := row_setCell (k := 1) hr_wc (.string v1)
      simp only [List.setIfInBounds_toArray, List.set_cons_zero, List.set_cons_succ] at g0
      have g1 := row_setCell (k := 2) g0 (.string v2)
      simp only [List.setIfInBounds_toArray, List.set_cons_zero, List.set_cons_succ] at g1
      exact g1
    have hs_wd : wd.heap[w.heap.size]? = some (.cells #[.int .i64 0, .string ⟨#[]⟩, .string ⟨#[]⟩, .int .u64 0, .int .u64 0, .string ⟨#[]⟩, .string ⟨#[]⟩, .bool false] 24 (0, 0)) := by rw [← hE]; exact (Below.heap_setCell _ _ _ _ (by first | (simp; done) | (simp; omega))).trans ((Below.heap_setCell _ _ _ _ (by first | (simp; done) | (simp; omega))).trans (hs_wc))
    have hc_wd : Cur wd b s (p2 : Int) e2 := by rw [← hE]; exact (Below.heap_setCell _ _ _ _ (by first | (simp; done) | (simp; omega))).trans ((Below.heap_setCell _ _ _ _ (by first | (simp; done) | (simp; omega))).trans (hc_wc))
    have hq_wd : Only b w wd := by rw [← hE]; exact (only_new (only_new hq_wc (by omega) 1 (.string v1)) (by omega) 2 (.string v2))
    rw [hE]
    clear hE hr_wc hs_wc hc_wc hq_wc
    go_wp2_with fail
    refine (k3 _ hc_wd).mono ?_
    rintro e we ⟨rfl, hc_we, hq'⟩
    have hr_we := only_row hq' hr_wd (by omega)
    have hs_we := only_row hq' hs_wd (by omega)
    have hq_we := hq_wd.trans hq'
    clear hq' hr_wd hs_wd hc_wd hq_wd
    go_wp2_with fail
    refine (k4 _ hc_we).mono ?_
    rintro e wf ⟨rfl, hc_wf, hq'⟩
    have hr_wf := only_row hq' hr_we (by omega)
    have hs_wf := only_row hq' hs_we (by omega)
    have hq_wf := hq_we.trans hq'
    clear hq' hr_we hs_we hc_we hq_we
    have f3 := frozen_of_row wf _ 3 _ _ hr_wf
    have f4 := frozen_of_row wf _ 4 _ _ hr_wf
    have c0 := cell_of_row wf _ 0 _ _ _ hr_wf
    have c1 := cell_of_row wf _ 1 _ _ _ hr_wf
    have c2 := cell_of_row wf _ 2 _ _ _ hr_wf
    have c3 := cell_of_row wf _ 3 _ _ _ hr_wf
    have c4 := cell_of_row wf _ 4 _ _ _ hr_wf
    have c5 := cell_of_row wf _ 5 _ _ _ hr_wf
    have c6 := cell_of_row wf _ 6 _ _ _ hr_wf
    have c7 := cell_of_row wf _ 7 _ _ _ hr_wf
    go_upto_region 7 with fail
    clear c0 c1 c2 c3 c4 c5 c6 c7 f3 f4
    obtain ⟨wg, hE⟩ : ∃ W, ((wf.setCell ⟨w.heap.size + 1, 3, none⟩ (.int .u64 (v3 : Int))).setCell ⟨w.heap.size + 1, 4, none⟩ (.int .u64 (v4 : Int))) = W := ⟨_, rfl⟩
    have hr_wg : wg.heap[w.heap.size + 1]? = some (.cells #[.int .i64 (opA v0), .string v1, .string v2, .int .u64 (v3 : Int), .int .u64 (v4 : Int), .string ⟨#[]⟩, .string ⟨#[]⟩, .bool false] 24 (0, 0)) := by
      rw [← hE]
      have g0 := row_setCell (k := 3) hr_wf (.int .u64 (v3 : Int))
      simp only [List.setIfInBounds_toArray, List.set_cons_zero, List.set_cons_succ] at g0
      have g1 := row_setCell (k := 4) g0 (.int .u64 (v4 : Int))
      simp only [List.setIfInBounds_toArray, List.set_cons_zero, List.set_cons_succ] at g1
      exact g1
    have hs_wg : wg.heap[w.heap.size]? = some (.cells #[.int .i64 0, .string ⟨#[]⟩, .string ⟨#[]⟩, .int .u64 0, .int .u64 0, .string ⟨#[]⟩, .string ⟨#[]⟩, .bool false] 24 (0, 0)) := by rw [← hE]; exact (Below.heap_setCell _ _ _ _ (by first | (simp; done) | (simp; omega))).trans ((Below.heap_setCell _ _ _ _ (by first | (simp; done) | (simp; omega))).trans (hs_wf))
    have hc_wg : Cur wg b s (p4 : Int) e4 := by rw [← hE]; exact (Below.heap_setCell _ _ _ _ (by first | (simp; done) | (simp; omega))).trans ((Below.heap_setCell _ _ _ _ (by first | (simp; done) | (simp; omega))).trans (hc_wf))
    have hq_wg : Only b w wg := by rw [← hE]; exact (only_new (only_new hq_wf (by omega) 3 (.int .u64 (v3 : Int))) (by omega) 4 (.int .u64 (v4 : Int)))
    rw [hE]
    clear hE hr_wf hs_wf hc_wf hq_wf
    go_wp2_with fail
    refine (k5 _ hc_wg).mono ?_
    rintro e wh ⟨rfl, hc_wh, hq'⟩
    have hr_wh := only_row hq' hr_wg (by omega)
    have hs_wh := only_row hq' hs_wg (by omega)
    have hq_wh := hq_wg.trans hq'
    clear hq' hr_wg hs_wg hc_wg hq_wg
    have f5 := frozen_of_row wh _ 5 _ _ hr_wh
    have c0 := cell_of_row wh _ 0 _ _ _ hr_wh
    have c1 := cell_of_row wh _ 1 _ _ _ hr_wh
    have c2 := cell_of_row wh _ 2 _ _ _ hr_wh
    have c3 := cell_of_row wh _ 3 _ _ _ hr_wh
    have c4 := cell_of_row wh _ 4 _ _ _ hr_wh
    have c5 := cell_of_row wh _ 5 _ _ _ hr_wh
    have c6 := cell_of_row wh _ 6 _ _ _ hr_wh
    have c7 := cell_of_row wh _ 7 _ _ _ hr_wh
    go_upto_region 8 with fail
    clear c0 c1 c2 c3 c4 c5 c6 c7 f5
    obtain ⟨wi, hE⟩ : ∃ W, (wh.setCell ⟨w.heap.size + 1, 5, none⟩ (.string v5)) = W := ⟨_, rfl⟩
    have hr_wi : wi.heap[w.heap.size + 1]? = some (.cells #[.int .i64 (opA v0), .string v1, .string v2, .int .u64 (v3 : Int), .int .u64 (v4 : Int), .string v5, .string ⟨#[]⟩, .bool false] 24 (0, 0)) := by
      rw [← hE]
      have g0 := row_setCell (k := 5) hr_wh (.string v5)
      simp only [List.setIfInBounds_toArray, List.set_cons_zero, List.set_cons_succ] at g0
      exact g0
    have hs_wi : wi.heap[w.heap.size]? = some (.cells #[.int .i64 0, .string ⟨#[]⟩, .string ⟨#[]⟩, .int .u64 0, .int .u64 0, .string ⟨#[]⟩, .string ⟨#[]⟩, .bool false] 24 (0, 0)) := by rw [← hE]; exact (Below.heap_setCell _ _ _ _ (by first | (simp; done) | (simp; omega))).trans (hs_wh)
    have hc_wi : Cur wi b s (p5 : Int) e5 := by rw [← hE]; exact (Below.heap_setCell _ _ _ _ (by first | (simp; done) | (simp; omega))).trans (hc_wh)
    have hq_wi : Only b w wi := by rw [← hE]; exact (only_new hq_wh (by omega) 5 (.string v5))
    rw [hE]
    clear hE hr_wh hs_wh hc_wh hq_wh
    have f7 := frozen_of_row wi _ 7 _ _ hr_wi
    have c0 := cell_of_row wi _ 0 _ _ _ hr_wi
    have c1 := cell_of_row wi _ 1 _ _ _ hr_wi
    have c2 := cell_of_row wi _ 2 _ _ _ hr_wi
    have c3 := cell_of_row wi _ 3 _ _ _ hr_wi
    have c4 := cell_of_row wi _ 4 _ _ _ hr_wi
    have c5 := cell_of_row wi _ 5 _ _ _ hr_wi
    have c6 := cell_of_row wi _ 6 _ _ _ hr_wi
    have c7 := cell_of_row wi _ 7 _ _ _ hr_wi
    go_wp2_with fail
    refine (kh _).mono ?_
    rintro e wj ⟨rfl, rfl⟩
    go_upto_region 9 with fail
    clear c0 c1 c2 c3 c4 c5 c6 c7 f7
    obtain ⟨wk, hE⟩ : ∃ W, (wj.setCell ⟨w.heap.size + 1, 7, none⟩ (.bool B)) = W := ⟨_, rfl⟩
    have hr_wk : wk.heap[w.heap.size + 1]? = some (.cells #[.int .i64 (opA v0), .string v1, .string v2, .int .u64 (v3 : Int), .int .u64 (v4 : Int), .string v5, .string ⟨#[]⟩, .bool B] 24 (0, 0)) := by
      rw [← hE]
      have g0 := row_setCell (k := 7) hr_wi (.bool B)
      simp only [List.setIfInBounds_toArray, List.set_cons_zero, List.set_cons_succ] at g0
      exact g0
    have hs_wk : wk.heap[w.heap.size]? = some (.cells #[.int .i64 0, .string ⟨#[]⟩, .string ⟨#[]⟩, .int .u64 0, .int .u64 0, .string ⟨#[]⟩, .string ⟨#[]⟩, .bool false] 24 (0, 0)) := by rw [← hE]; exact (Below.heap_setCell _ _ _ _ (by first | (simp; done) | (simp; omega))).trans (hs_wi)
    have hc_wk : Cur wk b s (p5 : Int) e5 := by rw [← hE]; exact (Below.heap_setCell _ _ _ _ (by first | (simp; done) | (simp; omega))).trans (hc_wi)
    have hq_wk : Only b w wk := by rw [← hE]; exact (only_new hq_wi (by omega) 7 (.bool B))
    rw [hE]
    clear hE hr_wi hs_wi hc_wi hq_wi
    have c0 := cell_of_row wk _ 0 _ _ _ hr_wk
    have c1 := cell_of_row wk _ 1 _ _ _ hr_wk
    have c2 := cell_of_row wk _ 2 _ _ _ hr_wk
    have c3 := cell_of_row wk _ 3 _ _ _ hr_wk
    have c4 := cell_of_row wk _ 4 _ _ _ hr_wk
    have c5 := cell_of_row wk _ 5 _ _ _ hr_wk
    have c6 := cell_of_row wk _ 6 _ _ _ hr_wk
    have c7 := cell_of_row wk _ 7 _ _ _ hr_wk
    have s0 := frozen_of_row wk _ 0 _ _ hs_wk
    have s1 := frozen_of_row wk _ 1 _ _ hs_wk
    have s2 := frozen_of_row wk _ 2 _ _ hs_wk
    have s3 := frozen_of_row wk _ 3 _ _ hs_wk
    have s4 := frozen_of_row wk _ 4 _ _ hs_wk
    have s5 := frozen_of_row wk _ 5 _ _ hs_wk
    have s6 := frozen_of_row wk _ 6 _ _ hs_wk
    have s7 := frozen_of_row wk _ 7 _ _ hs_wk
    have r0 := cell_of_row wk _ 0 _ _ _ hs_wk
    have r1 := cell_of_row wk _ 1 _ _ _ hs_wk
    have r2 := cell_of_row wk _ 2 _ _ _ hs_wk
    have r3 := cell_of_row wk _ 3 _ _ _ hs_wk
    have r4 := cell_of_row wk _ 4 _ _ _ hs_wk
    have r5 := cell_of_row wk _ 5 _ _ _ hs_wk
    have r6 := cell_of_row wk _ 6 _ _ _ hs_wk
    have r7 := cell_of_row wk _ 7 _ _ _ hs_wk
    go_wp2
    refine bodyPost_ret (v := .agg #[.int .i64 (opA v0), .string v1, .string v2, .int .u64 (v3 : Int), .int .u64 (v4 : Int), .string v5, .string ⟨#[]⟩, .bool B]) (results_cell_row Tryd.results58 _ _ w.heap.size 24 _ (0, 0) _ rfl (set8_row hs_wk _ _ _ _ _ _ _ _) Tryd.underlying24 rfl (by kernel_rfl)) rfl ⟨rfl, ?_, ?_⟩
    · exact (set8_block wk w.heap.size _ _ _ _ _ _ _ _ b (by omega)).trans hc_wk
    · exact only_set8 hq_wk (Nat.le_refl _)  _ _ _ _ _ _ _ _
end Go.Proofs.YtaocbkloafhmeaaDoor
