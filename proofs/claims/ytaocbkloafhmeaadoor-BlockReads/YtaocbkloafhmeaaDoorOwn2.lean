/- Sealed, slices.Clone of revisions, own, bodyAt, called. -/
import Derived.Test.YtaocbkloafhmeaaDoorFol
import Derived.Test.YtaocbkloafhmeaaDoorRrt
import Derived.Test.YtaocbkloafhmeaaDoorMrx
namespace Go.Proofs.YtaocbkloafhmeaaDoor
open Go.RowKit
def sealT (r : Rv) : Rv := if bodied r.op then { r with h := sumS (leafT r.b) } else r
set_option maxRecDepth 100000 in
set_option maxHeartbeats 2000000 in
theorem sealed_any (r : Rv) (hr : r.fit) (w : World) (hG : GL w) :
    Calls Tryd.prog 9 #[r.val] w fun e w' => e = .returned (sealT r).val ∧ Below w.heap.size w w' := by
  have hb := hr.b
  have k1 := fun W => has_any r.op W
  have k2 := fun W hG => leaf_any r.b (by omega) W hG
  have hs : (sealT r).val = if bodied r.op then .agg #[.int .i64 r.op, .string r.t, .string r.f, .int .u64 (r.d : Int), .int .u64 (r.v : Int), .string (sumS (leafT r.b)), .string r.b, .bool r.g] else .agg #[.int .i64 r.op, .string r.t, .string r.f, .int .u64 (r.d : Int), .int .u64 (r.v : Int), .string r.h, .string r.b, .bool r.g] := by
    unfold sealT
    split <;> rfl
  rw [hs]
  clear hs
  obtain ⟨y, hy⟩ : ∃ y, sumS (leafT r.b) = y := ⟨_, rfl⟩
  obtain ⟨H, hH⟩ : ∃ H, bodied r.op = H := ⟨_, rfl⟩
  rw [hy] at k2 ⊢
  rw [hH] at k1 ⊢
  clear hy hH hr
  obtain ⟨op, t, f, d, v, q, b, g⟩ := r
  simp only at hb k1 k2 ⊢
  rw [show (Rv.mk op t f d v q b g).val = .agg #[.int .i64 op, .string t, .string f, .int .u64 (d : Int), .int .u64 (v : Int), .string q, .string b, .bool g] from rfl]
  go_enter Tryd.func9, Tryd.ntmps9
  go_wp2_with fail
  refine (k1 _).mono ?_
  rintro e w1 ⟨rfl, rfl⟩
  cases H with
  | false =>
    go_wp2
    refine bodyPost_ret (v := .agg #[.int .i64 op, .string t, .string f, .int .u64 (d : Int), .int .u64 (v : Int), .string q, .string b, .bool g]) (by simp [results, Tryd.results9, go_sem]) rfl ⟨rfl, ?_⟩
    exact ((Below.refl _ w).alloc (Nat.le_refl _) _).alloc (by simp) _
  | true =>
    go_wp2_with fail
    refine (k2 _ (hG.later (((Below.refl _ w).alloc (Nat.le_refl _) _).alloc (by simp) _))).mono ?_
    rintro e w2 ⟨rfl, hb2⟩
    have hrow := (hb2.block w.heap.size (by simp; omega)).trans ((Below.heap_alloc _ _ _ (by simp)).trans (heap_alloc_new w (.cells #[.int .i64 op, .string t, .string f, .int .u64 (d : Int), .int .u64 (v : Int), .string q, .string b, .bool g] 24)))
    have hres := (hb2.block (w.heap.size + 1) (by simp)).trans (two_new w _ _)
    have c0 := cell_of_row w2 _ 0 _ _ _ hrow
    have r0 := cell_of_row w2 _ 0 _ _ _ hres
    have s0 := frozen_of_row w2 _ 0 _ _ hres
    have c1 := cell_of_row w2 _ 1 _ _ _ hrow
    have r1 := cell_of_row w2 _ 1 _ _ _ hres
    have s1 := frozen_of_row w2 _ 1 _ _ hres
    have c2 := cell_of_row w2 _ 2 _ _ _ hrow
    have r2 := cell_of_row w2 _ 2 _ _ _ hres
    have s2 := frozen_of_row w2 _ 2 _ _ hres
    have c3 := cell_of_row w2 _ 3 _ _ _ hrow
    have r3 := cell_of_row w2 _ 3 _ _ _ hres
    have s3 := frozen_of_row w2 _ 3 _ _ hres
    have c4 := cell_of_row w2 _ 4 _ _ _ hrow
    have r4 := cell_of_row w2 _ 4 _ _ _ hres
    have s4 := frozen_of_row w2 _ 4 _ _ hres
    have c5 := cell_of_row w2 _ 5 _ _ _ hrow
    have r5 := cell_of_row w2 _ 5 _ _ _ hres
    have s5 := frozen_of_row w2 _ 5 _ _ hres
    have c6 := cell_of_row w2 _ 6 _ _ _ hrow
    have r6 := cell_of_row w2 _ 6 _ _ _ hres
    have s6 := frozen_of_row w2 _ 6 _ _ hres
    have c7 := cell_of_row w2 _ 7 _ _ _ hrow
    have r7 := cell_of_row w2 _ 7 _ _ _ hres
    have s7 := frozen_of_row w2 _ 7 _ _ hres
    have f5 := frozen_of_row w2 _ 5 _ _ hrow
    have b2 : Below w.heap.size w w2 := (((Below.refl _ w).alloc (Nat.le_refl _) _).alloc (by simp) _).trans (hb2.mono (by simp; omega))
    go_wp2
    have hres5 : (w2.setCell ⟨w.heap.size, 5, none⟩ (.string y)).heap[w.heap.size + 1]? = some (.cells #[.int .i64 0, .string ⟨#[]⟩, .string ⟨#[]⟩, .int .u64 0, .int .u64 0, .string ⟨#[]⟩, .string ⟨#[]⟩, .bool false] 24 (0, 0)) := (Below.heap_setCell _ _ _ _ (by simp)).trans hres
    exact bodyPost_ret (v := .agg #[.int .i64 op, .string t, .string f, .int .u64 (d : Int), .int .u64 (v : Int), .string y, .string b, .bool g]) (results_cell_row Tryd.results9 _ _ (w.heap.size + 1) 24 _ (0, 0) _ rfl (set8_row hres5 _ _ _ _ _ _ _ _) Tryd.underlying24 rfl (by kernel_rfl)) rfl ⟨rfl, set8_below (b2.setCell (p := ⟨w.heap.size, 5, none⟩) (Nat.le_refl _) _) (w.heap.size + 1) (by omega) _ _ _ _ _ _ _ _⟩
end Go.Proofs.YtaocbkloafhmeaaDoor
