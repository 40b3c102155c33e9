/- What a block's header and frame begin with (head), called. -/
import Derived.Test.YtaocbkloafhmeaaDoorMet
import Derived.Test.YtaocbkloafhmeaaDoorRex
namespace Go.Proofs.YtaocbkloafhmeaaDoor
open Go.RowKit
set_option maxRecDepth 100000 in
set_option maxHeartbeats 4000000 in
theorem head_any (x : Bk) (hx : x.fit) (hn : x.n ≤ 1000) (p : Option Addr) (c : Nat) (w : World) :
    Calls Tryd.prog 44 #[x.val p c] w fun e w' => e = .returned (.string (headT x)) ∧ Below w.heap.size w w' := by
  obtain ⟨seq, prev, tx, n, R⟩ := x
  have h1 := fun V => put_any seq hx.seq V
  have h2 := fun V => etext_any prev (Nat.le_trans hx.prev (by omega)) V
  have h3 := fun V => put_any tx hx.tx V
  have h4 := fun V => put_any n (by simp only at hn; omega) V
  have z1 := putS_size hx.seq
  have z2 := textB_size hx.prev
  have z3 := putS_size hx.tx
  have z4 := putS_size (n := n) (by simp only at hn; omega)
  have y2 := hx.prev
  simp only at hn z1 z2 z3 y2
  have hw : IntKind.u64.wrap (n : Int) = (n : Int) := by rw [IntKind.wrap_u64]; omega
  rw [show (Bk.mk seq prev tx n R).val p c = .agg #[.int .u64 (seq : Int), .string prev, .int .u64 (tx : Int), .slice p n c] from rfl]
  go_enter Tryd.func44, Tryd.ntmps44
  go_upto_region 1 with fail
  have hrow : (w.alloc (.cells #[.int .u64 (seq : Int), .string prev, .int .u64 (tx : Int), .slice p n c] 38)).heap[w.heap.size]? = some (.cells #[.int .u64 (seq : Int), .string prev, .int .u64 (tx : Int), .slice p n c] 38 (0, 0)) := heap_alloc_new _ _
  refine any_region (by kernel_rfl) 18 rfl (fun i => if i < 17 then i + 3 else 2) (oneR 1000 (fun _ _ => True) [.pointer (some ⟨w.heap.size, 0, none⟩), .int .u64 (seq : Int), .string (putS seq), .pointer (some ⟨w.heap.size, 1, none⟩), .string prev, .string (textB prev), .string (putS seq ++ textB prev), .pointer (some ⟨w.heap.size, 2, none⟩), .int .u64 (tx : Int), .string (putS tx), .string ((putS seq ++ textB prev) ++ putS tx), .pointer (some ⟨w.heap.size, 3, none⟩), .slice p n c, .int .i64 (n : Int), .int .u64 (n : Int), .string (putS n), .string (((putS seq ++ textB prev) ++ putS tx) ++ putS n), .string (((putS seq ++ textB prev) ++ putS tx) ++ putS n)]) (by kernel_rfl) (by kernel_rfl) (by kernel_rfl) (oneR_later 1000 _ _ (fun _ _ _ _ _ => trivial)) ?step ?post
  case step =>
    intro i hi a W hrest hb hk
    have hp : a.eval (.tmp 1) = .pointer (some ⟨w.heap.size, 0, none⟩) := (hrest 1 (by intro i hi; split <;> omega)).trans rfl
    have fp := ev hp
    have hbx : W.heap[w.heap.size]? = some (.cells #[.int .u64 (seq : Int), .string prev, .int .u64 (tx : Int), .slice p n c] 38 (0, 0)) := (hb.block _ (lt_of_row hrow)).trans hrow
    clear hrest
    obtain rfl | rfl | rfl | rfl | rfl | rfl | rfl | rfl | rfl | rfl | rfl | rfl | rfl | rfl | rfl | rfl | rfl | rfl : i = 0 ∨ i = 1 ∨ i = 2 ∨ i = 3 ∨ i = 4 ∨ i = 5 ∨ i = 6 ∨ i = 7 ∨ i = 8 ∨ i = 9 ∨ i = 10 ∨ i = 11 ∨ i = 12 ∨ i = 13 ∨ i = 14 ∨ i = 15 ∨ i = 16 ∨ i = 17 := by omega
    · clear hi
      clear hk hbx
      refine ⟨_, rfl, rfl, rfl, wp_value (v := .pointer (some ⟨w.heap.size, 0, none⟩)) (w' := W) ?_ ⟨_, rfl, Below.refl _ _, rfl⟩⟩
      go_simp
    · clear hi
      have e0 : a.eval (.tmp 3) = .pointer (some ⟨w.heap.size, 0, none⟩) := hk 0 (mem_of (by kernel_rfl))
      have f0 := ev e0
      have hc : W.cell? ⟨w.heap.size, 0, none⟩ = some (.int .u64 (seq : Int)) := cell_of_row W _ 0 _ _ _ hbx
      clear hk hbx
      refine ⟨_, rfl, rfl, rfl, wp_value (v := .int .u64 (seq : Int)) (w' := W) ?_ ⟨_, rfl, Below.refl _ _, rfl⟩⟩
      go_simp
    · clear hi
      have e1 : a.eval (.tmp 4) = .int .u64 (seq : Int) := hk 1 (mem_of (by kernel_rfl))
      have f1 := ev e1
      clear hk hbx
      refine ⟨_, rfl, rfl, rfl, wp_enter (f := 70) (args := #[.int .u64 (seq : Int)]) ?_ ((h1 W).mono ?_)⟩
      · go_simp
      · rintro e w2 ⟨rfl, hb2⟩
        exact ⟨_, rfl, _, rfl, hb2, rfl⟩
    · clear hi
      clear hk hbx
      refine ⟨_, rfl, rfl, rfl, wp_value (v := .pointer (some ⟨w.heap.size, 1, none⟩)) (w' := W) ?_ ⟨_, rfl, Below.refl _ _, rfl⟩⟩
      go_simp
    · clear hi
      have e3 : a.eval (.tmp 6) = .pointer (some ⟨w.heap.size, 1, none⟩) := hk 3 (mem_of (by kernel_rfl))
      have f3 := ev e3
      have hc : W.cell? ⟨w.heap.size, 1, none⟩ = some (.string prev) := cell_of_row W _ 1 _ _ _ hbx
      clear hk hbx
      refine ⟨_, rfl, rfl, rfl, wp_value (v := .string prev) (w' := W) ?_ ⟨_, rfl, Below.refl _ _, rfl⟩⟩
      go_simp
    · clear hi
      have e4 : a.eval (.tmp 7) = .string prev := hk 4 (mem_of (by kernel_rfl))
      have f4 := ev e4
      clear hk hbx
      refine ⟨_, rfl, rfl, rfl, wp_enter (f := 69) (args := #[.string prev]) ?_ ((h2 W).mono ?_)⟩
      · go_simp
      · rintro e w2 ⟨rfl, hb2⟩
        exact ⟨_, rfl, _, rfl, hb2, rfl⟩
    · clear hi
      have e2 : a.eval (.tmp 5) = .string (putS seq) := hk 2 (mem_of (by kernel_rfl))
      have f2 := ev e2
      have e5 : a.eval (.tmp 8) = .string (textB prev) := hk 5 (mem_of (by kernel_rfl))
      have f5 := ev e5
      clear hk hbx
      refine ⟨_, rfl, rfl, rfl, wp_value (v := .string (putS seq ++ textB prev)) (w' := W) ?_ ⟨_, rfl, Below.refl _ _, rfl⟩⟩
      go_simp
      omega
    · clear hi
      clear hk hbx
      refine ⟨_, rfl, rfl, rfl, wp_value (v := .pointer (some ⟨w.heap.size, 2, none⟩)) (w' := W) ?_ ⟨_, rfl, Below.refl _ _, rfl⟩⟩
      go_simp
    · clear hi
      have e7 : a.eval (.tmp 10) = .pointer (some ⟨w.heap.size, 2, none⟩) := hk 7 (mem_of (by kernel_rfl))
      have f7 := ev e7
      have hc : W.cell? ⟨w.heap.size, 2, none⟩ = some (.int .u64 (tx : Int)) := cell_of_row W _ 2 _ _ _ hbx
      clear hk hbx
      refine ⟨_, rfl, rfl, rfl, wp_value (v := .int .u64 (tx : Int)) (w' := W) ?_ ⟨_, rfl, Below.refl _ _, rfl⟩⟩
      go_simp
    · clear hi
      have e8 : a.eval (.tmp 11) = .int .u64 (tx : Int) := hk 8 (mem_of (by kernel_rfl))
      have f8 := ev e8
      clear hk hbx
      refine ⟨_, rfl, rfl, rfl, wp_enter (f := 70) (args := #[.int .u64 (tx : Int)]) ?_ ((h3 W).mono ?_)⟩
      · go_simp
      · rintro e w2 ⟨rfl, hb2⟩
        exact ⟨_, rfl, _, rfl, hb2, rfl⟩
    · clear hi
      have e6 : a.eval (.tmp 9) = .string (putS seq ++ textB prev) := hk 6 (mem_of (by kernel_rfl))
      have f6 := ev e6
      have e9 : a.eval (.tmp 12) = .string (putS tx) := hk 9 (mem_of (by kernel_rfl))
      have f9 := ev e9
      clear hk hbx
      refine ⟨_, rfl, rfl, rfl, wp_value (v := .string ((putS seq ++ textB prev) ++ putS tx)) (w' := W) ?_ ⟨_, rfl, Below.refl _ _, rfl⟩⟩
      go_simp
      omega
    · clear hi
      clear hk hbx
      refine ⟨_, rfl, rfl, rfl, wp_value (v := .pointer (some ⟨w.heap.size, 3, none⟩)) (w' := W) ?_ ⟨_, rfl, Below.refl _ _, rfl⟩⟩
      go_simp
    · clear hi
      have e11 : a.eval (.tmp 14) = .pointer (some ⟨w.heap.size, 3, none⟩) := hk 11 (mem_of (by kernel_rfl))
      have f11 := ev e11
      have hc : W.cell? ⟨w.heap.size, 3, none⟩ = some (.slice p n c) := cell_of_row W _ 3 _ _ _ hbx
      clear hk hbx
      refine ⟨_, rfl, rfl, rfl, wp_value (v := .slice p n c) (w' := W) ?_ ⟨_, rfl, Below.refl _ _, rfl⟩⟩
      go_simp
    · clear hi
      have e12 : a.eval (.tmp 15) = .slice p n c := hk 12 (mem_of (by kernel_rfl))
      have f12 := ev e12
      clear hk hbx
      refine ⟨_, rfl, rfl, rfl, wp_value (v := .int .i64 (n : Int)) (w' := W) ?_ ⟨_, rfl, Below.refl _ _, rfl⟩⟩
      go_simp
    · clear hi
      have e13 : a.eval (.tmp 16) = .int .i64 (n : Int) := hk 13 (mem_of (by kernel_rfl))
      have f13 := ev e13
      clear hk hbx
      refine ⟨_, rfl, rfl, rfl, wp_value (v := .int .u64 (n : Int)) (w' := W) ?_ ⟨_, rfl, Below.refl _ _, rfl⟩⟩
      go_simp
    · clear hi
      have e14 : a.eval (.tmp 17) = .int .u64 (n : Int) := hk 14 (mem_of (by kernel_rfl))
      have f14 := ev e14
      clear hk hbx
      refine ⟨_, rfl, rfl, rfl, wp_enter (f := 70) (args := #[.int .u64 (n : Int)]) ?_ ((h4 W).mono ?_)⟩
      · go_simp
      · rintro e w2 ⟨rfl, hb2⟩
        exact ⟨_, rfl, _, rfl, hb2, rfl⟩
    · clear hi
      have e10 : a.eval (.tmp 13) = .string ((putS seq ++ textB prev) ++ putS tx) := hk 10 (mem_of (by kernel_rfl))
      have f10 := ev e10
      have e15 : a.eval (.tmp 18) = .string (putS n) := hk 15 (mem_of (by kernel_rfl))
      have f15 := ev e15
      clear hk hbx
      refine ⟨_, rfl, rfl, rfl, wp_value (v := .string (((putS seq ++ textB prev) ++ putS tx) ++ putS n)) (w' := W) ?_ ⟨_, rfl, Below.refl _ _, rfl⟩⟩
      go_simp
      omega
    · clear hi
      have e16 : a.eval (.tmp 19) = .string (((putS seq ++ textB prev) ++ putS tx) ++ putS n) := hk 16 (mem_of (by kernel_rfl))
      have f16 := ev e16
      clear hk hbx
      refine ⟨_, rfl, rfl, rfl, wp_value (v := .string (((putS seq ++ textB prev) ++ putS tx) ++ putS n)) (w' := W) ?_ ⟨_, rfl, Below.refl _ _, rfl⟩⟩
      go_simp
  case post =>
    intro V W hb hV
    have eL : V 17 = .string (((putS seq ++ textB prev) ++ putS tx) ++ putS n) := hV 17 (by omega)
    clear hV
    simp only [putAll, Nat.reduceLT, Nat.reduceAdd, if_true, if_false]
    rw [eL]
    simp only [Act.put, List.setIfInBounds_toArray, List.set_cons_zero, List.set_cons_succ]
    go_wp2
    go_ret
    exact ⟨rfl, ((Below.refl _ w).alloc (Nat.le_refl _) _).trans (hb.mono (by simp))⟩
end Go.Proofs.YtaocbkloafhmeaaDoor
