/- The document's Header and Hash of a block, called. -/
import Derived.Test.YtaocbkloafhmeaaDoorHdr
namespace Go.Proofs.YtaocbkloafhmeaaDoor
open Go.RowKit
set_option maxRecDepth 100000 in
set_option maxHeartbeats 4000000 in
theorem rheader_any (x : Bk) (hx : x.fit) (hn : x.n ≤ 66) (p : Option Addr) (c : Nat) (w : World) (hX : Revs w p x.n c x.R) :
    Calls Tryd.prog 19 #[x.val p c] w fun e w' => e = .returned (.string (headerT x)) ∧ Below w.heap.size w w' := by
  have hz2 := rootT_size x
  have k5 := fun V hX => rrt_any x hn p c V hX
  rw [show rootR (leafs x.R) 0 x.n = rootT x from rfl] at k5
  rw [show headerT x = (((putS x.seq ++ textB x.prev) ++ putS x.tx) ++ putS x.n) ++ rootT x from rfl]
  obtain ⟨rt, hrt⟩ : ∃ rt, rootT x = rt := ⟨_, rfl⟩
  rw [hrt] at k5 hz2 ⊢
  clear hrt
  obtain ⟨seq, prev, tx, n, R⟩ := x
  simp only at k5 hX ⊢
  have h1 := fun V => rput_any seq hx.seq V
  have h2 := fun V => rtx_any prev (Nat.le_trans hx.prev (by omega)) V
  have h3 := fun V => rput_any tx hx.tx V
  have h4 := fun V => rput_any n (by simp only at hn; omega) V
  have z1 := putS_size hx.seq
  have z2 := textB_size hx.prev
  have z3 := putS_size hx.tx
  have z4 := putS_size (n := n) (by simp only at hn; omega)
  have y2 := hx.prev
  simp only at hn z1 z2 z3 y2
  have hw : IntKind.u64.wrap (n : Int) = (n : Int) := by rw [IntKind.wrap_u64]; omega
  rw [show (Bk.mk seq prev tx n R).val p c = .agg #[.int .u64 (seq : Int), .string prev, .int .u64 (tx : Int), .slice p n c] from rfl] at k5 ⊢
  have b0 : Below w.heap.size w (w.alloc (.cells #[.int .u64 (seq : Int), .string prev, .int .u64 (tx : Int), .slice p n c] 41)) := (Below.refl _ w).alloc (Nat.le_refl _) _
  have h5 := fun V (hb : Below (w.alloc (.cells #[.int .u64 (seq : Int), .string prev, .int .u64 (tx : Int), .slice p n c] 41)).heap.size (w.alloc (.cells #[.int .u64 (seq : Int), .string prev, .int .u64 (tx : Int), .slice p n c] 41)) V) => k5 V (hX.later (b0.trans (hb.mono (by simp))))
  clear k5
  go_enter Tryd.func19, Tryd.ntmps19
  go_upto_region 1 with fail
  have hrow : (w.alloc (.cells #[.int .u64 (seq : Int), .string prev, .int .u64 (tx : Int), .slice p n c] 41)).heap[w.heap.size]? = some (.cells #[.int .u64 (seq : Int), .string prev, .int .u64 (tx : Int), .slice p n c] 41 (0, 0)) := heap_alloc_new _ _
  refine any_region (by kernel_rfl) 21 rfl (fun i => if i < 20 then i + 3 else 2) (oneR 1000 (fun _ _ => True) [.pointer (some ⟨w.heap.size, 0, none⟩), .int .u64 (seq : Int), .string (putS seq), .pointer (some ⟨w.heap.size, 1, none⟩), .string prev, .string (textB prev), .string (putS seq ++ textB prev), .pointer (some ⟨w.heap.size, 2, none⟩), .int .u64 (tx : Int), .string (putS tx), .string ((putS seq ++ textB prev) ++ putS tx), .pointer (some ⟨w.heap.size, 3, none⟩), .slice p n c, .int .i64 (n : Int), .int .u64 (n : Int), .string (putS n), .string (((putS seq ++ textB prev) ++ putS tx) ++ putS n), .agg #[.int .u64 (seq : Int), .string prev, .int .u64 (tx : Int), .slice p n c], .string rt, .string ((((putS seq ++ textB prev) ++ putS tx) ++ putS n) ++ rt), .string ((((putS seq ++ textB prev) ++ putS tx) ++ putS n) ++ rt)]) (by kernel_rfl) (by kernel_rfl) (by kernel_rfl) (oneR_later 1000 _ _ (fun _ _ _ _ _ => trivial)) ?step ?post
  case step =>
    intro i hi a W hrest hb hk
    have hp : a.eval (.tmp 1) = .pointer (some ⟨w.heap.size, 0, none⟩) := (hrest 1 (by intro i hi; split <;> omega)).trans rfl
    have fp := ev hp
    have hbx : W.heap[w.heap.size]? = some (.cells #[.int .u64 (seq : Int), .string prev, .int .u64 (tx : Int), .slice p n c] 41 (0, 0)) := (hb.block _ (lt_of_row hrow)).trans hrow
    clear hrest
    obtain rfl | rfl | rfl | rfl | rfl | rfl | rfl | rfl | rfl | rfl | rfl | rfl | rfl | rfl | rfl | rfl | rfl | rfl | rfl | rfl | rfl : i = 0 ∨ i = 1 ∨ i = 2 ∨ i = 3 ∨ i = 4 ∨ i = 5 ∨ i = 6 ∨ i = 7 ∨ i = 8 ∨ i = 9 ∨ i = 10 ∨ i = 11 ∨ i = 12 ∨ i = 13 ∨ i = 14 ∨ i = 15 ∨ i = 16 ∨ i = 17 ∨ i = 18 ∨ i = 19 ∨ i = 20 := by omega
    · clear hi
      clear hk hbx
      refine ⟨_, rfl, rfl, rfl, wp_value (v := .pointer (some ⟨w.heap.size, 0, none⟩)) (w' := W) ?_ ⟨_, rfl, Below.refl _ _, rfl⟩⟩
      go_simp
    · clear hi
      have e0 : a.eval (.tmp 3) = .pointer (some ⟨w.heap.size, 0, none⟩) := hk 0 (mem_of (by kernel_rfl))
      have f0 := ev e0
      have hc : W.cell? ⟨w.heap.size, 0, none⟩ = some (.int .u64 (seq : Int)) := cell_of_row W _ 0 _ _ _ hbx
      clear hk hbx
      refine ⟨_, rfl, rfl, rfl, wp_value (v := .int .u64 (seq : Int)) (w' := W) ?_ ⟨_, rfl, Below.refl _ _, rfl⟩⟩
      go_simp
    · clear hi
      have e1 : a.eval (.tmp 4) = .int .u64 (seq : Int) := hk 1 (mem_of (by kernel_rfl))
      have f1 := ev e1
      clear hk hbx
      refine ⟨_, rfl, rfl, rfl, wp_enter (f := 43) (args := #[.int .u64 (seq : Int)]) ?_ ((h1 W).mono ?_)⟩
      · go_simp
      · rintro e w2 ⟨rfl, hb2⟩
        exact ⟨_, rfl, _, rfl, hb2, rfl⟩
    · clear hi
      clear hk hbx
      refine ⟨_, rfl, rfl, rfl, wp_value (v := .pointer (some ⟨w.heap.size, 1, none⟩)) (w' := W) ?_ ⟨_, rfl, Below.refl _ _, rfl⟩⟩
      go_simp
    · clear hi
      have e3 : a.eval (.tmp 6) = .pointer (some ⟨w.heap.size, 1, none⟩) := hk 3 (mem_of (by kernel_rfl))
      have f3 := ev e3
      have hc : W.cell? ⟨w.heap.size, 1, none⟩ = some (.string prev) := cell_of_row W _ 1 _ _ _ hbx
      clear hk hbx
      refine ⟨_, rfl, rfl, rfl, wp_value (v := .string prev) (w' := W) ?_ ⟨_, rfl, Below.refl _ _, rfl⟩⟩
      go_simp
    · clear hi
      have e4 : a.eval (.tmp 7) = .string prev := hk 4 (mem_of (by kernel_rfl))
      have f4 := ev e4
      clear hk hbx
      refine ⟨_, rfl, rfl, rfl, wp_enter (f := 42) (args := #[.string prev]) ?_ ((h2 W).mono ?_)⟩
      · go_simp
      · rintro e w2 ⟨rfl, hb2⟩
        exact ⟨_, rfl, _, rfl, hb2, rfl⟩
    · clear hi
      have e2 : a.eval (.tmp 5) = .string (putS seq) := hk 2 (mem_of (by kernel_rfl))
      have f2 := ev e2
      have e5 : a.eval (.tmp 8) = .string (textB prev) := hk 5 (mem_of (by kernel_rfl))
      have f5 := ev e5
      clear hk hbx
      refine ⟨_, rfl, rfl, rfl, wp_value (v := .string (putS seq ++ textB prev)) (w' := W) ?_ ⟨_, rfl, Below.refl _ _, rfl⟩⟩
      go_simp
      omega
    · clear hi
      clear hk hbx
      refine ⟨_, rfl, rfl, rfl, wp_value (v := .pointer (some ⟨w.heap.size, 2, none⟩)) (w' := W) ?_ ⟨_, rfl, Below.refl _ _, rfl⟩⟩
      go_simp
    · clear hi
      have e7 : a.eval (.tmp 10) = .pointer (some ⟨w.heap.size, 2, none⟩) := hk 7 (mem_of (by kernel_rfl))
      have f7 := ev e7
      have hc : W.cell? ⟨w.heap.size, 2, none⟩ = some (.int .u64 (tx : Int)) := cell_of_row W _ 2 _ _ _ hbx
      clear hk hbx
      refine ⟨_, rfl, rfl, rfl, wp_value (v := .int .u64 (tx : Int)) (w' := W) ?_ ⟨_, rfl, Below.refl _ _, rfl⟩⟩
      go_simp
    · clear hi
      have e8 : a.eval (.tmp 11) = .int .u64 (tx : Int) := hk 8 (mem_of (by kernel_rfl))
      have f8 := ev e8
      clear hk hbx
      refine ⟨_, rfl, rfl, rfl, wp_enter (f := 43) (args := #[.int .u64 (tx : Int)]) ?_ ((h3 W).mono ?_)⟩
      · go_simp
      · rintro e w2 ⟨rfl, hb2⟩
        exact ⟨_, rfl, _, rfl, hb2, rfl⟩
    · clear hi
      have e6 : a.eval (.tmp 9) = .string (putS seq ++ textB prev) := hk 6 (mem_of (by kernel_rfl))
      have f6 := ev e6
      have e9 : a.eval (.tmp 12) = .string (putS tx) := hk 9 (mem_of (by kernel_rfl))
      have f9 := ev e9
      clear hk hbx
      refine ⟨_, rfl, rfl, rfl, wp_value (v := .string ((putS seq ++ textB prev) ++ putS tx)) (w' := W) ?_ ⟨_, rfl, Below.refl _ _, rfl⟩⟩
      go_simp
      omega
    · clear hi
      clear hk hbx
      refine ⟨_, rfl, rfl, rfl, wp_value (v := .pointer (some ⟨w.heap.size, 3, none⟩)) (w' := W) ?_ ⟨_, rfl, Below.refl _ _, rfl⟩⟩
      go_simp
    · clear hi
      have e11 : a.eval (.tmp 14) = .pointer (some ⟨w.heap.size, 3, none⟩) := hk 11 (mem_of (by kernel_rfl))
      have f11 := ev e11
      have hc : W.cell? ⟨w.heap.size, 3, none⟩ = some (.slice p n c) := cell_of_row W _ 3 _ _ _ hbx
      clear hk hbx
      refine ⟨_, rfl, rfl, rfl, wp_value (v := .slice p n c) (w' := W) ?_ ⟨_, rfl, Below.refl _ _, rfl⟩⟩
      go_simp
    · clear hi
      have e12 : a.eval (.tmp 15) = .slice p n c := hk 12 (mem_of (by kernel_rfl))
      have f12 := ev e12
      clear hk hbx
      refine ⟨_, rfl, rfl, rfl, wp_value (v := .int .i64 (n : Int)) (w' := W) ?_ ⟨_, rfl, Below.refl _ _, rfl⟩⟩
      go_simp
    · clear hi
      have e13 : a.eval (.tmp 16) = .int .i64 (n : Int) := hk 13 (mem_of (by kernel_rfl))
      have f13 := ev e13
      clear hk hbx
      refine ⟨_, rfl, rfl, rfl, wp_value (v := .int .u64 (n : Int)) (w' := W) ?_ ⟨_, rfl, Below.refl _ _, rfl⟩⟩
      go_simp
    · clear hi
      have e14 : a.eval (.tmp 17) = .int .u64 (n : Int) := hk 14 (mem_of (by kernel_rfl))
      have f14 := ev e14
      clear hk hbx
      refine ⟨_, rfl, rfl, rfl, wp_enter (f := 43) (args := #[.int .u64 (n : Int)]) ?_ ((h4 W).mono ?_)⟩
      · go_simp
      · rintro e w2 ⟨rfl, hb2⟩
        exact ⟨_, rfl, _, rfl, hb2, rfl⟩
    · clear hi
      have e10 : a.eval (.tmp 13) = .string ((putS seq ++ textB prev) ++ putS tx) := hk 10 (mem_of (by kernel_rfl))
      have f10 := ev e10
      have e15 : a.eval (.tmp 18) = .string (putS n) := hk 15 (mem_of (by kernel_rfl))
      have f15 := ev e15
      clear hk hbx
      refine ⟨_, rfl, rfl, rfl, wp_value (v := .string (((putS seq ++ textB prev) ++ putS tx) ++ putS n)) (w' := W) ?_ ⟨_, rfl, Below.refl _ _, rfl⟩⟩
      go_simp
      omega
    · clear hi
      clear hk
      refine ⟨_, rfl, rfl, rfl, wp_load_row 41 (.tmp 1) rfl (w.heap.size) hp 41 #[.int .u64 (seq : Int), .string prev, .int .u64 (tx : Int), .slice p n c] (0, 0) _ hbx Tryd.underlying41 rfl (by kernel_rfl) ?_⟩
      exact ⟨_, rfl, Below.refl _ _, rfl⟩
    · clear hi
      have e17 : a.eval (.tmp 20) = .agg #[.int .u64 (seq : Int), .string prev, .int .u64 (tx : Int), .slice p n c] := hk 17 (mem_of (by kernel_rfl))
      have f17 := ev e17
      clear hk hbx
      refine ⟨_, rfl, rfl, rfl, wp_enter (f := 24) (args := #[.agg #[.int .u64 (seq : Int), .string prev, .int .u64 (tx : Int), .slice p n c]]) ?_ ((h5 W hb).mono ?_)⟩
      · go_simp
      · rintro e w2 ⟨rfl, hb2⟩
        exact ⟨_, rfl, _, rfl, hb2, rfl⟩
    · clear hi
      have e16 : a.eval (.tmp 19) = .string (((putS seq ++ textB prev) ++ putS tx) ++ putS n) := hk 16 (mem_of (by kernel_rfl))
      have f16 := ev e16
      have e18 : a.eval (.tmp 21) = .string rt := hk 18 (mem_of (by kernel_rfl))
      have f18 := ev e18
      clear hk hbx
      refine ⟨_, rfl, rfl, rfl, wp_value (v := .string ((((putS seq ++ textB prev) ++ putS tx) ++ putS n) ++ rt)) (w' := W) ?_ ⟨_, rfl, Below.refl _ _, rfl⟩⟩
      go_simp
      omega
    · clear hi
      have e19 : a.eval (.tmp 22) = .string ((((putS seq ++ textB prev) ++ putS tx) ++ putS n) ++ rt) := hk 19 (mem_of (by kernel_rfl))
      have f19 := ev e19
      clear hk hbx
      refine ⟨_, rfl, rfl, rfl, wp_value (v := .string ((((putS seq ++ textB prev) ++ putS tx) ++ putS n) ++ rt)) (w' := W) ?_ ⟨_, rfl, Below.refl _ _, rfl⟩⟩
      go_simp
  case post =>
    intro V W hb hV
    have eL : V 20 = .string ((((putS seq ++ textB prev) ++ putS tx) ++ putS n) ++ rt) := hV 20 (by omega)
    clear hV
    simp only [putAll, Nat.reduceLT, Nat.reduceAdd, if_true, if_false]
    rw [eL]
    simp only [Act.put, List.setIfInBounds_toArray, List.set_cons_zero, List.set_cons_succ]
    go_wp2
    go_ret
    exact ⟨rfl, b0.trans (hb.mono (by simp))⟩
set_option maxRecDepth 100000 in
set_option maxHeartbeats 1000000 in
theorem rhash_any (x : Bk) (hx : x.fit) (hn : x.n ≤ 66) (p : Option Addr) (c : Nat) (w : World) (hX : Revs w p x.n c x.R) :
    Calls Tryd.prog 21 #[x.val p c] w fun e w' => e = .returned (.string (hashT x)) ∧ Below w.heap.size w w' := by
  have hs := headerT_size hx (by omega)
  have hp := hx.prev
  have k1 := fun V hX => rheader_any x hx hn p c V hX
  rw [show hashT x = sumS (markT (headerT x)) from rfl]
  obtain ⟨hd, hhd⟩ : ∃ hd, headerT x = hd := ⟨_, rfl⟩
  rw [hhd] at k1 hs ⊢
  clear hhd hx
  have k2 := fun V => rsum (markT hd) (by unfold markT; rw [ByteArray.size_append, size_one]; omega) V
  rw [show markT hd = ⟨#[2]⟩ ++ hd from rfl] at k2 ⊢
  have hsz := size_one 2
  obtain ⟨seq, prev, tx, n, R⟩ := x
  simp only at hX hp hs k1 ⊢
  rw [show (Bk.mk seq prev tx n R).val p c = .agg #[.int .u64 (seq : Int), .string prev, .int .u64 (tx : Int), .slice p n c] from rfl] at k1 ⊢
  have b0 : Below w.heap.size w (w.alloc (.cells #[.int .u64 (seq : Int), .string prev, .int .u64 (tx : Int), .slice p n c] 41)) := (Below.refl _ w).alloc (Nat.le_refl _) _
  go_enter Tryd.func21, Tryd.ntmps21
  go_wp2_with fail
  refine (k1 _ (hX.later b0)).mono ?_
  rintro e w1 ⟨rfl, hb1⟩
  go_wp2_with fail
  refine (k2 _).mono ?_
  rintro e w2 ⟨rfl, hb2⟩
  go_wp2
  go_ret
  exact ⟨rfl, (b0.trans (hb1.mono (by simp))).trans (hb2.mono (by have := hb1.size; simp at this; omega))⟩
end Go.Proofs.YtaocbkloafhmeaaDoor
