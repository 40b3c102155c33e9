/- The document's Frame of a block, called. -/
import Derived.Test.YtaocbkloafhmeaaDoorRme
import Derived.Test.YtaocbkloafhmeaaDoorHed
namespace Go.Proofs.YtaocbkloafhmeaaDoor
open Go.RowKit
def frameS (x : Bk) : Nat → ByteArray
  | 0 => headT x
  | i + 1 => frameS x i ++ metaT (x.R i)
def frameT (x : Bk) : ByteArray := frameS x x.n
theorem frameS_size {x : Bk} (hx : x.fit) (hn : x.n ≤ 1000) (hr : ∀ i, i < x.n → (x.R i).fit) : ∀ i, i ≤ x.n → (frameS x i).size ≤ 1125899906842664 + i * 3377699720527923
  | 0, _ => by
    have h1 := headT_size hx hn
    have h2 := hx.prev
    show (headT x).size ≤ _
    omega
  | i + 1, h => by
    have h1 := frameS_size hx hn hr i (by omega)
    have h2 := metaT_size (hr i (by omega))
    have h3 := hr i (by omega)
    have h4 := h3.t
    have h5 := h3.f
    have h6 := h3.h
    show (frameS x i ++ metaT (x.R i)).size ≤ _
    rw [ByteArray.size_append]
    omega
set_option maxRecDepth 100000 in
set_option maxHeartbeats 4000000 in
theorem rframe_any (x : Bk) (hx : x.fit) (hn : x.n ≤ 66) (p : Option Addr) (c : Nat) (w : World) (hX : Revs w p x.n c x.R) :
    Calls Tryd.prog 28 #[x.val p c] w fun e w' => e = .returned (.string (frameT x)) ∧ Below w.heap.size w w' := by
  have hfs := frameS_size hx (by omega) hX.fit
  have hf0 : frameS x 0 = (((putS x.seq ++ textB x.prev) ++ putS x.tx) ++ putS x.n) := rfl
  have hfn : ∀ i, frameS x (i + 1) = frameS x i ++ metaT (x.R i) := fun _ => rfl
  rw [show frameT x = frameS x x.n from rfl]
  obtain ⟨fS, hfS⟩ : ∃ fS, frameS x = fS := ⟨_, rfl⟩
  rw [hfS] at hfs hf0 ⊢
  simp only [hfS] at hfn
  clear hfS
  obtain ⟨seq, prev, tx, n, R⟩ := x
  simp only at hX hfs hf0 hfn ⊢
  have HF0 : Hid (fS 0 = (((putS seq ++ textB prev) ++ putS tx) ++ putS n)) := hf0
  have HFN : Hid (∀ i, fS (i + 1) = fS i ++ metaT (R i)) := hfn
  have HFS : Hid (∀ i, i ≤ n → (fS i).size ≤ 1125899906842664 + i * 3377699720527923) := hfs
  clear hf0 hfn hfs
  have hcap := hX.cap
  have hmx : maxLen = 9223372036854775807 := rfl
  have h1 := fun V => rput_any seq hx.seq V
  have h2 := fun V => rtx_any prev (Nat.le_trans hx.prev (by omega)) V
  have h3 := fun V => rput_any tx hx.tx V
  have h4 := fun V => rput_any n (by simp only at hn; omega) V
  have z1 := putS_size hx.seq
  have z2 := textB_size hx.prev
  have z3 := putS_size hx.tx
  have z4 := putS_size (n := n) (by simp only at hn; omega)
  have y2 := hx.prev
  simp only at hn z1 z2 z3 y2
  have hw : IntKind.u64.wrap (n : Int) = (n : Int) := by rw [IntKind.wrap_u64]; omega
  rw [show (Bk.mk seq prev tx n R).val p c = .agg #[.int .u64 (seq : Int), .string prev, .int .u64 (tx : Int), .slice p n c] from rfl]
  have b0 : Below w.heap.size w (w.alloc (.cells #[.int .u64 (seq : Int), .string prev, .int .u64 (tx : Int), .slice p n c] 41)) := (Below.refl _ w).alloc (Nat.le_refl _) _
  go_enter Tryd.func28, Tryd.ntmps28
  go_upto_region 1 with fail
  have hrow : (w.alloc (.cells #[.int .u64 (seq : Int), .string prev, .int .u64 (tx : Int), .slice p n c] 41)).heap[w.heap.size]? = some (.cells #[.int .u64 (seq : Int), .string prev, .int .u64 (tx : Int), .slice p n c] 41 (0, 0)) := heap_alloc_new _ _
  refine any_region (by kernel_rfl) 18 rfl (fun i => if i < 17 then i + 5 else 3) (oneR 1000 (fun _ _ => True) [.pointer (some ⟨w.heap.size, 0, none⟩), .int .u64 (seq : Int), .string (putS seq), .pointer (some ⟨w.heap.size, 1, none⟩), .string prev, .string (textB prev), .string (putS seq ++ textB prev), .pointer (some ⟨w.heap.size, 2, none⟩), .int .u64 (tx : Int), .string (putS tx), .string ((putS seq ++ textB prev) ++ putS tx), .pointer (some ⟨w.heap.size, 3, none⟩), .slice p n c, .int .i64 (n : Int), .int .u64 (n : Int), .string (putS n), .string (((putS seq ++ textB prev) ++ putS tx) ++ putS n), .string (((putS seq ++ textB prev) ++ putS tx) ++ putS n)]) (by kernel_rfl) (by kernel_rfl) (by kernel_rfl) (oneR_later 1000 _ _ (fun _ _ _ _ _ => trivial)) ?step ?post
  case step =>
    intro i hi a W hrest hb hk
    have hp : a.eval (.tmp 1) = .pointer (some ⟨w.heap.size, 0, none⟩) := (hrest 1 (by intro i hi; split <;> omega)).trans rfl
    have fp := ev hp
    have hbx : W.heap[w.heap.size]? = some (.cells #[.int .u64 (seq : Int), .string prev, .int .u64 (tx : Int), .slice p n c] 41 (0, 0)) := (hb.block _ (lt_of_row hrow)).trans hrow
    clear hrest
    obtain rfl | rfl | rfl | rfl | rfl | rfl | rfl | rfl | rfl | rfl | rfl | rfl | rfl | rfl | rfl | rfl | rfl | rfl : i = 0 ∨ i = 1 ∨ i = 2 ∨ i = 3 ∨ i = 4 ∨ i = 5 ∨ i = 6 ∨ i = 7 ∨ i = 8 ∨ i = 9 ∨ i = 10 ∨ i = 11 ∨ i = 12 ∨ i = 13 ∨ i = 14 ∨ i = 15 ∨ i = 16 ∨ i = 17 := by omega
    · clear hi
      clear hk hbx
      refine ⟨_, rfl, rfl, rfl, wp_value (v := .pointer (some ⟨w.heap.size, 0, none⟩)) (w' := W) ?_ ⟨_, rfl, Below.refl _ _, rfl⟩⟩
      go_simp
    · clear hi
      have e0 : a.eval (.tmp 5) = .pointer (some ⟨w.heap.size, 0, none⟩) := hk 0 (mem_of (by kernel_rfl))
      have f0 := ev e0
      have hc : W.cell? ⟨w.heap.size, 0, none⟩ = some (.int .u64 (seq : Int)) := cell_of_row W _ 0 _ _ _ hbx
      clear hk hbx
      refine ⟨_, rfl, rfl, rfl, wp_value (v := .int .u64 (seq : Int)) (w' := W) ?_ ⟨_, rfl, Below.refl _ _, rfl⟩⟩
      go_simp
    · clear hi
      have e1 : a.eval (.tmp 6) = .int .u64 (seq : Int) := hk 1 (mem_of (by kernel_rfl))
      have f1 := ev e1
      clear hk hbx
      refine ⟨_, rfl, rfl, rfl, wp_enter (f := 43) (args := #[.int .u64 (seq : Int)]) ?_ ((h1 W).mono ?_)⟩
      · go_simp
      · rintro e w2 ⟨rfl, hb2⟩
        exact ⟨_, rfl, _, rfl, hb2, rfl⟩
    · clear hi
      clear hk hbx
      refine ⟨_, rfl, rfl, rfl, wp_value (v := .pointer (some ⟨w.heap.size, 1, none⟩)) (w' := W) ?_ ⟨_, rfl, Below.refl _ _, rfl⟩⟩
      go_simp
    · clear hi
      have e3 : a.eval (.tmp 8) = .pointer (some ⟨w.heap.size, 1, none⟩) := hk 3 (mem_of (by kernel_rfl))
      have f3 := ev e3
      have hc : W.cell? ⟨w.heap.size, 1, none⟩ = some (.string prev) := cell_of_row W _ 1 _ _ _ hbx
      clear hk hbx
      refine ⟨_, rfl, rfl, rfl, wp_value (v := .string prev) (w' := W) ?_ ⟨_, rfl, Below.refl _ _, rfl⟩⟩
      go_simp
    · clear hi
      have e4 : a.eval (.tmp 9) = .string prev := hk 4 (mem_of (by kernel_rfl))
      have f4 := ev e4
      clear hk hbx
      refine ⟨_, rfl, rfl, rfl, wp_enter (f := 42) (args := #[.string prev]) ?_ ((h2 W).mono ?_)⟩
      · go_simp
      · rintro e w2 ⟨rfl, hb2⟩
        exact ⟨_, rfl, _, rfl, hb2, rfl⟩
    · clear hi
      have e2 : a.eval (.tmp 7) = .string (putS seq) := hk 2 (mem_of (by kernel_rfl))
      have f2 := ev e2
      have e5 : a.eval (.tmp 10) = .string (textB prev) := hk 5 (mem_of (by kernel_rfl))
      have f5 := ev e5
      clear hk hbx
      refine ⟨_, rfl, rfl, rfl, wp_value (v := .string (putS seq ++ textB prev)) (w' := W) ?_ ⟨_, rfl, Below.refl _ _, rfl⟩⟩
      go_simp
      omega
    · clear hi
      clear hk hbx
      refine ⟨_, rfl, rfl, rfl, wp_value (v := .pointer (some ⟨w.heap.size, 2, none⟩)) (w' := W) ?_ ⟨_, rfl, Below.refl _ _, rfl⟩⟩
      go_simp
    · clear hi
      have e7 : a.eval (.tmp 12) = .pointer (some ⟨w.heap.size, 2, none⟩) := hk 7 (mem_of (by kernel_rfl))
      have f7 := ev e7
      have hc : W.cell? ⟨w.heap.size, 2, none⟩ = some (.int .u64 (tx : Int)) := cell_of_row W _ 2 _ _ _ hbx
      clear hk hbx
      refine ⟨_, rfl, rfl, rfl, wp_value (v := .int .u64 (tx : Int)) (w' := W) ?_ ⟨_, rfl, Below.refl _ _, rfl⟩⟩
      go_simp
    · clear hi
      have e8 : a.eval (.tmp 13) = .int .u64 (tx : Int) := hk 8 (mem_of (by kernel_rfl))
      have f8 := ev e8
      clear hk hbx
      refine ⟨_, rfl, rfl, rfl, wp_enter (f := 43) (args := #[.int .u64 (tx : Int)]) ?_ ((h3 W).mono ?_)⟩
      · go_simp
      · rintro e w2 ⟨rfl, hb2⟩
        exact ⟨_, rfl, _, rfl, hb2, rfl⟩
    · clear hi
      have e6 : a.eval (.tmp 11) = .string (putS seq ++ textB prev) := hk 6 (mem_of (by kernel_rfl))
      have f6 := ev e6
      have e9 : a.eval (.tmp 14) = .string (putS tx) := hk 9 (mem_of (by kernel_rfl))
      have f9 := ev e9
      clear hk hbx
      refine ⟨_, rfl, rfl, rfl, wp_value (v := .string ((putS seq ++ textB prev) ++ putS tx)) (w' := W) ?_ ⟨_, rfl, Below.refl _ _, rfl⟩⟩
      go_simp
      omega
    · clear hi
      clear hk hbx
      refine ⟨_, rfl, rfl, rfl, wp_value (v := .pointer (some ⟨w.heap.size, 3, none⟩)) (w' := W) ?_ ⟨_, rfl, Below.refl _ _, rfl⟩⟩
      go_simp
    · clear hi
      have e11 : a.eval (.tmp 16) = .pointer (some ⟨w.heap.size, 3, none⟩) := hk 11 (mem_of (by kernel_rfl))
      have f11 := ev e11
      have hc : W.cell? ⟨w.heap.size, 3, none⟩ = some (.slice p n c) := cell_of_row W _ 3 _ _ _ hbx
      clear hk hbx
      refine ⟨_, rfl, rfl, rfl, wp_value (v := .slice p n c) (w' := W) ?_ ⟨_, rfl, Below.refl _ _, rfl⟩⟩
      go_simp
    · clear hi
      have e12 : a.eval (.tmp 17) = .slice p n c := hk 12 (mem_of (by kernel_rfl))
      have f12 := ev e12
      clear hk hbx
      refine ⟨_, rfl, rfl, rfl, wp_value (v := .int .i64 (n : Int)) (w' := W) ?_ ⟨_, rfl, Below.refl _ _, rfl⟩⟩
      go_simp
    · clear hi
      have e13 : a.eval (.tmp 18) = .int .i64 (n : Int) := hk 13 (mem_of (by kernel_rfl))
      have f13 := ev e13
      clear hk hbx
      refine ⟨_, rfl, rfl, rfl, wp_value (v := .int .u64 (n : Int)) (w' := W) ?_ ⟨_, rfl, Below.refl _ _, rfl⟩⟩
      go_simp
    · clear hi
      have e14 : a.eval (.tmp 19) = .int .u64 (n : Int) := hk 14 (mem_of (by kernel_rfl))
      have f14 := ev e14
      clear hk hbx
      refine ⟨_, rfl, rfl, rfl, wp_enter (f := 43) (args := #[.int .u64 (n : Int)]) ?_ ((h4 W).mono ?_)⟩
      · go_simp
      · rintro e w2 ⟨rfl, hb2⟩
        exact ⟨_, rfl, _, rfl, hb2, rfl⟩
    · clear hi
      have e10 : a.eval (.tmp 15) = .string ((putS seq ++ textB prev) ++ putS tx) := hk 10 (mem_of (by kernel_rfl))
      have f10 := ev e10
      have e15 : a.eval (.tmp 20) = .string (putS n) := hk 15 (mem_of (by kernel_rfl))
      have f15 := ev e15
      clear hk hbx
      refine ⟨_, rfl, rfl, rfl, wp_value (v := .string (((putS seq ++ textB prev) ++ putS tx) ++ putS n)) (w' := W) ?_ ⟨_, rfl, Below.refl _ _, rfl⟩⟩
      go_simp
      omega
    · clear hi
      have e16 : a.eval (.tmp 21) = .string (((putS seq ++ textB prev) ++ putS tx) ++ putS n) := hk 16 (mem_of (by kernel_rfl))
      have f16 := ev e16
      clear hk hbx
      refine ⟨_, rfl, rfl, rfl, wp_value (v := .string (((putS seq ++ textB prev) ++ putS tx) ++ putS n)) (w' := W) ?_ ⟨_, rfl, Below.refl _ _, rfl⟩⟩
      go_simp
  case post =>
    intro V W hb hV
    have eL : V 17 = .string (((putS seq ++ textB prev) ++ putS tx) ++ putS n) := hV 17 (by omega)
    clear hV
    simp only [putAll, Nat.reduceLT, Nat.reduceAdd, if_true, if_false]
    rw [eL]
    simp only [Act.put, List.setIfInBounds_toArray, List.set_cons_zero, List.set_cons_succ]
    have hrow1 := (hb.block _ (lt_of_row hrow)).trans hrow
    have hb1 := b0.trans (hb.mono (by simp))
    rw [← HF0.out]
    clear eL h1 h2 h3 h4
    go_wp2_with fail
    go_loopw [3, 4] (fun va vi wr => ∃ i : Nat, i ≤ n ∧ vi = .int .i64 (i : Int) ∧ va = .string (fS i) ∧ wr.heap[w.heap.size]? = some (.cells #[.int .u64 (seq : Int), .string prev, .int .u64 (tx : Int), .slice p n c] 41 (0, 0)) ∧ Below w.heap.size w wr) (fun _ vi _ => n - (intOf vi).toNat)
    case atStart => exact ⟨0, Nat.zero_le _, rfl, rfl, hrow1, hb1⟩
    case round =>
      obtain ⟨i, hin, rfl, rfl, hR, hbr⟩ := hrel
      have q3 := cell_of_row wr _ 3 _ _ _ hR
      have hsz := hbr.size
      have hlt0 := lt_of_row hR
      by_cases him : i < n
      · have him' : (i : Int) < (n : Int) := by omega
        obtain ⟨pb, po, rfl, hpb, hat⟩ := hX.at' (by omega)
        have h8 := (hat i him).kept (hbr.block pb hpb)
        have d0 := h8.c0
        have d1 := h8.c1
        have d2 := h8.c2
        have d3 := h8.c3
        have d4 := h8.c4
        have d5 := h8.c5
        have d6 := h8.c6
        have d7 := h8.c7
        have hfit := hX.fit i him
        have u1 := HFS.out (i + 1) (by omega)
        rw [HFN.out i, ByteArray.size_append] at u1
        have u2 : (fS i).size + (metaT (R i)).size ≤ 9223372036854775807 := by omega
        clear u1
        have hfn := HFN.out i
        have HN : Hid (fS (i + 1) = fS i ++ metaT (R i)) := hfn
        clear hfn
        have hmt := fun W => rmeta_any (R i) hfit W
        go_wp2_with fail
        refine (hmt _).mono ?_
        rintro e w3 ⟨rfl, hb3⟩
        have hR3 := (hb3.block _ hlt0).trans hR
        go_wp2
        go_roundw
        case rel => exact ⟨i + 1, by omega, by go_num, by rw [HN.out], hR3, hbr.trans (hb3.mono hsz)⟩
        case measure => simp [intOf]; omega
      · obtain rfl : i = n := by omega
        go_wp2
        go_ret
        exact ⟨rfl, hbr⟩
end Go.Proofs.YtaocbkloafhmeaaDoor
