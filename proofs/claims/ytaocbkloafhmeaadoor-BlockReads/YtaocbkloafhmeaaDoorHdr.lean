/- The header and the digest of a block (Header, Hash) and a revision's digest (RevHash), called; the document's. -/
import Derived.Test.YtaocbkloafhmeaaDoorHed
import Derived.Test.YtaocbkloafhmeaaDoorRrt
namespace Go.Proofs.YtaocbkloafhmeaaDoor
open Go.RowKit
def rootT (x : Bk) : ByteArray := rootR (leafs x.R) 0 x.n
def headerT (x : Bk) : ByteArray := headT x ++ rootT x
def markT (s : ByteArray) : ByteArray := ⟨#[2]⟩ ++ s
def hashT (x : Bk) : ByteArray := sumS (markT (headerT x))
theorem rootT_size (x : Bk) : (rootT x).size ≤ 32 := by
  unfold rootT
  by_cases h : x.n = 0
  · rw [h, rootR_zero, noneS, sumS_size]; omega
  · rw [rootR_size]
    · omega
    · intro i _ _; unfold leafs; rw [sumS_size]
theorem headerT_size {x : Bk} (h : x.fit) (hn : x.n ≤ 1000) : (headerT x).size ≤ x.prev.size + 72 := by
  unfold headerT
  rw [ByteArray.size_append]
  have h1 := headT_size h hn
  have h2 := rootT_size x
  omega
set_option maxRecDepth 100000 in
set_option maxHeartbeats 4000000 in
theorem header_any (x : Bk) (hx : x.fit) (hn : x.n ≤ 66) (p : Option Addr) (c : Nat) (w : World) (hw : 3 ≤ w.heap.size) (hG : GL w) (hD : GD w) (hX : Revs w p x.n c x.R) :
    Calls Tryd.prog 18 #[x.val p c] w fun e w' => e = .returned (.string (headerT x)) ∧ Below w.heap.size w w' := by
  have hz1 := headT_size hx (by omega)
  have hz2 := rootT_size x
  have hz3 := hx.prev
  have k1 := fun V => head_any x hx (by omega) p c V
  have k2 := fun V hw hG hX => tree_any x hn p c V hw hG hX
  have k3 := fun V b S hG hD hT => Root_any (leafs x.R) S b x.n hn V hG hD hT
  rw [show rootR (leafs x.R) 0 x.n = rootT x from rfl] at k3
  rw [show headerT x = headT x ++ rootT x from rfl]
  obtain ⟨hd, hhd⟩ : ∃ hd, headT x = hd := ⟨_, rfl⟩
  obtain ⟨rt, hrt⟩ : ∃ rt, rootT x = rt := ⟨_, rfl⟩
  rw [hhd] at k1 hz1 ⊢
  rw [hrt] at k3 hz2 ⊢
  clear hhd hrt hx
  obtain ⟨seq, prev, tx, n, R⟩ := x
  simp only at hn hX k1 k2 k3 hz1 hz3 ⊢
  rw [show (Bk.mk seq prev tx n R).val p c = .agg #[.int .u64 (seq : Int), .string prev, .int .u64 (tx : Int), .slice p n c] from rfl] at k1 k2 ⊢
  have b0 : Below w.heap.size w (w.alloc (.cells #[.int .u64 (seq : Int), .string prev, .int .u64 (tx : Int), .slice p n c] 38)) := (Below.refl _ w).alloc (Nat.le_refl _) _
  have h1 := k1
  have h2 := fun V (hb : Below (w.alloc (.cells #[.int .u64 (seq : Int), .string prev, .int .u64 (tx : Int), .slice p n c] 38)).heap.size (w.alloc (.cells #[.int .u64 (seq : Int), .string prev, .int .u64 (tx : Int), .slice p n c] 38)) V) => k2 V (by have := hb.size; simp at this; omega) (hG.later (b0.trans (hb.mono (by simp)))) (hX.later (b0.trans (hb.mono (by simp))))
  have h3 := fun V b S (hb : Below (w.alloc (.cells #[.int .u64 (seq : Int), .string prev, .int .u64 (tx : Int), .slice p n c] 38)).heap.size (w.alloc (.cells #[.int .u64 (seq : Int), .string prev, .int .u64 (tx : Int), .slice p n c] 38)) V) hT => k3 V b S (hG.later (b0.trans (hb.mono (by simp)))) (hD.later (b0.trans (hb.mono (by simp)))) hT
  clear k1 k2 k3
  go_enter Tryd.func18, Tryd.ntmps18
  go_upto_region 1 with fail
  have hrow : (w.alloc (.cells #[.int .u64 (seq : Int), .string prev, .int .u64 (tx : Int), .slice p n c] 38)).heap[w.heap.size]? = some (.cells #[.int .u64 (seq : Int), .string prev, .int .u64 (tx : Int), .slice p n c] 38 (0, 0)) := heap_alloc_new _ _
  refine any_region (by kernel_rfl) 7 rfl (fun i => if i < 6 then i + 3 else 2) (oneR 3 (fun v W => ∃ b, v = .pointer (some ⟨b, 0, none⟩) ∧ ∃ S, Tre W S b n (leafs R)) [.agg #[.int .u64 (seq : Int), .string prev, .int .u64 (tx : Int), .slice p n c], .string hd, .agg #[.int .u64 (seq : Int), .string prev, .int .u64 (tx : Int), .slice p n c], undef, .string rt, .string (hd ++ rt), .string (hd ++ rt)]) (by kernel_rfl) (by kernel_rfl) (by kernel_rfl) (oneR_later 3 _ _ (fun v W W' ⟨b, h1, S, h2⟩ hb => ⟨b, h1, S, h2.later hb⟩)) ?step ?post
  case step =>
    intro i hi a W hrest hb hk
    have hp : a.eval (.tmp 1) = .pointer (some ⟨w.heap.size, 0, none⟩) := (hrest 1 (by intro i hi; split <;> omega)).trans rfl
    have fp := ev hp
    have hbx : W.heap[w.heap.size]? = some (.cells #[.int .u64 (seq : Int), .string prev, .int .u64 (tx : Int), .slice p n c] 38 (0, 0)) := (hb.block _ (lt_of_row hrow)).trans hrow
    clear hrest
    obtain rfl | rfl | rfl | rfl | rfl | rfl | rfl : i = 0 ∨ i = 1 ∨ i = 2 ∨ i = 3 ∨ i = 4 ∨ i = 5 ∨ i = 6 := by omega
    · clear hi
      clear hk
      refine ⟨_, rfl, rfl, rfl, wp_load_row 38 (.tmp 1) rfl (w.heap.size) hp 38 #[.int .u64 (seq : Int), .string prev, .int .u64 (tx : Int), .slice p n c] (0, 0) _ hbx Tryd.underlying38 rfl (by kernel_rfl) ?_⟩
      exact ⟨_, rfl, Below.refl _ _, rfl⟩
    · clear hi
      have e0 : a.eval (.tmp 3) = .agg #[.int .u64 (seq : Int), .string prev, .int .u64 (tx : Int), .slice p n c] := hk 0 (mem_of (by kernel_rfl))
      have f0 := ev e0
      clear hk hbx
      refine ⟨_, rfl, rfl, rfl, wp_enter (f := 44) (args := #[.agg #[.int .u64 (seq : Int), .string prev, .int .u64 (tx : Int), .slice p n c]]) ?_ ((h1 W).mono ?_)⟩
      · go_simp
      · rintro e w2 ⟨rfl, hb2⟩
        exact ⟨_, rfl, _, rfl, hb2, rfl⟩
    · clear hi
      clear hk
      refine ⟨_, rfl, rfl, rfl, wp_load_row 38 (.tmp 1) rfl (w.heap.size) hp 38 #[.int .u64 (seq : Int), .string prev, .int .u64 (tx : Int), .slice p n c] (0, 0) _ hbx Tryd.underlying38 rfl (by kernel_rfl) ?_⟩
      exact ⟨_, rfl, Below.refl _ _, rfl⟩
    · clear hi
      have e2 : a.eval (.tmp 5) = .agg #[.int .u64 (seq : Int), .string prev, .int .u64 (tx : Int), .slice p n c] := hk 2 (mem_of (by kernel_rfl))
      have f2 := ev e2
      clear hk hbx
      refine ⟨_, rfl, rfl, rfl, wp_enter (f := 22) (args := #[.agg #[.int .u64 (seq : Int), .string prev, .int .u64 (tx : Int), .slice p n c]]) ?_ ((h2 W hb).mono ?_)⟩
      · go_simp
      · rintro e w2 ⟨b2, S2, rfl, t2, _, hb2⟩
        exact ⟨_, rfl, _, rfl, hb2, b2, rfl, S2, t2⟩
    · clear hi
      obtain ⟨b3, e3, S3, t3⟩ := show ∃ b, a.eval (.tmp 6) = .pointer (some ⟨b, 0, none⟩) ∧ ∃ S, Tre W S b n (leafs R) from hk 3 (mem_of (by kernel_rfl))
      have f3 := ev e3
      clear hk hbx
      refine ⟨_, rfl, rfl, rfl, wp_enter (f := 23) (args := #[.pointer (some ⟨b3, 0, none⟩)]) ?_ ((h3 W b3 S3 hb t3).mono ?_)⟩
      · go_simp
      · rintro e w2 ⟨rfl, hb2⟩
        exact ⟨_, rfl, _, rfl, hb2, rfl⟩
    · clear hi
      have e1 : a.eval (.tmp 4) = .string hd := hk 1 (mem_of (by kernel_rfl))
      have f1 := ev e1
      have e4 : a.eval (.tmp 7) = .string rt := hk 4 (mem_of (by kernel_rfl))
      have f4 := ev e4
      clear hk hbx
      refine ⟨_, rfl, rfl, rfl, wp_value (v := .string (hd ++ rt)) (w' := W) ?_ ⟨_, rfl, Below.refl _ _, rfl⟩⟩
      go_simp
      omega
    · clear hi
      have e5 : a.eval (.tmp 8) = .string (hd ++ rt) := hk 5 (mem_of (by kernel_rfl))
      have f5 := ev e5
      clear hk hbx
      refine ⟨_, rfl, rfl, rfl, wp_value (v := .string (hd ++ rt)) (w' := W) ?_ ⟨_, rfl, Below.refl _ _, rfl⟩⟩
      go_simp
  case post =>
    intro V W hb hV
    have eL : V 6 = .string (hd ++ rt) := hV 6 (by omega)
    clear hV
    simp only [putAll, Nat.reduceLT, Nat.reduceAdd, if_true, if_false]
    rw [eL]
    simp only [Act.put, List.setIfInBounds_toArray, List.set_cons_zero, List.set_cons_succ]
    go_wp2
    go_ret
    exact ⟨rfl, b0.trans (hb.mono (by simp))⟩
set_option maxRecDepth 100000 in
set_option maxHeartbeats 1000000 in
theorem hash_any (x : Bk) (hx : x.fit) (hn : x.n ≤ 66) (p : Option Addr) (c : Nat) (w : World) (hw : 3 ≤ w.heap.size) (hG : GL w) (hD : GD w) (hX : Revs w p x.n c x.R) :
    Calls Tryd.prog 20 #[x.val p c] w fun e w' => e = .returned (.string (hashT x)) ∧ Below w.heap.size w w' := by
  have hs := headerT_size hx (by omega)
  have hp := hx.prev
  have k1 := fun V hw hG hD hX => header_any x hx hn p c V hw hG hD hX
  rw [show hashT x = sumS (markT (headerT x)) from rfl]
  obtain ⟨hd, hhd⟩ : ∃ hd, headerT x = hd := ⟨_, rfl⟩
  rw [hhd] at k1 hs ⊢
  clear hhd hx
  have k2 := fun V hG => hsum (markT hd) (by unfold markT; rw [ByteArray.size_append, size_one]; omega) V hG
  rw [show markT hd = ⟨#[2]⟩ ++ hd from rfl] at k2 ⊢
  have hsz := size_one 2
  obtain ⟨seq, prev, tx, n, R⟩ := x
  simp only at hX hp hs k1 ⊢
  rw [show (Bk.mk seq prev tx n R).val p c = .agg #[.int .u64 (seq : Int), .string prev, .int .u64 (tx : Int), .slice p n c] from rfl] at k1 ⊢
  have b0 : Below w.heap.size w (w.alloc (.cells #[.int .u64 (seq : Int), .string prev, .int .u64 (tx : Int), .slice p n c] 38)) := (Below.refl _ w).alloc (Nat.le_refl _) _
  go_enter Tryd.func20, Tryd.ntmps20
  go_wp2_with fail
  refine (k1 _ (by simp; omega) (hG.later b0) (hD.later b0) (hX.later b0)).mono ?_
  rintro e w1 ⟨rfl, hb1⟩
  go_wp2_with fail
  refine (k2 _ ((hG.later b0).later hb1)).mono ?_
  rintro e w2 ⟨rfl, hb2⟩
  go_wp2
  go_ret
  exact ⟨rfl, (b0.trans (hb1.mono (by simp))).trans (hb2.mono (by have := hb1.size; simp at this; omega))⟩
set_option maxRecDepth 100000 in
set_option maxHeartbeats 1000000 in
theorem revhash_any (r : Rv) (hr : r.fit) (w : World) (hG : GL w) :
    Calls Tryd.prog 14 #[r.val] w fun e w' => e = .returned (.string (sumS (leafT (metaT r)))) ∧ Below w.heap.size w w' := by
  have hms := metaT_size hr
  have y1 := hr.t
  have y2 := hr.f
  have y5 := hr.h
  have k1 := fun V => meta_any r hr V
  have k2 := fun V hG => leaf_any (metaT r) (by omega) V hG
  obtain ⟨m, hm⟩ : ∃ m, metaT r = m := ⟨_, rfl⟩
  rw [hm] at k1 k2 ⊢
  clear hm hr hms
  obtain ⟨op, t, f, d, v, h, b, g⟩ := r
  rw [show (Rv.mk op t f d v h b g).val = .agg #[.int .i64 op, .string t, .string f, .int .u64 (d : Int), .int .u64 (v : Int), .string h, .string b, .bool g] from rfl] at k1 ⊢
  have b0 : Below w.heap.size w (w.alloc (.cells #[.int .i64 op, .string t, .string f, .int .u64 (d : Int), .int .u64 (v : Int), .string h, .string b, .bool g] 24)) := (Below.refl _ w).alloc (Nat.le_refl _) _
  go_enter Tryd.func14, Tryd.ntmps14
  go_wp2_with fail
  refine (k1 _).mono ?_
  rintro e w1 ⟨rfl, hb1⟩
  go_wp2_with fail
  refine (k2 _ ((hG.later b0).later hb1)).mono ?_
  rintro e w2 ⟨rfl, hb2⟩
  go_wp2
  go_ret
  exact ⟨rfl, (b0.trans (hb1.mono (by simp))).trans (hb2.mono (by have := hb1.size; simp at this; omega))⟩
end Go.Proofs.YtaocbkloafhmeaaDoor
