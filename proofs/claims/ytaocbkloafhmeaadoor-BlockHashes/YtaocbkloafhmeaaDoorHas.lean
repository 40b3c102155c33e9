/- The law BlockHashes as a walk: of any block whose texts fit, any number and any text the call returns true, and nothing that was there has changed. -/
import Derived.Test.YtaocbkloafhmeaaDoorAng
import Derived.Test.YtaocbkloafhmeaaDoorAwk
import Derived.Test.YtaocbkloafhmeaaDoorBlc
import Derived.Test.YtaocbkloafhmeaaDoorRhd
import Derived.Test.YtaocbkloafhmeaaDoorRfo
namespace Go.Proofs.YtaocbkloafhmeaaDoor
open Go.RowKit
set_option maxRecDepth 100000 in
set_option maxHeartbeats 8000000 in
theorem hashes_walk (x : Bk) (hx : x.fit) (p : Option Addr) (c N : Nat) (Q : ByteArray) (w : World) (hw : 3 ≤ w.heap.size) (hG : GL w) (hD : GD w) (hX : Revs w p x.n c x.R) :
    Calls Tryd.prog 4 #[x.val p c, .int .u64 (N : Int), .string Q] w fun e w' => e = .returned (.bool true) ∧ Below w.heap.size w w' := by
  have kb := fun W hX => block_any x p c W hX
  have hxc : (cutB x).fit := ⟨hx.seq, hx.tx, hx.prev⟩
  have hnc := cutB_n x
  have hnx : (cutB x).n ≤ x.n := Nat.min_le_left _ _
  have hXc : Revs w p (cutB x).n c (cutB x).R := hX.less _ hnx
  have hX2 : Revs w p x.n c (cutB x).R := hX
  have xv : x.val p c = .agg #[.int .u64 (x.seq : Int), .string x.prev, .int .u64 (x.tx : Int), .slice p x.n c] := rfl
  rw [xv] at kb ⊢
  rw [show x.R = (cutB x).R from rfl] at kb
  obtain ⟨X, hXX⟩ : ∃ X, cutB x = X := ⟨_, rfl⟩
  rw [hXX] at kb hxc hnc hnx hXc hX2
  have e1 : X.seq = x.seq := by rw [← hXX]; rfl
  have e2 : X.prev = x.prev := by rw [← hXX]; rfl
  have e3 : X.tx = x.tx := by rw [← hXX]; rfl
  clear hXX hx hX
  obtain ⟨xs, xp, xt, xn, xR⟩ := x
  simp only at e1 e2 e3 kb hX2 hnx ⊢
  rw [← e1, ← e2, ← e3]
  rw [← e1, ← e2, ← e3] at kb
  clear e1 e2 e3 xv
  have h1 := headerT_size hxc (by omega)
  have kh1 := fun W p c hw hG hD hX => header_any X hxc hnc p c W hw hG hD hX
  have kh2 := fun W p c hX => rheader_any X hxc hnc p c W hX
  have ks1 := fun W p c hw hG hD hX => hash_any X hxc hnc p c W hw hG hD hX
  have ks2 := fun W p c hX => rhash_any X hxc hnc p c W hX
  have kt1 := fun W p c hw hG hX => tree_any X hnc p c W hw hG hX
  have kt2 := fun W b S hG hD hT => Root_any (leafs X.R) S b X.n hnc W hG hD hT
  have kt3 := fun W p c hX => rrt_any X hnc p c W hX
  have kf1 := fun W p c hG hX => follows_any X p c N Q W hG hX
  have kf2 := fun W p c hX => rfollows_any X p c N Q W hX
  have kg1 := fun W p c hG hX => follows_any X p c X.seq X.prev W hG hX
  have kg2 := fun W p c hX => rfollows_any X p c X.seq X.prev W hX
  obtain ⟨hd, q1⟩ : ∃ y, headerT X = y := ⟨_, rfl⟩
  obtain ⟨hs, q2⟩ : ∃ y, hashT X = y := ⟨_, rfl⟩
  obtain ⟨rt, q3⟩ : ∃ y, rootR (leafs X.R) 0 X.n = y := ⟨_, rfl⟩
  obtain ⟨F1, q4⟩ : ∃ y, folR X N Q = y := ⟨_, rfl⟩
  obtain ⟨F2, q5⟩ : ∃ y, folR X X.seq X.prev = y := ⟨_, rfl⟩
  rw [q1] at kh1 kh2
  rw [q2] at ks1 ks2
  rw [q3] at kt2 kt3
  rw [q4] at kf1 kf2
  rw [q5] at kg1 kg2
  clear q1 q2 q3 q4 q5 h1 hxc
  obtain ⟨seq, prev, tx, m, R⟩ := X
  have hv : ∀ q d, (Bk.mk seq prev tx m R).val q d = .agg #[.int .u64 (seq : Int), .string prev, .int .u64 (tx : Int), .slice q m d] := fun _ _ => rfl
  simp only [hv] at kb kh1 kh2 ks1 ks2 kt1 kt3 kf1 kf2 kg1 kg2
  simp only at hXc hnc hnx kt2 ⊢
  clear hv
  go_enter Tryd.func4, Tryd.ntmps4
  go_wp2_with fail
  have b0 : ∀ o, Below w.heap.size w (w.alloc o) := fun o => (Below.refl _ w).alloc (Nat.le_refl _) o
  refine (kb _ (hX2.later (b0 _))).mono ?_
  rintro e w1 ⟨q, d, rfl, hXq, hb1⟩
  have hb01 := (b0 _).trans (hb1.mono (by simp))
  have hs1 := hb01.size
  go_wp2_with fail
  obtain ⟨w5, hw5⟩ : ∃ w5, (w1.alloc (.cells #[.int .u64 (seq : Int), .string prev, .int .u64 (tx : Int), .slice p m c] 38)).alloc (.cells #[.int .u64 (seq : Int), .string prev, .int .u64 (tx : Int), .slice q m d] 41) = w5 := ⟨_, rfl⟩
  have b15 : Below w1.heap.size w1 w5 := by rw [← hw5]; exact ((Below.refl _ _).alloc (Nat.le_refl _) _).alloc (by simp) _
  have hx5 : w5.heap[w1.heap.size]? = some (.cells #[.int .u64 (seq : Int), .string prev, .int .u64 (tx : Int), .slice p m c] 38 (0, 0)) := by rw [← hw5]; exact (Below.heap_alloc _ _ _ (by simp)).trans (heap_alloc_new _ _)
  have hy5 : w5.heap[w1.heap.size + 1]? = some (.cells #[.int .u64 (seq : Int), .string prev, .int .u64 (tx : Int), .slice q m d] 41 (0, 0)) := by rw [← hw5]; exact two_new _ _ _
  rw [hw5]
  clear hw5
  have hb5 := hb01.trans (b15.mono hs1)
  have hXq5 := hXq.later b15
  have hXp5 := hXc.later hb5
  have hs5 := hb5.size
  have hG5 := hG.later hb5
  have hD5 := hD.later hb5
  obtain ⟨b1, hbb1⟩ : ∃ b1, w1.heap.size = b1 := ⟨_, rfl⟩
  rw [hbb1] at hx5 hy5 ⊢
  obtain ⟨b2, hbb2⟩ : ∃ b2, b1 + 1 = b2 := ⟨_, rfl⟩
  rw [hbb2] at hy5 ⊢
  clear hbb1 hbb2 hXq hb01 hb1 kb b15 hs1 b0
  have haw := fun W (hb : Below w5.heap.size w5 W) => awake_any W (by have := hb.size; omega) (hG5.later hb) (hD5.later hb)
  have hh1 := fun W (hb : Below w5.heap.size w5 W) => kh1 W p c (by have := hb.size; omega) (hG5.later hb) (hD5.later hb) (hXp5.later hb)
  have hh2 := fun W (hb : Below w5.heap.size w5 W) => kh2 W q d (hXq5.later hb)
  have hs1 := fun W (hb : Below w5.heap.size w5 W) => ks1 W p c (by have := hb.size; omega) (hG5.later hb) (hD5.later hb) (hXp5.later hb)
  have hs2 := fun W (hb : Below w5.heap.size w5 W) => ks2 W q d (hXq5.later hb)
  have ht1 := fun W (hb : Below w5.heap.size w5 W) => kt1 W p c (by have := hb.size; omega) (hG5.later hb) (hXp5.later hb)
  have ht2 := fun W b S (hb : Below w5.heap.size w5 W) hT => kt2 W b S (hG5.later hb) (hD5.later hb) hT
  have ht3 := fun W (hb : Below w5.heap.size w5 W) => kt3 W q d (hXq5.later hb)
  have hf1 := fun W (hb : Below w5.heap.size w5 W) => kf1 W p c (hG5.later hb) (hXp5.later hb)
  have hf2 := fun W (hb : Below w5.heap.size w5 W) => kf2 W q d (hXq5.later hb)
  have hg1 := fun W (hb : Below w5.heap.size w5 W) => kg1 W p c (hG5.later hb) (hXp5.later hb)
  have hg2 := fun W (hb : Below w5.heap.size w5 W) => kg2 W q d (hXq5.later hb)
  clear kh1 kh2 ks1 ks2 kt1 kt2 kt3 kf1 kf2 kg1 kg2 hXp5 hXq5 hXc hX2 hG5 hD5 hG hD
  refine any_regionG (by kernel_rfl) 50 rfl (fun i => if i < 49 then i + 14 else 6) (oneR 17 (fun v W => ∃ b, v = .pointer (some ⟨b, 0, none⟩) ∧ ∃ S, Tre W S b m (leafs R)) [.bool true, .bool true, .agg #[.int .u64 (seq : Int), .string prev, .int .u64 (tx : Int), .slice p m c], .string hd, .agg #[.int .u64 (seq : Int), .string prev, .int .u64 (tx : Int), .slice q m d], .string hd, .bool true, .bool true, .bool true, .agg #[.int .u64 (seq : Int), .string prev, .int .u64 (tx : Int), .slice p m c], .string hs, .agg #[.int .u64 (seq : Int), .string prev, .int .u64 (tx : Int), .slice q m d], .string hs, .bool true, .bool true, .bool true, .agg #[.int .u64 (seq : Int), .string prev, .int .u64 (tx : Int), .slice p m c], undef, .string rt, .agg #[.int .u64 (seq : Int), .string prev, .int .u64 (tx : Int), .slice q m d], .string rt, .bool true, .bool true, .bool true, .agg #[.int .u64 (seq : Int), .string prev, .int .u64 (tx : Int), .slice p m c], .int .u64 (N : Int), .string Q, .int .i64 F1, .agg #[.int .u64 (seq : Int), .string prev, .int .u64 (tx : Int), .slice q m d], .int .u64 (N : Int), .string Q, .int .i64 F1, .bool true, .bool true, .bool true, .agg #[.int .u64 (seq : Int), .string prev, .int .u64 (tx : Int), .slice p m c], .pointer (some ⟨b1, 0, none⟩), .int .u64 (seq : Int), .pointer (some ⟨b1, 1, none⟩), .string prev, .int .i64 F2, .agg #[.int .u64 (seq : Int), .string prev, .int .u64 (tx : Int), .slice q m d], .pointer (some ⟨b1, 0, none⟩), .int .u64 (seq : Int), .pointer (some ⟨b1, 1, none⟩), .string prev, .int .i64 F2, .bool true, .bool true, .bool true]) (by kernel_rfl) (by kernel_rfl) (by kernel_rfl) (oneR_later 17 _ _ (fun v W W' ⟨b, h1, S, h2⟩ hb => ⟨b, h1, S, h2.later hb⟩)) ?step ?post
  case step =>
    intro i hi a W hrest hb hk
    have hp7 : a.eval (.tmp 7) = .pointer (some ⟨b1, 0, none⟩) := (hrest 7 (by intro i hi; split <;> omega)).trans rfl
    have fp7 := ev hp7
    have hp8 : a.eval (.tmp 8) = .pointer (some ⟨b2, 0, none⟩) := (hrest 8 (by intro i hi; split <;> omega)).trans rfl
    have fp8 := ev hp8
    have hp1 : a.eval (.tmp 1) = .int .u64 (N : Int) := (hrest 1 (by intro i hi; split <;> omega)).trans rfl
    have fp1 := ev hp1
    have hp2 : a.eval (.tmp 2) = .string Q := (hrest 2 (by intro i hi; split <;> omega)).trans rfl
    have fp2 := ev hp2
    clear hrest
    obtain rfl | rfl | rfl | rfl | rfl | rfl | rfl | rfl | rfl | rfl | rfl | rfl | rfl | rfl | rfl | rfl | rfl | rfl | rfl | rfl | rfl | rfl | rfl | rfl | rfl | rfl | rfl | rfl | rfl | rfl | rfl | rfl | rfl | rfl | rfl | rfl | rfl | rfl | rfl | rfl | rfl | rfl | rfl | rfl | rfl | rfl | rfl | rfl | rfl | rfl : i = 0 ∨ i = 1 ∨ i = 2 ∨ i = 3 ∨ i = 4 ∨ i = 5 ∨ i = 6 ∨ i = 7 ∨ i = 8 ∨ i = 9 ∨ i = 10 ∨ i = 11 ∨ i = 12 ∨ i = 13 ∨ i = 14 ∨ i = 15 ∨ i = 16 ∨ i = 17 ∨ i = 18 ∨ i = 19 ∨ i = 20 ∨ i = 21 ∨ i = 22 ∨ i = 23 ∨ i = 24 ∨ i = 25 ∨ i = 26 ∨ i = 27 ∨ i = 28 ∨ i = 29 ∨ i = 30 ∨ i = 31 ∨ i = 32 ∨ i = 33 ∨ i = 34 ∨ i = 35 ∨ i = 36 ∨ i = 37 ∨ i = 38 ∨ i = 39 ∨ i = 40 ∨ i = 41 ∨ i = 42 ∨ i = 43 ∨ i = 44 ∨ i = 45 ∨ i = 46 ∨ i = 47 ∨ i = 48 ∨ i = 49 := by omega
    · clear hi
      clear hk
      refine ⟨_, rfl, rfl, Or.inl ⟨rfl, wp_enter (f := 10) (args := #[]) ?_ ((haw W hb).mono ?_)⟩⟩
      · go_simp
      · rintro e w2 ⟨rfl, hb2⟩
        exact ⟨_, rfl, _, rfl, hb2, rfl⟩
    · clear hi
      have e0 : a.eval (.tmp 14) = .bool true := hk 0 (mem_of (by kernel_rfl))
      have f0 := ev e0
      clear hk
      refine ⟨_, rfl, rfl, Or.inl ⟨rfl, wp_value (v := .bool true) (w' := W) ?_ ⟨_, rfl, Below.refl _ _, rfl⟩⟩⟩
      go_simp
    · clear hi
      have e1 : a.eval (.tmp 15) = .bool true := hk 1 (mem_of (by kernel_rfl))
      clear hk
      refine ⟨_, rfl, rfl, Or.inl ⟨wanted_of (k := 1) (b := true) rfl rfl e1, wp_load_row 38 (.tmp 7) rfl (b1) hp7 38 #[.int .u64 (seq : Int), .string prev, .int .u64 (tx : Int), .slice p m c] (0, 0) _ ((hb.block _ (lt_of_row hx5)).trans hx5) Tryd.underlying38 rfl (by kernel_rfl) ⟨_, rfl, Below.refl _ _, rfl⟩⟩⟩
    · clear hi
      have e2 : a.eval (.tmp 16) = .agg #[.int .u64 (seq : Int), .string prev, .int .u64 (tx : Int), .slice p m c] := hk 2 (mem_of (by kernel_rfl))
      have f2 := ev e2
      have e1 : a.eval (.tmp 15) = .bool true := hk 1 (mem_of (by kernel_rfl))
      clear hk
      refine ⟨_, rfl, rfl, Or.inl ⟨wanted_of (k := 1) (b := true) rfl rfl e1, wp_enter (f := 18) (args := #[.agg #[.int .u64 (seq : Int), .string prev, .int .u64 (tx : Int), .slice p m c]]) ?_ ((hh1 W hb).mono ?_)⟩⟩
      · go_simp
      · rintro e w2 ⟨rfl, hb2⟩
        exact ⟨_, rfl, _, rfl, hb2, rfl⟩
    · clear hi
      have e1 : a.eval (.tmp 15) = .bool true := hk 1 (mem_of (by kernel_rfl))
      clear hk
      refine ⟨_, rfl, rfl, Or.inl ⟨wanted_of (k := 1) (b := true) rfl rfl e1, wp_load_row 41 (.tmp 8) rfl (b2) hp8 41 #[.int .u64 (seq : Int), .string prev, .int .u64 (tx : Int), .slice q m d] (0, 0) _ ((hb.block _ (lt_of_row hy5)).trans hy5) Tryd.underlying41 rfl (by kernel_rfl) ⟨_, rfl, Below.refl _ _, rfl⟩⟩⟩
    · clear hi
      have e4 : a.eval (.tmp 18) = .agg #[.int .u64 (seq : Int), .string prev, .int .u64 (tx : Int), .slice q m d] := hk 4 (mem_of (by kernel_rfl))
      have f4 := ev e4
      have e1 : a.eval (.tmp 15) = .bool true := hk 1 (mem_of (by kernel_rfl))
      clear hk
      refine ⟨_, rfl, rfl, Or.inl ⟨wanted_of (k := 1) (b := true) rfl rfl e1, wp_enter (f := 19) (args := #[.agg #[.int .u64 (seq : Int), .string prev, .int .u64 (tx : Int), .slice q m d]]) ?_ ((hh2 W hb).mono ?_)⟩⟩
      · go_simp
      · rintro e w2 ⟨rfl, hb2⟩
        exact ⟨_, rfl, _, rfl, hb2, rfl⟩
    · clear hi
      have e3 : a.eval (.tmp 17) = .string hd := hk 3 (mem_of (by kernel_rfl))
      have f3 := ev e3
      have e5 : a.eval (.tmp 19) = .string hd := hk 5 (mem_of (by kernel_rfl))
      have f5 := ev e5
      have e1 : a.eval (.tmp 15) = .bool true := hk 1 (mem_of (by kernel_rfl))
      clear hk
      refine ⟨_, rfl, rfl, Or.inl ⟨wanted_of (k := 1) (b := true) rfl rfl e1, wp_value (v := .bool true) (w' := W) ?_ ⟨_, rfl, Below.refl _ _, rfl⟩⟩⟩
      go_simp
    · clear hi
      have e1 : a.eval (.tmp 15) = .bool true := hk 1 (mem_of (by kernel_rfl))
      have f1 := ev e1
      have e6 : a.eval (.tmp 20) = .bool true := hk 6 (mem_of (by kernel_rfl))
      have f6 := ev e6
      clear hk
      refine ⟨_, rfl, rfl, Or.inl ⟨rfl, wp_value (v := .bool true) (w' := W) ?_ ⟨_, rfl, Below.refl _ _, rfl⟩⟩⟩
      go_simp
    · clear hi
      have e7 : a.eval (.tmp 21) = .bool true := hk 7 (mem_of (by kernel_rfl))
      have f7 := ev e7
      clear hk
      refine ⟨_, rfl, rfl, Or.inl ⟨rfl, wp_value (v := .bool true) (w' := W) ?_ ⟨_, rfl, Below.refl _ _, rfl⟩⟩⟩
      go_simp
    · clear hi
      have e8 : a.eval (.tmp 22) = .bool true := hk 8 (mem_of (by kernel_rfl))
      clear hk
      refine ⟨_, rfl, rfl, Or.inl ⟨wanted_of (k := 8) (b := true) rfl rfl e8, wp_load_row 38 (.tmp 7) rfl (b1) hp7 38 #[.int .u64 (seq : Int), .string prev, .int .u64 (tx : Int), .slice p m c] (0, 0) _ ((hb.block _ (lt_of_row hx5)).trans hx5) Tryd.underlying38 rfl (by kernel_rfl) ⟨_, rfl, Below.refl _ _, rfl⟩⟩⟩
    · clear hi
      have e9 : a.eval (.tmp 23) = .agg #[.int .u64 (seq : Int), .string prev, .int .u64 (tx : Int), .slice p m c] := hk 9 (mem_of (by kernel_rfl))
      have f9 := ev e9
      have e8 : a.eval (.tmp 22) = .bool true := hk 8 (mem_of (by kernel_rfl))
      clear hk
      refine ⟨_, rfl, rfl, Or.inl ⟨wanted_of (k := 8) (b := true) rfl rfl e8, wp_enter (f := 20) (args := #[.agg #[.int .u64 (seq : Int), .string prev, .int .u64 (tx : Int), .slice p m c]]) ?_ ((hs1 W hb).mono ?_)⟩⟩
      · go_simp
      · rintro e w2 ⟨rfl, hb2⟩
        exact ⟨_, rfl, _, rfl, hb2, rfl⟩
    · clear hi
      have e8 : a.eval (.tmp 22) = .bool true := hk 8 (mem_of (by kernel_rfl))
      clear hk
      refine ⟨_, rfl, rfl, Or.inl ⟨wanted_of (k := 8) (b := true) rfl rfl e8, wp_load_row 41 (.tmp 8) rfl (b2) hp8 41 #[.int .u64 (seq : Int), .string prev, .int .u64 (tx : Int), .slice q m d] (0, 0) _ ((hb.block _ (lt_of_row hy5)).trans hy5) Tryd.underlying41 rfl (by kernel_rfl) ⟨_, rfl, Below.refl _ _, rfl⟩⟩⟩
    · clear hi
      have e11 : a.eval (.tmp 25) = .agg #[.int .u64 (seq : Int), .string prev, .int .u64 (tx : Int), .slice q m d] := hk 11 (mem_of (by kernel_rfl))
      have f11 := ev e11
      have e8 : a.eval (.tmp 22) = .bool true := hk 8 (mem_of (by kernel_rfl))
      clear hk
      refine ⟨_, rfl, rfl, Or.inl ⟨wanted_of (k := 8) (b := true) rfl rfl e8, wp_enter (f := 21) (args := #[.agg #[.int .u64 (seq : Int), .string prev, .int .u64 (tx : Int), .slice q m d]]) ?_ ((hs2 W hb).mono ?_)⟩⟩
      · go_simp
      · rintro e w2 ⟨rfl, hb2⟩
        exact ⟨_, rfl, _, rfl, hb2, rfl⟩
    · clear hi
      have e10 : a.eval (.tmp 24) = .string hs := hk 10 (mem_of (by kernel_rfl))
      have f10 := ev e10
      have e12 : a.eval (.tmp 26) = .string hs := hk 12 (mem_of (by kernel_rfl))
      have f12 := ev e12
      have e8 : a.eval (.tmp 22) = .bool true := hk 8 (mem_of (by kernel_rfl))
      clear hk
      refine ⟨_, rfl, rfl, Or.inl ⟨wanted_of (k := 8) (b := true) rfl rfl e8, wp_value (v := .bool true) (w' := W) ?_ ⟨_, rfl, Below.refl _ _, rfl⟩⟩⟩
      go_simp
    · clear hi
      have e8 : a.eval (.tmp 22) = .bool true := hk 8 (mem_of (by kernel_rfl))
      have f8 := ev e8
      have e13 : a.eval (.tmp 27) = .bool true := hk 13 (mem_of (by kernel_rfl))
      have f13 := ev e13
      clear hk
      refine ⟨_, rfl, rfl, Or.inl ⟨rfl, wp_value (v := .bool true) (w' := W) ?_ ⟨_, rfl, Below.refl _ _, rfl⟩⟩⟩
      go_simp
    · clear hi
      have e14 : a.eval (.tmp 28) = .bool true := hk 14 (mem_of (by kernel_rfl))
      have f14 := ev e14
      clear hk
      refine ⟨_, rfl, rfl, Or.inl ⟨rfl, wp_value (v := .bool true) (w' := W) ?_ ⟨_, rfl, Below.refl _ _, rfl⟩⟩⟩
      go_simp
    · clear hi
      have e15 : a.eval (.tmp 29) = .bool true := hk 15 (mem_of (by kernel_rfl))
      clear hk
      refine ⟨_, rfl, rfl, Or.inl ⟨wanted_of (k := 15) (b := true) rfl rfl e15, wp_load_row 38 (.tmp 7) rfl (b1) hp7 38 #[.int .u64 (seq : Int), .string prev, .int .u64 (tx : Int), .slice p m c] (0, 0) _ ((hb.block _ (lt_of_row hx5)).trans hx5) Tryd.underlying38 rfl (by kernel_rfl) ⟨_, rfl, Below.refl _ _, rfl⟩⟩⟩
    · clear hi
      have e16 : a.eval (.tmp 30) = .agg #[.int .u64 (seq : Int), .string prev, .int .u64 (tx : Int), .slice p m c] := hk 16 (mem_of (by kernel_rfl))
      have f16 := ev e16
      have e15 : a.eval (.tmp 29) = .bool true := hk 15 (mem_of (by kernel_rfl))
      clear hk
      refine ⟨_, rfl, rfl, Or.inl ⟨wanted_of (k := 15) (b := true) rfl rfl e15, wp_enter (f := 22) (args := #[.agg #[.int .u64 (seq : Int), .string prev, .int .u64 (tx : Int), .slice p m c]]) ?_ ((ht1 W hb).mono ?_)⟩⟩
      · go_simp
      · rintro e w2 ⟨b2, S2, rfl, t2, _, hb2⟩
        exact ⟨_, rfl, _, rfl, hb2, b2, rfl, S2, t2⟩
    · clear hi
      obtain ⟨b3, e17, S3, t3⟩ := show ∃ b, a.eval (.tmp 31) = .pointer (some ⟨b, 0, none⟩) ∧ ∃ S, Tre W S b m (leafs R) from hk 17 (mem_of (by kernel_rfl))
      have f17 := ev e17
      have e15 : a.eval (.tmp 29) = .bool true := hk 15 (mem_of (by kernel_rfl))
      clear hk
      refine ⟨_, rfl, rfl, Or.inl ⟨wanted_of (k := 15) (b := true) rfl rfl e15, wp_enter (f := 23) (args := #[.pointer (some ⟨b3, 0, none⟩)]) ?_ ((ht2 W b3 S3 hb t3).mono ?_)⟩⟩
      · go_simp
      · rintro e w2 ⟨rfl, hb2⟩
        exact ⟨_, rfl, _, rfl, hb2, rfl⟩
    · clear hi
      have e15 : a.eval (.tmp 29) = .bool true := hk 15 (mem_of (by kernel_rfl))
      clear hk
      refine ⟨_, rfl, rfl, Or.inl ⟨wanted_of (k := 15) (b := true) rfl rfl e15, wp_load_row 41 (.tmp 8) rfl (b2) hp8 41 #[.int .u64 (seq : Int), .string prev, .int .u64 (tx : Int), .slice q m d] (0, 0) _ ((hb.block _ (lt_of_row hy5)).trans hy5) Tryd.underlying41 rfl (by kernel_rfl) ⟨_, rfl, Below.refl _ _, rfl⟩⟩⟩
    · clear hi
      have e19 : a.eval (.tmp 33) = .agg #[.int .u64 (seq : Int), .string prev, .int .u64 (tx : Int), .slice q m d] := hk 19 (mem_of (by kernel_rfl))
      have f19 := ev e19
      have e15 : a.eval (.tmp 29) = .bool true := hk 15 (mem_of (by kernel_rfl))
      clear hk
      refine ⟨_, rfl, rfl, Or.inl ⟨wanted_of (k := 15) (b := true) rfl rfl e15, wp_enter (f := 24) (args := #[.agg #[.int .u64 (seq : Int), .string prev, .int .u64 (tx : Int), .slice q m d]]) ?_ ((ht3 W hb).mono ?_)⟩⟩
      · go_simp
      · rintro e w2 ⟨rfl, hb2⟩
        exact ⟨_, rfl, _, rfl, hb2, rfl⟩
    · clear hi
      have e18 : a.eval (.tmp 32) = .string rt := hk 18 (mem_of (by kernel_rfl))
      have f18 := ev e18
      have e20 : a.eval (.tmp 34) = .string rt := hk 20 (mem_of (by kernel_rfl))
      have f20 := ev e20
      have e15 : a.eval (.tmp 29) = .bool true := hk 15 (mem_of (by kernel_rfl))
      clear hk
      refine ⟨_, rfl, rfl, Or.inl ⟨wanted_of (k := 15) (b := true) rfl rfl e15, wp_value (v := .bool true) (w' := W) ?_ ⟨_, rfl, Below.refl _ _, rfl⟩⟩⟩
      go_simp
    · clear hi
      have e15 : a.eval (.tmp 29) = .bool true := hk 15 (mem_of (by kernel_rfl))
      have f15 := ev e15
      have e21 : a.eval (.tmp 35) = .bool true := hk 21 (mem_of (by kernel_rfl))
      have f21 := ev e21
      clear hk
      refine ⟨_, rfl, rfl, Or.inl ⟨rfl, wp_value (v := .bool true) (w' := W) ?_ ⟨_, rfl, Below.refl _ _, rfl⟩⟩⟩
      go_simp
    · clear hi
      have e22 : a.eval (.tmp 36) = .bool true := hk 22 (mem_of (by kernel_rfl))
      have f22 := ev e22
      clear hk
      refine ⟨_, rfl, rfl, Or.inl ⟨rfl, wp_value (v := .bool true) (w' := W) ?_ ⟨_, rfl, Below.refl _ _, rfl⟩⟩⟩
      go_simp
    · clear hi
      have e23 : a.eval (.tmp 37) = .bool true := hk 23 (mem_of (by kernel_rfl))
      clear hk
      refine ⟨_, rfl, rfl, Or.inl ⟨wanted_of (k := 23) (b := true) rfl rfl e23, wp_load_row 38 (.tmp 7) rfl (b1) hp7 38 #[.int .u64 (seq : Int), .string prev, .int .u64 (tx : Int), .slice p m c] (0, 0) _ ((hb.block _ (lt_of_row hx5)).trans hx5) Tryd.underlying38 rfl (by kernel_rfl) ⟨_, rfl, Below.refl _ _, rfl⟩⟩⟩
    · clear hi
      have e23 : a.eval (.tmp 37) = .bool true := hk 23 (mem_of (by kernel_rfl))
      clear hk
      refine ⟨_, rfl, rfl, Or.inl ⟨wanted_of (k := 23) (b := true) rfl rfl e23, wp_value (v := .int .u64 (N : Int)) (w' := W) ?_ ⟨_, rfl, Below.refl _ _, rfl⟩⟩⟩
      go_simp
    · clear hi
      have e23 : a.eval (.tmp 37) = .bool true := hk 23 (mem_of (by kernel_rfl))
      clear hk
      refine ⟨_, rfl, rfl, Or.inl ⟨wanted_of (k := 23) (b := true) rfl rfl e23, wp_value (v := .string Q) (w' := W) ?_ ⟨_, rfl, Below.refl _ _, rfl⟩⟩⟩
      go_simp
    · clear hi
      have e24 : a.eval (.tmp 38) = .agg #[.int .u64 (seq : Int), .string prev, .int .u64 (tx : Int), .slice p m c] := hk 24 (mem_of (by kernel_rfl))
      have f24 := ev e24
      have e25 : a.eval (.tmp 39) = .int .u64 (N : Int) := hk 25 (mem_of (by kernel_rfl))
      have f25 := ev e25
      have e26 : a.eval (.tmp 40) = .string Q := hk 26 (mem_of (by kernel_rfl))
      have f26 := ev e26
      have e23 : a.eval (.tmp 37) = .bool true := hk 23 (mem_of (by kernel_rfl))
      clear hk
      refine ⟨_, rfl, rfl, Or.inl ⟨wanted_of (k := 23) (b := true) rfl rfl e23, wp_enter (f := 25) (args := #[.agg #[.int .u64 (seq : Int), .string prev, .int .u64 (tx : Int), .slice p m c], .int .u64 (N : Int), .string Q]) ?_ ((hf1 W hb).mono ?_)⟩⟩
      · go_simp
      · rintro e w2 ⟨rfl, hb2⟩
        exact ⟨_, rfl, _, rfl, hb2, rfl⟩
    · clear hi
      have e23 : a.eval (.tmp 37) = .bool true := hk 23 (mem_of (by kernel_rfl))
      clear hk
      refine ⟨_, rfl, rfl, Or.inl ⟨wanted_of (k := 23) (b := true) rfl rfl e23, wp_load_row 41 (.tmp 8) rfl (b2) hp8 41 #[.int .u64 (seq : Int), .string prev, .int .u64 (tx : Int), .slice q m d] (0, 0) _ ((hb.block _ (lt_of_row hy5)).trans hy5) Tryd.underlying41 rfl (by kernel_rfl) ⟨_, rfl, Below.refl _ _, rfl⟩⟩⟩
    · clear hi
      have e23 : a.eval (.tmp 37) = .bool true := hk 23 (mem_of (by kernel_rfl))
      clear hk
      refine ⟨_, rfl, rfl, Or.inl ⟨wanted_of (k := 23) (b := true) rfl rfl e23, wp_value (v := .int .u64 (N : Int)) (w' := W) ?_ ⟨_, rfl, Below.refl _ _, rfl⟩⟩⟩
      go_simp
    · clear hi
      have e23 : a.eval (.tmp 37) = .bool true := hk 23 (mem_of (by kernel_rfl))
      clear hk
      refine ⟨_, rfl, rfl, Or.inl ⟨wanted_of (k := 23) (b := true) rfl rfl e23, wp_value (v := .string Q) (w' := W) ?_ ⟨_, rfl, Below.refl _ _, rfl⟩⟩⟩
      go_simp
    · clear hi
      have e28 : a.eval (.tmp 42) = .agg #[.int .u64 (seq : Int), .string prev, .int .u64 (tx : Int), .slice q m d] := hk 28 (mem_of (by kernel_rfl))
      have f28 := ev e28
      have e29 : a.eval (.tmp 43) = .int .u64 (N : Int) := hk 29 (mem_of (by kernel_rfl))
      have f29 := ev e29
      have e30 : a.eval (.tmp 44) = .string Q := hk 30 (mem_of (by kernel_rfl))
      have f30 := ev e30
      have e23 : a.eval (.tmp 37) = .bool true := hk 23 (mem_of (by kernel_rfl))
      clear hk
      refine ⟨_, rfl, rfl, Or.inl ⟨wanted_of (k := 23) (b := true) rfl rfl e23, wp_enter (f := 26) (args := #[.agg #[.int .u64 (seq : Int), .string prev, .int .u64 (tx : Int), .slice q m d], .int .u64 (N : Int), .string Q]) ?_ ((hf2 W hb).mono ?_)⟩⟩
      · go_simp
      · rintro e w2 ⟨rfl, hb2⟩
        exact ⟨_, rfl, _, rfl, hb2, rfl⟩
    · clear hi
      have e27 : a.eval (.tmp 41) = .int .i64 F1 := hk 27 (mem_of (by kernel_rfl))
      have f27 := ev e27
      have e31 : a.eval (.tmp 45) = .int .i64 F1 := hk 31 (mem_of (by kernel_rfl))
      have f31 := ev e31
      have e23 : a.eval (.tmp 37) = .bool true := hk 23 (mem_of (by kernel_rfl))
      clear hk
      refine ⟨_, rfl, rfl, Or.inl ⟨wanted_of (k := 23) (b := true) rfl rfl e23, wp_value (v := .bool true) (w' := W) ?_ ⟨_, rfl, Below.refl _ _, rfl⟩⟩⟩
      go_simp
    · clear hi
      have e23 : a.eval (.tmp 37) = .bool true := hk 23 (mem_of (by kernel_rfl))
      have f23 := ev e23
      have e32 : a.eval (.tmp 46) = .bool true := hk 32 (mem_of (by kernel_rfl))
      have f32 := ev e32
      clear hk
      refine ⟨_, rfl, rfl, Or.inl ⟨rfl, wp_value (v := .bool true) (w' := W) ?_ ⟨_, rfl, Below.refl _ _, rfl⟩⟩⟩
      go_simp
    · clear hi
      have e33 : a.eval (.tmp 47) = .bool true := hk 33 (mem_of (by kernel_rfl))
      have f33 := ev e33
      clear hk
      refine ⟨_, rfl, rfl, Or.inl ⟨rfl, wp_value (v := .bool true) (w' := W) ?_ ⟨_, rfl, Below.refl _ _, rfl⟩⟩⟩
      go_simp
    · clear hi
      have e34 : a.eval (.tmp 48) = .bool true := hk 34 (mem_of (by kernel_rfl))
      clear hk
      refine ⟨_, rfl, rfl, Or.inl ⟨wanted_of (k := 34) (b := true) rfl rfl e34, wp_load_row 38 (.tmp 7) rfl (b1) hp7 38 #[.int .u64 (seq : Int), .string prev, .int .u64 (tx : Int), .slice p m c] (0, 0) _ ((hb.block _ (lt_of_row hx5)).trans hx5) Tryd.underlying38 rfl (by kernel_rfl) ⟨_, rfl, Below.refl _ _, rfl⟩⟩⟩
    · clear hi
      have e34 : a.eval (.tmp 48) = .bool true := hk 34 (mem_of (by kernel_rfl))
      clear hk
      refine ⟨_, rfl, rfl, Or.inl ⟨wanted_of (k := 34) (b := true) rfl rfl e34, wp_value (v := .pointer (some ⟨b1, 0, none⟩)) (w' := W) ?_ ⟨_, rfl, Below.refl _ _, rfl⟩⟩⟩
      go_simp
    · clear hi
      have e36 : a.eval (.tmp 50) = .pointer (some ⟨b1, 0, none⟩) := hk 36 (mem_of (by kernel_rfl))
      have f36 := ev e36
      have e34 : a.eval (.tmp 48) = .bool true := hk 34 (mem_of (by kernel_rfl))
      clear hk
      have hc : W.cell? ⟨b1, 0, none⟩ = some (.int .u64 (seq : Int)) := cell_of_row W _ 0 _ _ _ ((hb.block _ (lt_of_row hx5)).trans hx5)
      refine ⟨_, rfl, rfl, Or.inl ⟨wanted_of (k := 34) (b := true) rfl rfl e34, wp_value (v := .int .u64 (seq : Int)) (w' := W) ?_ ⟨_, rfl, Below.refl _ _, rfl⟩⟩⟩
      go_simp
    · clear hi
      have e34 : a.eval (.tmp 48) = .bool true := hk 34 (mem_of (by kernel_rfl))
      clear hk
      refine ⟨_, rfl, rfl, Or.inl ⟨wanted_of (k := 34) (b := true) rfl rfl e34, wp_value (v := .pointer (some ⟨b1, 1, none⟩)) (w' := W) ?_ ⟨_, rfl, Below.refl _ _, rfl⟩⟩⟩
      go_simp
    · clear hi
      have e38 : a.eval (.tmp 52) = .pointer (some ⟨b1, 1, none⟩) := hk 38 (mem_of (by kernel_rfl))
      have f38 := ev e38
      have e34 : a.eval (.tmp 48) = .bool true := hk 34 (mem_of (by kernel_rfl))
      clear hk
      have hc : W.cell? ⟨b1, 1, none⟩ = some (.string prev) := cell_of_row W _ 1 _ _ _ ((hb.block _ (lt_of_row hx5)).trans hx5)
      refine ⟨_, rfl, rfl, Or.inl ⟨wanted_of (k := 34) (b := true) rfl rfl e34, wp_value (v := .string prev) (w' := W) ?_ ⟨_, rfl, Below.refl _ _, rfl⟩⟩⟩
      go_simp
    · clear hi
      have e35 : a.eval (.tmp 49) = .agg #[.int .u64 (seq : Int), .string prev, .int .u64 (tx : Int), .slice p m c] := hk 35 (mem_of (by kernel_rfl))
      have f35 := ev e35
      have e37 : a.eval (.tmp 51) = .int .u64 (seq : Int) := hk 37 (mem_of (by kernel_rfl))
      have f37 := ev e37
      have e39 : a.eval (.tmp 53) = .string prev := hk 39 (mem_of (by kernel_rfl))
      have f39 := ev e39
      have e34 : a.eval (.tmp 48) = .bool true := hk 34 (mem_of (by kernel_rfl))
      clear hk
      refine ⟨_, rfl, rfl, Or.inl ⟨wanted_of (k := 34) (b := true) rfl rfl e34, wp_enter (f := 25) (args := #[.agg #[.int .u64 (seq : Int), .string prev, .int .u64 (tx : Int), .slice p m c], .int .u64 (seq : Int), .string prev]) ?_ ((hg1 W hb).mono ?_)⟩⟩
      · go_simp
      · rintro e w2 ⟨rfl, hb2⟩
        exact ⟨_, rfl, _, rfl, hb2, rfl⟩
    · clear hi
      have e34 : a.eval (.tmp 48) = .bool true := hk 34 (mem_of (by kernel_rfl))
      clear hk
      refine ⟨_, rfl, rfl, Or.inl ⟨wanted_of (k := 34) (b := true) rfl rfl e34, wp_load_row 41 (.tmp 8) rfl (b2) hp8 41 #[.int .u64 (seq : Int), .string prev, .int .u64 (tx : Int), .slice q m d] (0, 0) _ ((hb.block _ (lt_of_row hy5)).trans hy5) Tryd.underlying41 rfl (by kernel_rfl) ⟨_, rfl, Below.refl _ _, rfl⟩⟩⟩
    · clear hi
      have e34 : a.eval (.tmp 48) = .bool true := hk 34 (mem_of (by kernel_rfl))
      clear hk
      refine ⟨_, rfl, rfl, Or.inl ⟨wanted_of (k := 34) (b := true) rfl rfl e34, wp_value (v := .pointer (some ⟨b1, 0, none⟩)) (w' := W) ?_ ⟨_, rfl, Below.refl _ _, rfl⟩⟩⟩
      go_simp
    · clear hi
      have e42 : a.eval (.tmp 56) = .pointer (some ⟨b1, 0, none⟩) := hk 42 (mem_of (by kernel_rfl))
      have f42 := ev e42
      have e34 : a.eval (.tmp 48) = .bool true := hk 34 (mem_of (by kernel_rfl))
      clear hk
      have hc : W.cell? ⟨b1, 0, none⟩ = some (.int .u64 (seq : Int)) := cell_of_row W _ 0 _ _ _ ((hb.block _ (lt_of_row hx5)).trans hx5)
      refine ⟨_, rfl, rfl, Or.inl ⟨wanted_of (k := 34) (b := true) rfl rfl e34, wp_value (v := .int .u64 (seq : Int)) (w' := W) ?_ ⟨_, rfl, Below.refl _ _, rfl⟩⟩⟩
      go_simp
    · clear hi
      have e34 : a.eval (.tmp 48) = .bool true := hk 34 (mem_of (by kernel_rfl))
      clear hk
      refine ⟨_, rfl, rfl, Or.inl ⟨wanted_of (k := 34) (b := true) rfl rfl e34, wp_value (v := .pointer (some ⟨b1, 1, none⟩)) (w' := W) ?_ ⟨_, rfl, Below.refl _ _, rfl⟩⟩⟩
      go_simp
    · clear hi
      have e44 : a.eval (.tmp 58) = .pointer (some ⟨b1, 1, none⟩) := hk 44 (mem_of (by kernel_rfl))
      have f44 := ev e44
      have e34 : a.eval (.tmp 48) = .bool true := hk 34 (mem_of (by kernel_rfl))
      clear hk
      have hc : W.cell? ⟨b1, 1, none⟩ = some (.string prev) := cell_of_row W _ 1 _ _ _ ((hb.block _ (lt_of_row hx5)).trans hx5)
      refine ⟨_, rfl, rfl, Or.inl ⟨wanted_of (k := 34) (b := true) rfl rfl e34, wp_value (v := .string prev) (w' := W) ?_ ⟨_, rfl, Below.refl _ _, rfl⟩⟩⟩
      go_simp
    · clear hi
      have e41 : a.eval (.tmp 55) = .agg #[.int .u64 (seq : Int), .string prev, .int .u64 (tx : Int), .slice q m d] := hk 41 (mem_of (by kernel_rfl))
      have f41 := ev e41
      have e43 : a.eval (.tmp 57) = .int .u64 (seq : Int) := hk 43 (mem_of (by kernel_rfl))
      have f43 := ev e43
      have e45 : a.eval (.tmp 59) = .string prev := hk 45 (mem_of (by kernel_rfl))
      have f45 := ev e45
      have e34 : a.eval (.tmp 48) = .bool true := hk 34 (mem_of (by kernel_rfl))
      clear hk
      refine ⟨_, rfl, rfl, Or.inl ⟨wanted_of (k := 34) (b := true) rfl rfl e34, wp_enter (f := 26) (args := #[.agg #[.int .u64 (seq : Int), .string prev, .int .u64 (tx : Int), .slice q m d], .int .u64 (seq : Int), .string prev]) ?_ ((hg2 W hb).mono ?_)⟩⟩
      · go_simp
      · rintro e w2 ⟨rfl, hb2⟩
        exact ⟨_, rfl, _, rfl, hb2, rfl⟩
    · clear hi
      have e40 : a.eval (.tmp 54) = .int .i64 F2 := hk 40 (mem_of (by kernel_rfl))
      have f40 := ev e40
      have e46 : a.eval (.tmp 60) = .int .i64 F2 := hk 46 (mem_of (by kernel_rfl))
      have f46 := ev e46
      have e34 : a.eval (.tmp 48) = .bool true := hk 34 (mem_of (by kernel_rfl))
      clear hk
      refine ⟨_, rfl, rfl, Or.inl ⟨wanted_of (k := 34) (b := true) rfl rfl e34, wp_value (v := .bool true) (w' := W) ?_ ⟨_, rfl, Below.refl _ _, rfl⟩⟩⟩
      go_simp
    · clear hi
      have e34 : a.eval (.tmp 48) = .bool true := hk 34 (mem_of (by kernel_rfl))
      have f34 := ev e34
      have e47 : a.eval (.tmp 61) = .bool true := hk 47 (mem_of (by kernel_rfl))
      have f47 := ev e47
      clear hk
      refine ⟨_, rfl, rfl, Or.inl ⟨rfl, wp_value (v := .bool true) (w' := W) ?_ ⟨_, rfl, Below.refl _ _, rfl⟩⟩⟩
      go_simp
    · clear hi
      have e48 : a.eval (.tmp 62) = .bool true := hk 48 (mem_of (by kernel_rfl))
      have f48 := ev e48
      clear hk
      refine ⟨_, rfl, rfl, Or.inl ⟨rfl, wp_value (v := .bool true) (w' := W) ?_ ⟨_, rfl, Below.refl _ _, rfl⟩⟩⟩
      go_simp
  case post =>
    intro V W hb hV
    have eL : V 49 = .bool true := hV 49 (by omega)
    clear hV
    simp only [putAll, Nat.reduceLT, Nat.reduceAdd, if_true, if_false]
    rw [eL]
    simp only [Act.put, List.setIfInBounds_toArray, List.set_cons_zero, List.set_cons_succ]
    go_wp2
    go_ret
    exact ⟨rfl, hb5.trans (hb.mono hs5)⟩
end Go.Proofs.YtaocbkloafhmeaaDoor
