/- The law BlockUnlike as a walk: of any two blocks whose texts fit the call returns true, and nothing that was there has changed. -/
import Derived.Test.YtaocbkloafhmeaaDoorAwk
import Derived.Test.YtaocbkloafhmeaaDoorBlc
import Derived.Test.YtaocbkloafhmeaaDoorRhd
import Derived.Test.YtaocbkloafhmeaaDoorRfo
import Derived.Test.YtaocbkloafhmeaaDoorUnq
import Derived.Test.YtaocbkloafhmeaaDoorCol
import Derived.Deep.Cut
namespace Go.Proofs.YtaocbkloafhmeaaDoor
open Go.RowKit
set_option maxRecDepth 100000 in
set_option maxHeartbeats 8000000 in
theorem unlike_walk (x : Bk) (hxf : x.fit) (p : Option Addr) (c : Nat) (y : Bk) (hyf : y.fit) (p' : Option Addr) (c' : Nat) (w : World) (hw : 3 ≤ w.heap.size) (hG : GL w) (hD : GD w) (hX : Revs w p x.n c x.R) (hY : Revs w p' y.n c' y.R) :
    Calls Tryd.prog 8 #[x.val p c, y.val p' c'] w fun e w' => e = .returned (.bool true) ∧ Below w.heap.size w w' := by
  have haw := fun W (hb : Below w.heap.size w W) => awake_any W (by have := hb.size; omega) (hG.later hb) (hD.later hb)
  have kb1 := fun W hX => block_any x p c W hX
  have kb2 := fun W hX => block_any y p' c' W hX
  have hX2 : Revs w p x.n c (cutB x).R := hX
  have hY2 : Revs w p' y.n c' (cutB y).R := hY
  have hxc : (cutB x).fit := ⟨hxf.seq, hxf.tx, hxf.prev⟩
  have hyc : (cutB y).fit := ⟨hyf.seq, hyf.tx, hyf.prev⟩
  have hXp : Revs w p (cutB x).n c (cutB x).R := hX.less _ (Nat.min_le_left _ _)
  have hYp : Revs w p' (cutB y).n c' (cutB y).R := hY.less _ (Nat.min_le_left _ _)
  have nX := cutB_n x
  have nY := cutB_n y
  have vx : x.val p c = .agg #[.int .u64 ((cutB x).seq : Int), .string (cutB x).prev, .int .u64 ((cutB x).tx : Int), .slice p x.n c] := rfl
  have vy : y.val p' c' = .agg #[.int .u64 ((cutB y).seq : Int), .string (cutB y).prev, .int .u64 ((cutB y).tx : Int), .slice p' y.n c'] := rfl
  rw [vx] at kb1
  rw [vy] at kb2
  rw [vx, vy]
  rw [show x.R = (cutB x).R from rfl] at kb1
  rw [show y.R = (cutB y).R from rfl] at kb2
  obtain ⟨X, eX⟩ : ∃ X, cutB x = X := ⟨_, rfl⟩
  obtain ⟨Y, eY⟩ : ∃ Y, cutB y = Y := ⟨_, rfl⟩
  obtain ⟨xn, exn⟩ : ∃ n, x.n = n := ⟨_, rfl⟩
  obtain ⟨yn, eyn⟩ : ∃ n, y.n = n := ⟨_, rfl⟩
  rw [eX, exn] at kb1 hX2
  rw [eY, eyn] at kb2 hY2
  rw [eX] at hxc hXp nX
  rw [eY] at hyc hYp nY
  rw [eX, eY, exn, eyn]
  clear vx vy eX eY exn eyn hxf hyf hX hY
  have z1 := headerT_size hxc (by omega)
  have z2 := headerT_size hyc (by omega)
  have zp1 := hxc.prev
  have zp2 := hyc.prev
  have hone : ∀ b : ByteArray, b.size ≤ 1125899906842800 → (⟨#[2]⟩ ++ b : ByteArray).size ≤ 72057594037927936 := fun b hb => by rw [ByteArray.size_append, size_one]; omega
  have ksz := size_one 2
  have kfo1 := fun W (hb : Below w.heap.size w W) {q} {d} hX => rfollows_any X q d X.seq X.prev W hX
  have kfo2 := fun W (hb : Below w.heap.size w W) {q} {d} hX => rfollows_any Y q d Y.seq Y.prev W hX
  have kh1q := fun W (hb : Below w.heap.size w W) {q} {d} hX => rheader_any X hxc nX q d W hX
  have kh2q := fun W (hb : Below w.heap.size w W) {q} {d} hX => rheader_any Y hyc nY q d W hX
  have kh1 := fun W (hb : Below w.heap.size w W) hX => header_any X hxc nX p c W (by have := hb.size; omega) (hG.later hb) (hD.later hb) hX
  have kh2 := fun W (hb : Below w.heap.size w W) hX => header_any Y hyc nY p' c' W (by have := hb.size; omega) (hG.later hb) (hD.later hb) hX
  have kg1 := fun W (hb : Below w.heap.size w W) hX => hash_any X hxc nX p c W (by have := hb.size; omega) (hG.later hb) (hD.later hb) hX
  have kg2 := fun W (hb : Below w.heap.size w W) hX => hash_any Y hyc nY p' c' W (by have := hb.size; omega) (hG.later hb) (hD.later hb) hX
  have kf1 := fun W (hb : Below w.heap.size w W) {q} {d} hX => rframe_any X hxc nX q d W hX
  have kf2 := fun W (hb : Below w.heap.size w W) {q} {d} hX => rframe_any Y hyc nY q d W hX
  have hcb := beq_dec (headerT X) (headerT Y)
  have hfb := beq_dec (frameT X) (frameT Y)
  have hSg : decide (headerT X = headerT Y) = true → hashT X = hashT Y := fun h => by unfold hashT; rw [of_decide_eq_true h]
  have hFS : decide (frameT X = frameT Y) = true → decide (headerT X = headerT Y) = true := fun h => decide_eq_true (frame_header hxc hyc nX nY hXp.fit hYp.fit (of_decide_eq_true h))
  have kcol : hashT X = hashT Y → decide (headerT X = headerT Y) = false → ∀ W, Below w.heap.size w W → Calls Tryd.prog 33 #[.agg #[.string (⟨#[2]⟩ ++ headerT X), .string (⟨#[2]⟩ ++ headerT Y)]] W fun e w' => e = .returned (.bool true) ∧ Below W.heap.size W w' := fun h1 h2 W hb =>
    collides_yes _ _ (hone _ (by omega)) (hone _ (by omega)) (fun h3 => of_decide_eq_false h2 (by
      have h4 := congrArg (fun b : ByteArray => b.data.toList) h3
      simp only [ByteArray.data_append, Array.toList_append] at h4
      exact ByteArray.ext (Array.toList_inj.1 (List.append_cancel_left h4)))) h1 W (hG.later hb)
  obtain ⟨F1, q1⟩ : ∃ v, folR X X.seq X.prev = v := ⟨_, rfl⟩
  obtain ⟨F2, q2⟩ : ∃ v, folR Y Y.seq Y.prev = v := ⟨_, rfl⟩
  obtain ⟨h1, q3⟩ : ∃ v, headerT X = v := ⟨_, rfl⟩
  obtain ⟨h2, q4⟩ : ∃ v, headerT Y = v := ⟨_, rfl⟩
  obtain ⟨g1, q5⟩ : ∃ v, hashT X = v := ⟨_, rfl⟩
  obtain ⟨g2, q6⟩ : ∃ v, hashT Y = v := ⟨_, rfl⟩
  obtain ⟨f1, q7⟩ : ∃ v, frameT X = v := ⟨_, rfl⟩
  obtain ⟨f2, q8⟩ : ∃ v, frameT Y = v := ⟨_, rfl⟩
  rw [q1] at kfo1
  rw [q2] at kfo2
  rw [q3] at kh1 kh1q z1
  rw [q4] at kh2 kh2q z2
  rw [q5] at kg1
  rw [q6] at kg2
  rw [q7] at kf1
  rw [q8] at kf2
  rw [q3, q4] at hcb hSg hFS kcol
  rw [q5, q6] at hSg kcol
  rw [q7, q8] at hfb hFS
  obtain ⟨S, q9⟩ : ∃ v, decide (h1 = h2) = v := ⟨_, rfl⟩
  obtain ⟨Fr, q10⟩ : ∃ v, decide (f1 = f2) = v := ⟨_, rfl⟩
  rw [q9] at hcb hSg hFS kcol
  rw [q10] at hfb hFS
  clear q1 q2 q3 q4 q5 q6 q7 q8 q9 q10 hone hxc hyc nX nY
  obtain ⟨s1, r1, t1, m1, R1⟩ := X
  obtain ⟨s2, r2, t2, m2, R2⟩ := Y
  have hv1 : ∀ q d, (Bk.mk s1 r1 t1 m1 R1).val q d = .agg #[.int .u64 (s1 : Int), .string r1, .int .u64 (t1 : Int), .slice q m1 d] := fun _ _ => rfl
  have hv2 : ∀ q d, (Bk.mk s2 r2 t2 m2 R2).val q d = .agg #[.int .u64 (s2 : Int), .string r2, .int .u64 (t2 : Int), .slice q m2 d] := fun _ _ => rfl
  simp only [hv1] at kb1 kfo1 kh1q kh1 kg1 kf1
  simp only [hv2] at kb2 kfo2 kh2q kh2 kg2 kf2
  simp only at hX2 hY2 hXp hYp z1 z2 zp1 zp2 ⊢
  clear hv1 hv2 hG hD
  go_enter Tryd.func8, Tryd.ntmps8
  go_wp2_with fail
  have b0 : ∀ o o', Below w.heap.size w ((w.alloc o).alloc o') := fun o o' => ((Below.refl _ w).alloc (Nat.le_refl _) _).alloc (by simp) _
  refine (kb1 _ (hX2.later (b0 _ _))).mono ?_
  rintro e w1 ⟨q, d, rfl, hXq, hb1⟩
  have hb01 := (b0 _ _).trans (hb1.mono (by simp; omega))
  have hs1 := hb01.size
  have hbox := (hb1.block (w.heap.size + 1) (by simp)).trans (two_new w _ _)
  have hl1 := lt_of_row hbox
  have hbo : ∀ o o', ((w1.alloc o).alloc o').heap[w.heap.size + 1]? = _ := fun o o' => (Below.heap_alloc _ _ _ (by simp; omega)).trans ((Below.heap_alloc _ _ _ hl1).trans hbox)
  have v0 := fun o o' => cell_of_row ((w1.alloc o).alloc o') _ 0 _ _ _ (hbo o o')
  have v1 := fun o o' => cell_of_row ((w1.alloc o).alloc o') _ 1 _ _ _ (hbo o o')
  have v2 := fun o o' => cell_of_row ((w1.alloc o).alloc o') _ 2 _ _ _ (hbo o o')
  have v3 := fun o o' => cell_of_row ((w1.alloc o).alloc o') _ 3 _ _ _ (hbo o o')
  go_wp2_with fail
  have b12 : ∀ o o', Below w1.heap.size w1 ((w1.alloc o).alloc o') := fun o o' => ((Below.refl _ w1).alloc (Nat.le_refl _) _).alloc (by simp) _
  refine (kb2 _ (hY2.later (hb01.trans ((b12 _ _).mono hs1)))).mono ?_
  rintro e w3 ⟨q', d', rfl, hYq, hb3⟩
  have hb13 := (b12 _ _).trans (hb3.mono (by simp; omega))
  have hx3 : w3.heap[w1.heap.size]? = some (.cells #[.int .u64 (s1 : Int), .string r1, .int .u64 (t1 : Int), .slice p m1 c] 38 (0, 0)) := (hb3.block _ (by simp; omega)).trans ((Below.heap_alloc _ _ _ (by simp)).trans (heap_alloc_new _ _))
  have hy3 : w3.heap[w1.heap.size + 1]? = some (.cells #[.int .u64 (s1 : Int), .string r1, .int .u64 (t1 : Int), .slice q m1 d] 41 (0, 0)) := (hb3.block _ (by simp)).trans (two_new _ _ _)
  have hb03 := hb01.trans (hb13.mono hs1)
  have hs3 := hb03.size
  have hXq3 := hXq.later hb13
  go_upto_region 3 with fail
  obtain ⟨w5, hw5⟩ : ∃ w5, (w3.alloc (.cells #[.int .u64 (s2 : Int), .string r2, .int .u64 (t2 : Int), .slice p' m2 c'] 38)).alloc (.cells #[.int .u64 (s2 : Int), .string r2, .int .u64 (t2 : Int), .slice q' m2 d'] 41) = w5 := ⟨_, rfl⟩
  have b35 : Below w3.heap.size w3 w5 := by rw [← hw5]; exact ((Below.refl _ _).alloc (Nat.le_refl _) _).alloc (by simp) _
  have hz : w5.heap[w3.heap.size]? = some (.cells #[.int .u64 (s2 : Int), .string r2, .int .u64 (t2 : Int), .slice p' m2 c'] 38 (0, 0)) := by rw [← hw5]; exact (Below.heap_alloc _ _ _ (by simp)).trans (heap_alloc_new _ _)
  have ht : w5.heap[w3.heap.size + 1]? = some (.cells #[.int .u64 (s2 : Int), .string r2, .int .u64 (t2 : Int), .slice q' m2 d'] 41 (0, 0)) := by rw [← hw5]; exact two_new _ _ _
  have hx := cell_later4 b35 hx3
  have hy := cell_later4 b35 hy3
  rw [hw5]
  have hb5 := hb03.trans (b35.mono hs3)
  have hs5 := hb5.size
  have hXq5 := hXq3.later b35
  have hYq5 := hYq.later b35
  obtain ⟨bx, e1⟩ : ∃ b, w1.heap.size = b := ⟨_, rfl⟩
  rw [e1] at hx hy ⊢
  obtain ⟨by1, e2⟩ : ∃ b, bx + 1 = b := ⟨_, rfl⟩
  rw [e2] at hy ⊢
  obtain ⟨bz, e3⟩ : ∃ b, w3.heap.size = b := ⟨_, rfl⟩
  rw [e3] at hz ht ⊢
  obtain ⟨bt, e4⟩ : ∃ b, bz + 1 = b := ⟨_, rfl⟩
  rw [e4] at ht ⊢
  clear hw5 e1 e2 e3 e4 hx3 hy3 hXq3 hXq hYq b35 hb13 hb03 hb01 hb1 hb3 b0 b12 v0 v1 v2 v3 hbo hbox hl1 hs1 hs3 kb1 kb2
  have z50 := cell_of_row w5 _ 0 _ _ _ hx
  have z51 := cell_of_row w5 _ 1 _ _ _ hx
  have z52 := cell_of_row w5 _ 2 _ _ _ hx
  have z53 := cell_of_row w5 _ 3 _ _ _ hx
  have z60 := cell_of_row w5 _ 0 _ _ _ hy
  have z61 := cell_of_row w5 _ 1 _ _ _ hy
  have z62 := cell_of_row w5 _ 2 _ _ _ hy
  have z63 := cell_of_row w5 _ 3 _ _ _ hy
  have z70 := cell_of_row w5 _ 0 _ _ _ hz
  have z71 := cell_of_row w5 _ 1 _ _ _ hz
  have z72 := cell_of_row w5 _ 2 _ _ _ hz
  have z73 := cell_of_row w5 _ 3 _ _ _ hz
  have z80 := cell_of_row w5 _ 0 _ _ _ ht
  have z81 := cell_of_row w5 _ 1 _ _ _ ht
  have z82 := cell_of_row w5 _ 2 _ _ _ ht
  have z83 := cell_of_row w5 _ 3 _ _ _ ht
  have hne : ∀ n : Int, n ≠ 0 → (n != 0) = true := fun n h => by simpa using h
  have awk : ∀ W, Below w.heap.size w W → Calls Tryd.prog 10 #[] W fun e w' => e = .returned (.bool true) ∧ Below W.heap.size W w' := haw
  go_wp2_with fail
  refine (kfo1 _ hb5 hXq5).mono ?_
  rintro e w6 ⟨rfl, hb56⟩
  have hb6 := hb5.trans (hb56.mono hs5)
  have hs6 := hb6.size
  by_cases hF1 : F1 = 0
  rotate_left
  · have hF1' := hne F1 hF1
    go_wp2_with fail
    refine (awk _ hb6).mono ?_
    rintro e w7 ⟨rfl, hb7⟩
    go_wp2
    go_ret
    exact ⟨rfl, hb6.trans (hb7.mono hs6)⟩
  subst hF1
  have hXq6 := hXq5.later hb56
  have hYq6 := hYq5.later hb56
  replace hx := (hb56.block _ (lt_of_row hx)).trans hx
  replace hy := (hb56.block _ (lt_of_row hy)).trans hy
  replace hz := (hb56.block _ (lt_of_row hz)).trans hz
  replace ht := (hb56.block _ (lt_of_row ht)).trans ht
  clear hb56 hXq5 hYq5
  clear z50
  clear z51
  clear z52
  clear z53
  clear z60
  clear z61
  clear z62
  clear z63
  clear z70
  clear z71
  clear z72
  clear z73
  clear z80
  clear z81
  clear z82
  clear z83
  have z50 := cell_of_row w6 _ 0 _ _ _ hx
  have z51 := cell_of_row w6 _ 1 _ _ _ hx
  have z52 := cell_of_row w6 _ 2 _ _ _ hx
  have z53 := cell_of_row w6 _ 3 _ _ _ hx
  have z60 := cell_of_row w6 _ 0 _ _ _ hy
  have z61 := cell_of_row w6 _ 1 _ _ _ hy
  have z62 := cell_of_row w6 _ 2 _ _ _ hy
  have z63 := cell_of_row w6 _ 3 _ _ _ hy
  have z70 := cell_of_row w6 _ 0 _ _ _ hz
  have z71 := cell_of_row w6 _ 1 _ _ _ hz
  have z72 := cell_of_row w6 _ 2 _ _ _ hz
  have z73 := cell_of_row w6 _ 3 _ _ _ hz
  have z80 := cell_of_row w6 _ 0 _ _ _ ht
  have z81 := cell_of_row w6 _ 1 _ _ _ ht
  have z82 := cell_of_row w6 _ 2 _ _ _ ht
  have z83 := cell_of_row w6 _ 3 _ _ _ ht
  go_wp2_with fail
  refine (kfo2 _ hb6 hYq6).mono ?_
  rintro e w5' ⟨rfl, hb65⟩
  have hb5 := hb6.trans (hb65.mono hs6)
  have hs5 := hb5.size
  by_cases hF2 : F2 = 0
  rotate_left
  · have hF2' := hne F2 hF2
    go_wp2_with fail
    refine (awk _ hb5).mono ?_
    rintro e w7 ⟨rfl, hb7⟩
    go_wp2
    go_ret
    exact ⟨rfl, hb5.trans (hb7.mono hs5)⟩
  subst hF2
  have hXq5 := hXq6.later hb65
  have hYq5 := hYq6.later hb65
  replace hx := (hb65.block _ (lt_of_row hx)).trans hx
  replace hy := (hb65.block _ (lt_of_row hy)).trans hy
  replace hz := (hb65.block _ (lt_of_row hz)).trans hz
  replace ht := (hb65.block _ (lt_of_row ht)).trans ht
  clear hb65 hXq6 hYq6 hb6 hs6
  clear z50
  clear z51
  clear z52
  clear z53
  clear z60
  clear z61
  clear z62
  clear z63
  clear z70
  clear z71
  clear z72
  clear z73
  clear z80
  clear z81
  clear z82
  clear z83
  have z50 := cell_of_row w5' _ 0 _ _ _ hx
  have z51 := cell_of_row w5' _ 1 _ _ _ hx
  have z52 := cell_of_row w5' _ 2 _ _ _ hx
  have z53 := cell_of_row w5' _ 3 _ _ _ hx
  have z60 := cell_of_row w5' _ 0 _ _ _ hy
  have z61 := cell_of_row w5' _ 1 _ _ _ hy
  have z62 := cell_of_row w5' _ 2 _ _ _ hy
  have z63 := cell_of_row w5' _ 3 _ _ _ hy
  have z70 := cell_of_row w5' _ 0 _ _ _ hz
  have z71 := cell_of_row w5' _ 1 _ _ _ hz
  have z72 := cell_of_row w5' _ 2 _ _ _ hz
  have z73 := cell_of_row w5' _ 3 _ _ _ hz
  have z80 := cell_of_row w5' _ 0 _ _ _ ht
  have z81 := cell_of_row w5' _ 1 _ _ _ ht
  have z82 := cell_of_row w5' _ 2 _ _ _ ht
  have z83 := cell_of_row w5' _ 3 _ _ _ ht
  by_cases hl1 : r1.size ≤ 32
  rotate_left
  · have hl1' : (32 : Int) < (r1.size : Int) := by omega
    go_wp2_with fail
    refine (awk _ hb5).mono ?_
    rintro e w7 ⟨rfl, hb7⟩
    go_wp2
    go_ret
    exact ⟨rfl, hb5.trans (hb7.mono hs5)⟩
  have hl1' : ¬ (32 : Int) < (r1.size : Int) := by omega
  by_cases hl2 : r2.size ≤ 32
  rotate_left
  · have hl2' : (32 : Int) < (r2.size : Int) := by omega
    go_wp2_with fail
    refine (awk _ hb5).mono ?_
    rintro e w7 ⟨rfl, hb7⟩
    go_wp2
    go_ret
    exact ⟨rfl, hb5.trans (hb7.mono hs5)⟩
  have hl2' : ¬ (32 : Int) < (r2.size : Int) := by omega
  have hl2d : decide ((32 : Int) < (r2.size : Int)) = false := decide_eq_false hl2'
  go_wp2_with fail
  clear z50
  clear z51
  clear z52
  clear z53
  clear z60
  clear z61
  clear z62
  clear z63
  clear z70
  clear z71
  clear z72
  clear z73
  clear z80
  clear z81
  clear z82
  clear z83
  refine quiet_class (C := fun W => Below w5'.heap.size w5' W) (by kernel_rfl) (by kernel_rfl) (below_drewN (Below.refl _ _) 1) ?_
  refine BigFrame.wpQuiet_want (by rfl) (fun K hK => q_load 41 (.tmp 6) rfl by1 rfl 41 #[.int .u64 (s1 : Int), .string r1, .int .u64 (t1 : Int), .slice q m1 d] (0, 0) _ (fun W hW => (hW.block _ (lt_of_row hy)).trans hy) Tryd.underlying41 rfl (by kernel_rfl) (hK _ ?_))
  simp only [Act.put, List.setIfInBounds_toArray, List.set_cons_zero, List.set_cons_succ]
  refine BigFrame.wpQuiet_want (by rfl) (fun K hK => q_call (v := .string h1) (f := 19) (args := #[.agg #[.int .u64 (s1 : Int), .string r1, .int .u64 (t1 : Int), .slice q m1 d]]) (fun W => ?_) (fun W hW => ?_) (hK _ ?_))
  · go_simp
  · refine (kh1q W (hb5.trans (hW.mono hs5)) (hXq5.later hW)).mono ?_
    rintro e w' ⟨rfl, hb'⟩
    exact ⟨rfl, hW.trans (hb'.mono hW.size)⟩
  simp only [Act.put, List.setIfInBounds_toArray, List.set_cons_zero, List.set_cons_succ]
  refine BigFrame.wpQuiet_want (by rfl) (fun K hK => q_load 41 (.tmp 8) rfl bt rfl 41 #[.int .u64 (s2 : Int), .string r2, .int .u64 (t2 : Int), .slice q' m2 d'] (0, 0) _ (fun W hW => (hW.block _ (lt_of_row ht)).trans ht) Tryd.underlying41 rfl (by kernel_rfl) (hK _ ?_))
  simp only [Act.put, List.setIfInBounds_toArray, List.set_cons_zero, List.set_cons_succ]
  refine BigFrame.wpQuiet_want (by rfl) (fun K hK => q_call (v := .string h2) (f := 19) (args := #[.agg #[.int .u64 (s2 : Int), .string r2, .int .u64 (t2 : Int), .slice q' m2 d']]) (fun W => ?_) (fun W hW => ?_) (hK _ ?_))
  · go_simp
  · refine (kh2q W (hb5.trans (hW.mono hs5)) (hYq5.later hW)).mono ?_
    rintro e w' ⟨rfl, hb'⟩
    exact ⟨rfl, hW.trans (hb'.mono hW.size)⟩
  simp only [Act.put, List.setIfInBounds_toArray, List.set_cons_zero, List.set_cons_succ]
  refine BigFrame.wpQuiet_want (by rfl) (fun K hK => q_pure (v := .bool S) (fun W => ?_) (hK _ ?_))
  · go_simp
  simp only [Act.put, List.setIfInBounds_toArray, List.set_cons_zero, List.set_cons_succ]
  go_big_quiet_step (fail)
  refine wpQuiet_nil ?_
  intro w6 hb56
  have hb6 := hb5.trans (hb56.mono hs5)
  have hs6 := hb6.size
  have hXq6 := hXq5.later hb56
  have hYq6 := hYq5.later hb56
  replace hx := (hb56.block _ (lt_of_row hx)).trans hx
  replace hy := (hb56.block _ (lt_of_row hy)).trans hy
  replace hz := (hb56.block _ (lt_of_row hz)).trans hz
  replace ht := (hb56.block _ (lt_of_row ht)).trans ht
  have hXp6 := hXp.later hb6
  have hYp6 := hYp.later hb6
  clear hb56 hXq5 hYq5 hb5 hs5
  go_wp2_with fail
  by_cases hHS : (decide (g1 = g2)) = S
  · have hgg : (g1.toList == g2.toList) = S := by rw [beq_dec, hHS]
    refine quiet_class (C := fun W => Below w6.heap.size w6 W) (by kernel_rfl) (by kernel_rfl) (below_drewN (Below.refl _ _) 1) ?_
    refine BigFrame.wpQuiet_want (by rfl) (fun K hK => q_call (v := .bool true) (f := 10) (args := #[]) (fun W => ?_) (fun W hW => ?_) (hK _ ?_))
    · go_simp
    · refine (haw W (hb6.trans (hW.mono hs6))).mono ?_
      rintro e w' ⟨rfl, hb'⟩
      exact ⟨rfl, hW.trans (hb'.mono hW.size)⟩
    simp only [Act.put, List.setIfInBounds_toArray, List.set_cons_zero, List.set_cons_succ]
    refine BigFrame.wpQuiet_want (by rfl) (fun K hK => q_pure (v := .bool false) (fun W => ?_) (hK _ ?_))
    · go_simp
    simp only [Act.put, List.setIfInBounds_toArray, List.set_cons_zero, List.set_cons_succ]
    go_big_quiet_step (fail)
    refine BigFrame.wpQuiet_want (by rfl) (fun K hK => q_load 38 (.tmp 5) rfl bx rfl 38 #[.int .u64 (s1 : Int), .string r1, .int .u64 (t1 : Int), .slice p m1 c] (0, 0) _ (fun W hW => (hW.block _ (lt_of_row hx)).trans hx) Tryd.underlying38 rfl (by kernel_rfl) (hK _ ?_))
    simp only [Act.put, List.setIfInBounds_toArray, List.set_cons_zero, List.set_cons_succ]
    refine BigFrame.wpQuiet_want (by rfl) (fun K hK => q_call (v := .string g1) (f := 20) (args := #[.agg #[.int .u64 (s1 : Int), .string r1, .int .u64 (t1 : Int), .slice p m1 c]]) (fun W => ?_) (fun W hW => ?_) (hK _ ?_))
    · go_simp
    · refine (kg1 W (hb6.trans (hW.mono hs6)) (hXp6.later hW)).mono ?_
      rintro e w' ⟨rfl, hb'⟩
      exact ⟨rfl, hW.trans (hb'.mono hW.size)⟩
    simp only [Act.put, List.setIfInBounds_toArray, List.set_cons_zero, List.set_cons_succ]
    refine BigFrame.wpQuiet_want (by rfl) (fun K hK => q_load 38 (.tmp 7) rfl bz rfl 38 #[.int .u64 (s2 : Int), .string r2, .int .u64 (t2 : Int), .slice p' m2 c'] (0, 0) _ (fun W hW => (hW.block _ (lt_of_row hz)).trans hz) Tryd.underlying38 rfl (by kernel_rfl) (hK _ ?_))
    simp only [Act.put, List.setIfInBounds_toArray, List.set_cons_zero, List.set_cons_succ]
    refine BigFrame.wpQuiet_want (by rfl) (fun K hK => q_call (v := .string g2) (f := 20) (args := #[.agg #[.int .u64 (s2 : Int), .string r2, .int .u64 (t2 : Int), .slice p' m2 c']]) (fun W => ?_) (fun W hW => ?_) (hK _ ?_))
    · go_simp
    · refine (kg2 W (hb6.trans (hW.mono hs6)) (hYp6.later hW)).mono ?_
      rintro e w' ⟨rfl, hb'⟩
      exact ⟨rfl, hW.trans (hb'.mono hW.size)⟩
    simp only [Act.put, List.setIfInBounds_toArray, List.set_cons_zero, List.set_cons_succ]
    refine BigFrame.wpQuiet_want (by rfl) (fun K hK => q_pure (v := .bool S) (fun W => ?_) (hK _ ?_))
    · go_simp
    simp only [Act.put, List.setIfInBounds_toArray, List.set_cons_zero, List.set_cons_succ]
    go_big_quiet_step (fail)
    refine BigFrame.wpQuiet_want (by rfl) (fun K hK => q_pure (v := .bool false) (fun W => ?_) (hK _ ?_))
    · go_simp
    simp only [Act.put, List.setIfInBounds_toArray, List.set_cons_zero, List.set_cons_succ]
    go_big_quiet_step (fail)
    go_big_quiet_step (fail)
    go_big_quiet_step (fail)
    go_big_quiet_step (fail)
    go_big_quiet_step (fail)
    go_big_quiet_step (fail)
    go_big_quiet_step (fail)
    go_big_quiet_step (fail)
    go_big_quiet_step (fail)
    go_big_quiet_step (fail)
    refine BigFrame.wpQuiet_want (by rfl) (fun K hK => q_pure (v := .bool false) (fun W => ?_) (hK _ ?_))
    · go_simp
    simp only [Act.put, List.setIfInBounds_toArray, List.set_cons_zero, List.set_cons_succ]
    refine BigFrame.wpQuiet_want (by rfl) (fun K hK => q_pure (v := .bool false) (fun W => ?_) (hK _ ?_))
    · go_simp
    simp only [Act.put, List.setIfInBounds_toArray, List.set_cons_zero, List.set_cons_succ]
    refine wpQuiet_nil ?_
    intro w7 hb67
    replace hx := (hb67.block _ (lt_of_row hx)).trans hx
    replace hy := (hb67.block _ (lt_of_row hy)).trans hy
    replace hz := (hb67.block _ (lt_of_row hz)).trans hz
    replace ht := (hb67.block _ (lt_of_row ht)).trans ht
    have hb7 := hb6.trans (hb67.mono hs6)
    have hs7 := hb7.size
    have hXq7 := hXq6.later hb67
    have hYq7 := hYq6.later hb67
    clear hb67
    go_wp2_with fail
    refine quiet_class (C := fun W => Below w7.heap.size w7 W) (by kernel_rfl) (by kernel_rfl) (below_drewN (Below.refl _ _) 1) ?_
    refine BigFrame.wpQuiet_want (by rfl) (fun K hK => q_load 41 (.tmp 6) rfl by1 rfl 41 #[.int .u64 (s1 : Int), .string r1, .int .u64 (t1 : Int), .slice q m1 d] (0, 0) _ (fun W hW => (hW.block _ (lt_of_row hy)).trans hy) Tryd.underlying41 rfl (by kernel_rfl) (hK _ ?_))
    simp only [Act.put, List.setIfInBounds_toArray, List.set_cons_zero, List.set_cons_succ]
    refine BigFrame.wpQuiet_want (by rfl) (fun K hK => q_call (v := .string f1) (f := 28) (args := #[.agg #[.int .u64 (s1 : Int), .string r1, .int .u64 (t1 : Int), .slice q m1 d]]) (fun W => ?_) (fun W hW => ?_) (hK _ ?_))
    · go_simp
    · refine (kf1 W (hb7.trans (hW.mono hs7)) (hXq7.later hW)).mono ?_
      rintro e w' ⟨rfl, hb'⟩
      exact ⟨rfl, hW.trans (hb'.mono hW.size)⟩
    simp only [Act.put, List.setIfInBounds_toArray, List.set_cons_zero, List.set_cons_succ]
    refine BigFrame.wpQuiet_want (by rfl) (fun K hK => q_load 41 (.tmp 8) rfl bt rfl 41 #[.int .u64 (s2 : Int), .string r2, .int .u64 (t2 : Int), .slice q' m2 d'] (0, 0) _ (fun W hW => (hW.block _ (lt_of_row ht)).trans ht) Tryd.underlying41 rfl (by kernel_rfl) (hK _ ?_))
    simp only [Act.put, List.setIfInBounds_toArray, List.set_cons_zero, List.set_cons_succ]
    refine BigFrame.wpQuiet_want (by rfl) (fun K hK => q_call (v := .string f2) (f := 28) (args := #[.agg #[.int .u64 (s2 : Int), .string r2, .int .u64 (t2 : Int), .slice q' m2 d']]) (fun W => ?_) (fun W hW => ?_) (hK _ ?_))
    · go_simp
    · refine (kf2 W (hb7.trans (hW.mono hs7)) (hYq7.later hW)).mono ?_
      rintro e w' ⟨rfl, hb'⟩
      exact ⟨rfl, hW.trans (hb'.mono hW.size)⟩
    simp only [Act.put, List.setIfInBounds_toArray, List.set_cons_zero, List.set_cons_succ]
    refine BigFrame.wpQuiet_want (by rfl) (fun K hK => q_pure (v := .bool Fr) (fun W => ?_) (hK _ ?_))
    · go_simp
    simp only [Act.put, List.setIfInBounds_toArray, List.set_cons_zero, List.set_cons_succ]
    go_big_quiet_step (fail)
    refine wpQuiet_nil ?_
    intro w8 hw8
    have b8 := hb7.trans (hw8.mono hs7)
    cases Fr with
    | false =>
      go_wp2
      go_ret
      exact ⟨rfl, b8⟩
    | true =>
      obtain rfl : S = true := hFS rfl
      go_wp2
      go_ret
      exact ⟨rfl, b8⟩
  · have hS0 : S = false := by
      cases S with
      | false => rfl
      | true => exact absurd (decide_eq_true (hSg rfl)) hHS
    have hg : g1 = g2 := by
      rw [hS0] at hHS
      by_cases e : g1 = g2
      · exact e
      · exact absurd (decide_eq_false e) hHS
    have hgg : (g1.toList == g2.toList) = true := by rw [beq_dec, decide_eq_true hg]
    have kco := kcol hg hS0
    subst hS0
    refine quiet_class (C := fun W => Below w6.heap.size w6 W) (by kernel_rfl) (by kernel_rfl) (below_drewN (Below.refl _ _) 1) ?_
    refine BigFrame.wpQuiet_want (by rfl) (fun K hK => q_call (v := .bool true) (f := 10) (args := #[]) (fun W => ?_) (fun W hW => ?_) (hK _ ?_))
    · go_simp
    · refine (haw W (hb6.trans (hW.mono hs6))).mono ?_
      rintro e w' ⟨rfl, hb'⟩
      exact ⟨rfl, hW.trans (hb'.mono hW.size)⟩
    simp only [Act.put, List.setIfInBounds_toArray, List.set_cons_zero, List.set_cons_succ]
    refine BigFrame.wpQuiet_want (by rfl) (fun K hK => q_pure (v := .bool false) (fun W => ?_) (hK _ ?_))
    · go_simp
    simp only [Act.put, List.setIfInBounds_toArray, List.set_cons_zero, List.set_cons_succ]
    go_big_quiet_step (fail)
    refine BigFrame.wpQuiet_want (by rfl) (fun K hK => q_load 38 (.tmp 5) rfl bx rfl 38 #[.int .u64 (s1 : Int), .string r1, .int .u64 (t1 : Int), .slice p m1 c] (0, 0) _ (fun W hW => (hW.block _ (lt_of_row hx)).trans hx) Tryd.underlying38 rfl (by kernel_rfl) (hK _ ?_))
    simp only [Act.put, List.setIfInBounds_toArray, List.set_cons_zero, List.set_cons_succ]
    refine BigFrame.wpQuiet_want (by rfl) (fun K hK => q_call (v := .string g1) (f := 20) (args := #[.agg #[.int .u64 (s1 : Int), .string r1, .int .u64 (t1 : Int), .slice p m1 c]]) (fun W => ?_) (fun W hW => ?_) (hK _ ?_))
    · go_simp
    · refine (kg1 W (hb6.trans (hW.mono hs6)) (hXp6.later hW)).mono ?_
      rintro e w' ⟨rfl, hb'⟩
      exact ⟨rfl, hW.trans (hb'.mono hW.size)⟩
    simp only [Act.put, List.setIfInBounds_toArray, List.set_cons_zero, List.set_cons_succ]
    refine BigFrame.wpQuiet_want (by rfl) (fun K hK => q_load 38 (.tmp 7) rfl bz rfl 38 #[.int .u64 (s2 : Int), .string r2, .int .u64 (t2 : Int), .slice p' m2 c'] (0, 0) _ (fun W hW => (hW.block _ (lt_of_row hz)).trans hz) Tryd.underlying38 rfl (by kernel_rfl) (hK _ ?_))
    simp only [Act.put, List.setIfInBounds_toArray, List.set_cons_zero, List.set_cons_succ]
    refine BigFrame.wpQuiet_want (by rfl) (fun K hK => q_call (v := .string g2) (f := 20) (args := #[.agg #[.int .u64 (s2 : Int), .string r2, .int .u64 (t2 : Int), .slice p' m2 c']]) (fun W => ?_) (fun W hW => ?_) (hK _ ?_))
    · go_simp
    · refine (kg2 W (hb6.trans (hW.mono hs6)) (hYp6.later hW)).mono ?_
      rintro e w' ⟨rfl, hb'⟩
      exact ⟨rfl, hW.trans (hb'.mono hW.size)⟩
    simp only [Act.put, List.setIfInBounds_toArray, List.set_cons_zero, List.set_cons_succ]
    refine BigFrame.wpQuiet_want (by rfl) (fun K hK => q_pure (v := .bool true) (fun W => ?_) (hK _ ?_))
    · go_simp
    simp only [Act.put, List.setIfInBounds_toArray, List.set_cons_zero, List.set_cons_succ]
    go_big_quiet_step (fail)
    refine BigFrame.wpQuiet_want (by rfl) (fun K hK => q_pure (v := .bool true) (fun W => ?_) (hK _ ?_))
    · go_simp
    simp only [Act.put, List.setIfInBounds_toArray, List.set_cons_zero, List.set_cons_succ]
    go_big_quiet_step (fail)
    refine BigFrame.wpQuiet_want (by rfl) (fun K hK => q_load 38 (.tmp 5) rfl bx rfl 38 #[.int .u64 (s1 : Int), .string r1, .int .u64 (t1 : Int), .slice p m1 c] (0, 0) _ (fun W hW => (hW.block _ (lt_of_row hx)).trans hx) Tryd.underlying38 rfl (by kernel_rfl) (hK _ ?_))
    simp only [Act.put, List.setIfInBounds_toArray, List.set_cons_zero, List.set_cons_succ]
    refine BigFrame.wpQuiet_want (by rfl) (fun K hK => q_call (v := .string h1) (f := 18) (args := #[.agg #[.int .u64 (s1 : Int), .string r1, .int .u64 (t1 : Int), .slice p m1 c]]) (fun W => ?_) (fun W hW => ?_) (hK _ ?_))
    · go_simp
    · refine (kh1 W (hb6.trans (hW.mono hs6)) (hXp6.later hW)).mono ?_
      rintro e w' ⟨rfl, hb'⟩
      exact ⟨rfl, hW.trans (hb'.mono hW.size)⟩
    simp only [Act.put, List.setIfInBounds_toArray, List.set_cons_zero, List.set_cons_succ]
    refine BigFrame.wpQuiet_want (by rfl) (fun K hK => q_pure (v := .string (⟨#[2]⟩ ++ h1)) (fun W => ?_) (hK _ ?_))
    · go_simp
      omega
    simp only [Act.put, List.setIfInBounds_toArray, List.set_cons_zero, List.set_cons_succ]
    refine BigFrame.wpQuiet_want (by rfl) (fun K hK => q_load 38 (.tmp 7) rfl bz rfl 38 #[.int .u64 (s2 : Int), .string r2, .int .u64 (t2 : Int), .slice p' m2 c'] (0, 0) _ (fun W hW => (hW.block _ (lt_of_row hz)).trans hz) Tryd.underlying38 rfl (by kernel_rfl) (hK _ ?_))
    simp only [Act.put, List.setIfInBounds_toArray, List.set_cons_zero, List.set_cons_succ]
    refine BigFrame.wpQuiet_want (by rfl) (fun K hK => q_call (v := .string h2) (f := 18) (args := #[.agg #[.int .u64 (s2 : Int), .string r2, .int .u64 (t2 : Int), .slice p' m2 c']]) (fun W => ?_) (fun W hW => ?_) (hK _ ?_))
    · go_simp
    · refine (kh2 W (hb6.trans (hW.mono hs6)) (hYp6.later hW)).mono ?_
      rintro e w' ⟨rfl, hb'⟩
      exact ⟨rfl, hW.trans (hb'.mono hW.size)⟩
    simp only [Act.put, List.setIfInBounds_toArray, List.set_cons_zero, List.set_cons_succ]
    refine BigFrame.wpQuiet_want (by rfl) (fun K hK => q_pure (v := .string (⟨#[2]⟩ ++ h2)) (fun W => ?_) (hK _ ?_))
    · go_simp
      omega
    simp only [Act.put, List.setIfInBounds_toArray, List.set_cons_zero, List.set_cons_succ]
    refine BigFrame.wpQuiet_want (by rfl) (fun K hK => q_pure (v := .agg #[.string (⟨#[2]⟩ ++ h1), .string (⟨#[2]⟩ ++ h2)]) (fun W => ?_) (hK _ ?_))
    · go_simp
    simp only [Act.put, List.setIfInBounds_toArray, List.set_cons_zero, List.set_cons_succ]
    refine BigFrame.wpQuiet_want (by rfl) (fun K hK => q_call (v := .bool true) (f := 33) (args := #[.agg #[.string (⟨#[2]⟩ ++ h1), .string (⟨#[2]⟩ ++ h2)]]) (fun W => ?_) (fun W hW => ?_) (hK _ ?_))
    · go_simp
    · refine (kco W (hb6.trans (hW.mono hs6))).mono ?_
      rintro e w' ⟨rfl, hb'⟩
      exact ⟨rfl, hW.trans (hb'.mono hW.size)⟩
    simp only [Act.put, List.setIfInBounds_toArray, List.set_cons_zero, List.set_cons_succ]
    refine BigFrame.wpQuiet_want (by rfl) (fun K hK => q_pure (v := .bool false) (fun W => ?_) (hK _ ?_))
    · go_simp
    simp only [Act.put, List.setIfInBounds_toArray, List.set_cons_zero, List.set_cons_succ]
    refine BigFrame.wpQuiet_want (by rfl) (fun K hK => q_pure (v := .bool false) (fun W => ?_) (hK _ ?_))
    · go_simp
    simp only [Act.put, List.setIfInBounds_toArray, List.set_cons_zero, List.set_cons_succ]
    refine BigFrame.wpQuiet_want (by rfl) (fun K hK => q_pure (v := .bool false) (fun W => ?_) (hK _ ?_))
    · go_simp
    simp only [Act.put, List.setIfInBounds_toArray, List.set_cons_zero, List.set_cons_succ]
    refine wpQuiet_nil ?_
    intro w7 hb67
    replace hx := (hb67.block _ (lt_of_row hx)).trans hx
    replace hy := (hb67.block _ (lt_of_row hy)).trans hy
    replace hz := (hb67.block _ (lt_of_row hz)).trans hz
    replace ht := (hb67.block _ (lt_of_row ht)).trans ht
    have hb7 := hb6.trans (hb67.mono hs6)
    have hs7 := hb7.size
    have hXq7 := hXq6.later hb67
    have hYq7 := hYq6.later hb67
    clear hb67
    go_wp2_with fail
    refine quiet_class (C := fun W => Below w7.heap.size w7 W) (by kernel_rfl) (by kernel_rfl) (below_drewN (Below.refl _ _) 1) ?_
    refine BigFrame.wpQuiet_want (by rfl) (fun K hK => q_load 41 (.tmp 6) rfl by1 rfl 41 #[.int .u64 (s1 : Int), .string r1, .int .u64 (t1 : Int), .slice q m1 d] (0, 0) _ (fun W hW => (hW.block _ (lt_of_row hy)).trans hy) Tryd.underlying41 rfl (by kernel_rfl) (hK _ ?_))
    simp only [Act.put, List.setIfInBounds_toArray, List.set_cons_zero, List.set_cons_succ]
    refine BigFrame.wpQuiet_want (by rfl) (fun K hK => q_call (v := .string f1) (f := 28) (args := #[.agg #[.int .u64 (s1 : Int), .string r1, .int .u64 (t1 : Int), .slice q m1 d]]) (fun W => ?_) (fun W hW => ?_) (hK _ ?_))
    · go_simp
    · refine (kf1 W (hb7.trans (hW.mono hs7)) (hXq7.later hW)).mono ?_
      rintro e w' ⟨rfl, hb'⟩
      exact ⟨rfl, hW.trans (hb'.mono hW.size)⟩
    simp only [Act.put, List.setIfInBounds_toArray, List.set_cons_zero, List.set_cons_succ]
    refine BigFrame.wpQuiet_want (by rfl) (fun K hK => q_load 41 (.tmp 8) rfl bt rfl 41 #[.int .u64 (s2 : Int), .string r2, .int .u64 (t2 : Int), .slice q' m2 d'] (0, 0) _ (fun W hW => (hW.block _ (lt_of_row ht)).trans ht) Tryd.underlying41 rfl (by kernel_rfl) (hK _ ?_))
    simp only [Act.put, List.setIfInBounds_toArray, List.set_cons_zero, List.set_cons_succ]
    refine BigFrame.wpQuiet_want (by rfl) (fun K hK => q_call (v := .string f2) (f := 28) (args := #[.agg #[.int .u64 (s2 : Int), .string r2, .int .u64 (t2 : Int), .slice q' m2 d']]) (fun W => ?_) (fun W hW => ?_) (hK _ ?_))
    · go_simp
    · refine (kf2 W (hb7.trans (hW.mono hs7)) (hYq7.later hW)).mono ?_
      rintro e w' ⟨rfl, hb'⟩
      exact ⟨rfl, hW.trans (hb'.mono hW.size)⟩
    simp only [Act.put, List.setIfInBounds_toArray, List.set_cons_zero, List.set_cons_succ]
    refine BigFrame.wpQuiet_want (by rfl) (fun K hK => q_pure (v := .bool Fr) (fun W => ?_) (hK _ ?_))
    · go_simp
    simp only [Act.put, List.setIfInBounds_toArray, List.set_cons_zero, List.set_cons_succ]
    go_big_quiet_step (fail)
    refine wpQuiet_nil ?_
    intro w8 hw8
    have b8 := hb7.trans (hw8.mono hs7)
    cases Fr with
    | false =>
      go_wp2
      go_ret
      exact ⟨rfl, b8⟩
    | true =>
      exact absurd (hFS rfl) (by simp)
end Go.Proofs.YtaocbkloafhmeaaDoor
