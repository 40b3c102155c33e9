/- The law BlockReads as a walk: of any bytes the call returns true, and nothing that was there has changed. -/
import Derived.Test.YtaocbkloafhmeaaDoorRrd
import Derived.Test.YtaocbkloafhmeaaDoorRea
import Derived.Test.YtaocbkloafhmeaaDoorAwk
import Derived.Test.YtaocbkloafhmeaaDoorFra
import Derived.Test.YtaocbkloafhmeaaDoorUbx
namespace Go.Proofs.YtaocbkloafhmeaaDoor
open Go.RowKit
theorem frameS_up (x : Bk) : ∀ {i n : Nat}, i ≤ n → (frameS x i).size ≤ (frameS x n).size
  | i, 0, h => by
    obtain rfl : i = 0 := by omega
    exact Nat.le_refl _
  | i, n + 1, h => by
    by_cases e : i = n + 1
    · rw [e]; exact Nat.le_refl _
    · have h1 := frameS_up x (i := i) (n := n) (by omega)
      have h2 : frameS x (n + 1) = frameS x n ++ metaT (x.R n) := rfl
      rw [h2, ByteArray.size_append]
      omega
theorem readX_fit {s : ByteArray} (hs : s.size ≤ 1125899906842624) : (readX s).fit ∧ (readX s).n ≤ 64 :=
  ⟨⟨uintA_lt (Nat.zero_le _), uintA_lt (textA_o (uintA_o (Nat.zero_le _))), Nat.le_trans textA_sz hs⟩, countA_v⟩
theorem readE_zero {s : ByteArray} (h : readE s = 0) : endE s = 0 := by
  unfold readE at h
  by_cases h0 : endE s = 0
  · exact h0
  · rw [if_pos h0] at h
    exact h
set_option maxRecDepth 100000 in
set_option maxHeartbeats 8000000 in
theorem reads_core (s0 s : ByteArray) (hcut : (2000 < s0.size ∧ s = s0.extract 0 2000) ∨ (s0.size ≤ 2000 ∧ s = s0)) (hs : s.size ≤ 2000) (w : World) (hw : 3 ≤ w.heap.size) (hG : GL w) (hD : GD w) :
    Calls Tryd.prog 6 #[.string s0] w fun e w' => e = .returned (.bool true) ∧ Below w.heap.size w w' := by
  have hs1 : s.size ≤ 1125899906842624 := by omega
  have k1 := fun W hG => read_any s hs1 W hG
  have k2 := fun W => rread_any s hs1 W
  obtain ⟨hfit, hn64⟩ := readX_fit hs1
  have hzero := @readE_zero s
  have hag := @frame_again s
  obtain ⟨RE, hRE⟩ : ∃ x, readE s = x := ⟨_, rfl⟩
  rw [hRE] at k1 k2 hzero
  have HZ : Hid (RE = 0 → endE s = 0) := hzero
  clear hzero
  have HK1 : Hid (∀ W, GL W → Calls Tryd.prog 29 #[.string s] W fun e w' => ∃ (X : Bk) (q : Option Addr) (d : Nat), e = .returned (.tuple #[X.val q d, .int .i64 RE]) ∧ (RE = 0 → X = readX s ∧ Revs w' q X.n d X.R) ∧ (RE ≠ 0 → X = ⟨0, ⟨#[]⟩, 0, 0, rrv s⟩ ∧ q = none ∧ d = 0) ∧ Below W.heap.size W w') := k1
  clear k1 hRE
  rcases hcut with ⟨hbig, hse⟩ | ⟨hsm, rfl⟩
  · have hbig' : (2000 : Int) < (s0.size : Int) := by omega
    have hslice : s0.extract 0 2000 = s := hse.symm
    clear hse
    go_enter Tryd.func6, Tryd.ntmps6
    go_wp2_with fail
    refine (HK1.out _ hG).mono ?_
    rintro e w1 ⟨X, q, d, rfl, hX1, hX2, hb1⟩
    obtain ⟨xq, hxv⟩ : ∃ xq, X.val q d = .agg #[.int .u64 (X.seq : Int), .string X.prev, .int .u64 (X.tx : Int), .slice q X.n d] := ⟨0, rfl⟩
    rw [hxv]
    clear hxv
    have hs1' := hb1.size
    go_wp2_with fail
    refine (k2 _).mono ?_
    rintro e w2 ⟨Y, q', d', rfl, hY1, hb2⟩
    rw [show Y.val q' d' = .agg #[.int .u64 (Y.seq : Int), .string Y.prev, .int .u64 (Y.tx : Int), .slice q' Y.n d'] from rfl]
    obtain ⟨w3, hw3⟩ : ∃ w3, w2.alloc (.cells #[.int .u64 (Y.seq : Int), .string Y.prev, .int .u64 (Y.tx : Int), .slice q' Y.n d'] 41) = w3 := ⟨_, rfl⟩
    have b1a : Below w1.heap.size w1 (w1.alloc (.cells #[.int .u64 (X.seq : Int), .string X.prev, .int .u64 (X.tx : Int), .slice q X.n d] 38)) := (Below.refl _ _).alloc (Nat.le_refl _) _
    have rx : w2.heap[w1.heap.size]? = some (.cells #[.int .u64 (X.seq : Int), .string X.prev, .int .u64 (X.tx : Int), .slice q X.n d] 38 (0, 0)) := cell_later4 hb2 (heap_alloc_new _ _)
    have b12 : Below w1.heap.size w1 w2 := b1a.trans (hb2.mono (by simp))
    have b23 : Below w2.heap.size w2 w3 := by rw [← hw3]; exact (Below.refl _ _).alloc (Nat.le_refl _) _
    have ry : w3.heap[w2.heap.size]? = some (.cells #[.int .u64 (Y.seq : Int), .string Y.prev, .int .u64 (Y.tx : Int), .slice q' Y.n d'] 41 (0, 0)) := by rw [← hw3]; exact heap_alloc_new _ _
    have rx3 := cell_later4 b23 rx
    have b13 := b12.trans (b23.mono b12.size)
    have b03 := hb1.trans (b13.mono hb1.size)
    have s03 := b03.size
    clear b1a rx
    go_wp2_with fail
    refine (awake_any w3 (by omega) (hG.later b03) (hD.later b03)).mono ?_
    rintro e w4 ⟨rfl, hb4⟩
    have rx4 := cell_later4 hb4 rx3
    have ry4 := cell_later4 hb4 ry
    have b04 := b03.trans (hb4.mono s03)
    obtain ⟨bx, hbx⟩ : ∃ b, w1.heap.size = b := ⟨_, rfl⟩
    obtain ⟨by', hby⟩ : ∃ b, w2.heap.size = b := ⟨_, rfl⟩
    rw [hbx] at rx4
    rw [hby] at ry4
    simp only [hbx, hby]
    have x0 := cell_of_row w4 bx 0 _ _ _ rx4
    have x1 := cell_of_row w4 bx 1 _ _ _ rx4
    have x2 := cell_of_row w4 bx 2 _ _ _ rx4
    have x3 := cell_of_row w4 bx 3 _ _ _ rx4
    clear hw3 rx3 ry hbx hby
    by_cases hR : RE = 0
    · obtain ⟨rfl, hRX⟩ := hX1 hR
      obtain ⟨rfl, hRY⟩ := hY1 hR
      have hft := hag (HZ.out hR)
      subst hR
      have kf := fun W hX => frame_any (readX s) hfit (by omega) (fun i hi => by have h1 := frameS_up (readX s) hi; have h2 : frameS (readX s) (readX s).n = frameT (readX s) := rfl; rw [h2, hft] at h1; omega) q d W hX
      have kg := fun W hX => rframe_any (readX s) hfit (by omega) q' d' W hX
      rw [hft] at kf kg
      simp only [show ∀ q d, (readX s).val q d = .agg #[.int .u64 ((readX s).seq : Int), .string (readX s).prev, .int .u64 ((readX s).tx : Int), .slice q (readX s).n d] from fun _ _ => rfl] at kf kg
      have hRX4 := (hRX.later b13).later hb4
      have hRY4 := (hRY.later b23).later hb4
      obtain ⟨⟨zs, zp, zt, zn, zR⟩, hZ⟩ : ∃ Z, readX s = Z := ⟨_, rfl⟩
      simp only [hZ] at x0 x1 x2 x3 rx4 ry4 kf kg hRX4 hRY4 ⊢
      clear hX1 hX2 hY1 hft hag HZ hRX hRY hZ hfit hn64
      go_wp2_with fail
      refine (kf _ hRX4).mono ?_
      rintro e w5 ⟨rfl, hb5⟩
      have ry5 := cell_later4 hb5 ry4
      have y0 := cell_of_row w5 by' 0 _ _ _ ry5
      have y1 := cell_of_row w5 by' 1 _ _ _ ry5
      have y2 := cell_of_row w5 by' 2 _ _ _ ry5
      have y3 := cell_of_row w5 by' 3 _ _ _ ry5
      have hRY5 := hRY4.later hb5
      have b05 := b04.trans (hb5.mono b04.size)
      go_wp2_with fail
      refine (kg _ hRY5).mono ?_
      rintro e w6 ⟨rfl, hb6⟩
      go_wp2
      go_ret
      exact ⟨rfl, b05.trans (hb6.mono b05.size)⟩
    · obtain ⟨rfl, rfl, rfl⟩ := hX2 hR
      have hRd : decide (RE = 0) = false := decide_eq_false hR
      have hRb : (RE != 0) = true := by simpa using hR
      simp only at x0 x1 x2 x3
      clear hX1 hX2 hY1
      go_wp2
      go_ret
      exact ⟨rfl, b04⟩
  · have hsm' : ¬ (2000 : Int) < (s.size : Int) := by omega
    have hsd : decide ((2000 : Int) < (s.size : Int)) = false := decide_eq_false hsm'
    go_enter Tryd.func6, Tryd.ntmps6
    go_wp2_with fail
    refine (HK1.out _ hG).mono ?_
    rintro e w1 ⟨X, q, d, rfl, hX1, hX2, hb1⟩
    obtain ⟨xq, hxv⟩ : ∃ xq, X.val q d = .agg #[.int .u64 (X.seq : Int), .string X.prev, .int .u64 (X.tx : Int), .slice q X.n d] := ⟨0, rfl⟩
    rw [hxv]
    clear hxv
    have hs1' := hb1.size
    go_wp2_with fail
    refine (k2 _).mono ?_
    rintro e w2 ⟨Y, q', d', rfl, hY1, hb2⟩
    rw [show Y.val q' d' = .agg #[.int .u64 (Y.seq : Int), .string Y.prev, .int .u64 (Y.tx : Int), .slice q' Y.n d'] from rfl]
    obtain ⟨w3, hw3⟩ : ∃ w3, w2.alloc (.cells #[.int .u64 (Y.seq : Int), .string Y.prev, .int .u64 (Y.tx : Int), .slice q' Y.n d'] 41) = w3 := ⟨_, rfl⟩
    have b1a : Below w1.heap.size w1 (w1.alloc (.cells #[.int .u64 (X.seq : Int), .string X.prev, .int .u64 (X.tx : Int), .slice q X.n d] 38)) := (Below.refl _ _).alloc (Nat.le_refl _) _
    have rx : w2.heap[w1.heap.size]? = some (.cells #[.int .u64 (X.seq : Int), .string X.prev, .int .u64 (X.tx : Int), .slice q X.n d] 38 (0, 0)) := cell_later4 hb2 (heap_alloc_new _ _)
    have b12 : Below w1.heap.size w1 w2 := b1a.trans (hb2.mono (by simp))
    have b23 : Below w2.heap.size w2 w3 := by rw [← hw3]; exact (Below.refl _ _).alloc (Nat.le_refl _) _
    have ry : w3.heap[w2.heap.size]? = some (.cells #[.int .u64 (Y.seq : Int), .string Y.prev, .int .u64 (Y.tx : Int), .slice q' Y.n d'] 41 (0, 0)) := by rw [← hw3]; exact heap_alloc_new _ _
    have rx3 := cell_later4 b23 rx
    have b13 := b12.trans (b23.mono b12.size)
    have b03 := hb1.trans (b13.mono hb1.size)
    have s03 := b03.size
    clear b1a rx
    go_wp2_with fail
    refine (awake_any w3 (by omega) (hG.later b03) (hD.later b03)).mono ?_
    rintro e w4 ⟨rfl, hb4⟩
    have rx4 := cell_later4 hb4 rx3
    have ry4 := cell_later4 hb4 ry
    have b04 := b03.trans (hb4.mono s03)
    obtain ⟨bx, hbx⟩ : ∃ b, w1.heap.size = b := ⟨_, rfl⟩
    obtain ⟨by', hby⟩ : ∃ b, w2.heap.size = b := ⟨_, rfl⟩
    rw [hbx] at rx4
    rw [hby] at ry4
    simp only [hbx, hby]
    have x0 := cell_of_row w4 bx 0 _ _ _ rx4
    have x1 := cell_of_row w4 bx 1 _ _ _ rx4
    have x2 := cell_of_row w4 bx 2 _ _ _ rx4
    have x3 := cell_of_row w4 bx 3 _ _ _ rx4
    clear hw3 rx3 ry hbx hby
    by_cases hR : RE = 0
    · obtain ⟨rfl, hRX⟩ := hX1 hR
      obtain ⟨rfl, hRY⟩ := hY1 hR
      have hft := hag (HZ.out hR)
      subst hR
      have kf := fun W hX => frame_any (readX s) hfit (by omega) (fun i hi => by have h1 := frameS_up (readX s) hi; have h2 : frameS (readX s) (readX s).n = frameT (readX s) := rfl; rw [h2, hft] at h1; omega) q d W hX
      have kg := fun W hX => rframe_any (readX s) hfit (by omega) q' d' W hX
      rw [hft] at kf kg
      simp only [show ∀ q d, (readX s).val q d = .agg #[.int .u64 ((readX s).seq : Int), .string (readX s).prev, .int .u64 ((readX s).tx : Int), .slice q (readX s).n d] from fun _ _ => rfl] at kf kg
      have hRX4 := (hRX.later b13).later hb4
      have hRY4 := (hRY.later b23).later hb4
      obtain ⟨⟨zs, zp, zt, zn, zR⟩, hZ⟩ : ∃ Z, readX s = Z := ⟨_, rfl⟩
      simp only [hZ] at x0 x1 x2 x3 rx4 ry4 kf kg hRX4 hRY4 ⊢
      clear hX1 hX2 hY1 hft hag HZ hRX hRY hZ hfit hn64
      go_wp2_with fail
      refine (kf _ hRX4).mono ?_
      rintro e w5 ⟨rfl, hb5⟩
      have ry5 := cell_later4 hb5 ry4
      have y0 := cell_of_row w5 by' 0 _ _ _ ry5
      have y1 := cell_of_row w5 by' 1 _ _ _ ry5
      have y2 := cell_of_row w5 by' 2 _ _ _ ry5
      have y3 := cell_of_row w5 by' 3 _ _ _ ry5
      have hRY5 := hRY4.later hb5
      have b05 := b04.trans (hb5.mono b04.size)
      go_wp2_with fail
      refine (kg _ hRY5).mono ?_
      rintro e w6 ⟨rfl, hb6⟩
      go_wp2
      go_ret
      exact ⟨rfl, b05.trans (hb6.mono b05.size)⟩
    · obtain ⟨rfl, rfl, rfl⟩ := hX2 hR
      have hRd : decide (RE = 0) = false := decide_eq_false hR
      have hRb : (RE != 0) = true := by simpa using hR
      simp only at x0 x1 x2 x3
      clear hX1 hX2 hY1
      go_wp2
      go_ret
      exact ⟨rfl, b04⟩
theorem reads_walk (s : ByteArray) (w : World) (hw : 3 ≤ w.heap.size) (hG : GL w) (hD : GD w) : Calls Tryd.prog 6 #[.string s] w fun e w' => e = .returned (.bool true) ∧ Below w.heap.size w w' := by
  by_cases h : s.size ≤ 2000
  · exact reads_core s s (Or.inr ⟨h, rfl⟩) h w hw hG hD
  · exact reads_core s (s.extract 0 2000) (Or.inl ⟨by omega, rfl⟩) (by rw [ByteArray.size_extract]; omega) w hw hG hD
end Go.Proofs.YtaocbkloafhmeaaDoor
