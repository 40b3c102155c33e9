/- ValueOwn called: true, and nothing that was there is changed. -/
import Derived.Test.YtjmjlijmeahmfaaOwn
namespace Go.Proofs.Ytjmjlijmeahmfaa
open Go.RowKit
theorem same_self {B : Nat} {W : World} {t : Tr} {x y : Ad} (hL : Lies B W t x) (hL' : Lies B W t y) (hB : B ≤ W.heap.size) :
    Calls Try.prog 17 #[.agg #[.int .i64 t.k, .bool t.b, .int .i64 t.n, .string t.s, .slice x.pa t.m x.pc, .slice x.na t.q x.nc], .agg #[.int .i64 t.k, .bool t.b, .int .i64 t.n, .string t.s, .slice y.pa t.m y.pc, .slice y.na t.q y.nc]] W fun e w' => e = .returned (.bool true) ∧ Below W.heap.size W w' := by
  have h := same_all t t B W x y hL hL' hB
  rw [cmpT_self] at h
  exact h
set_option maxRecDepth 100000 in
set_option maxHeartbeats 8000000 in
theorem own_any {B : Nat} {w : World} {t : Tr} {x : Ad} (hL : Lies B w t x) (hB : B ≤ w.heap.size) (s : ByteArray) (hs : s.size ≤ maxLen) (b : Bool) :
    Calls Try.prog 8 #[t.val x, .string s, .bool b] w fun e w' => e = .returned (.bool true) ∧ Below w.heap.size w w' := by
  have p0 := fld0
  have p1 := fld1
  have p2 := fld2
  have p3 := fld3
  have hlim := hL.lims
  obtain ⟨pa, pc, na, nc⟩ := x
  show Calls Try.prog 8 #[.agg #[.int .i64 t.k, .bool t.b, .int .i64 t.n, .string t.s, .slice pa t.m pc, .slice na t.q nc], .string s, .bool b] w _
  have HCUT : Hid (∀ W : World, Below w.heap.size w W → Calls Try.prog 9 #[.agg #[.int .i64 t.k, .bool t.b, .int .i64 t.n, .string t.s, .slice pa t.m pc, .slice na t.q nc], .int .i64 4, .int .i64 5] W fun e w' => ∃ A, e = .returned ((cutT t 4 5).val A) ∧ LiesS (fun k => k < B ∨ (W.heap.size ≤ k ∧ k < w'.heap.size)) w' (cutT t 4 5) A ∧ Below W.heap.size W w') := fun W hb =>
    cut_all t B W ⟨pa, pc, na, nc⟩ 4 5 (hL.later (hb.mono hB)) (Nat.le_trans hB hb.size) (by decide) (by decide)
  obtain ⟨c, hc⟩ : ∃ c, cutT t 4 5 = c := ⟨_, rfl⟩
  have hsl : slimq c := by rw [← hc]; exact slimq_cut t 4 5 (by decide)
  have hsm : small c := by rw [← hc]; exact small_cut t 4 5
  rw [hc] at HCUT
  have hn1 := hlim.2.1
  obtain ⟨n, hn⟩ : ∃ n, t.n = n := ⟨_, rfl⟩
  rw [hn] at HCUT hn1 ⊢
  obtain ⟨k, hk⟩ : ∃ k, t.k = k := ⟨_, rfl⟩
  rw [hk] at HCUT ⊢
  have HCL : Hid (CloneC c) := clone_all c hsl
  have HSM : Hid (small c) := hsm
  have HN : Hid (-9223372036854775808 ≤ n ∧ n < 9223372036854775808) := hn1
  have HS : Hid (s.size ≤ maxLen) := hs
  clear hlim hL hsl hsm hc hn hk hn1 hs
  have vi : ∀ W : World, Calls Try.prog 25 #[.int .i64 n] W fun r w' => r = .returned (.agg #[.int .i64 2, .bool false, .int .i64 n, .string ⟨#[]⟩, .slice none 0 0, .slice none 0 0]) ∧ Below W.heap.size W w' := fun W => vint n W
  have vs : ∀ W : World, Calls Try.prog 32 #[.string s] W fun r w' => r = .returned (.agg #[.int .i64 3, .bool false, .int .i64 0, .string s, .slice none 0 0, .slice none 0 0]) ∧ Below W.heap.size W w' := fun W => vstr s W
  have vb : ∀ W : World, Calls Try.prog 33 #[.string s] W fun r w' => r = .returned (.agg #[.int .i64 4, .bool false, .int .i64 0, .string s, .slice none 0 0, .slice none 0 0]) ∧ Below W.heap.size W w' := fun W => vbytes s W
  have vo : ∀ W : World, Calls Try.prog 34 #[.bool b] W fun r w' => r = .returned (.agg #[.int .i64 1, .bool b, .int .i64 0, .string ⟨#[]⟩, .slice none 0 0, .slice none 0 0]) ∧ Below W.heap.size W w' := fun W => vbool b W
  have vz : ∀ W : World, Calls Try.prog 35 #[] W fun r w' => r = .returned (.agg #[.int .i64 0, .bool false, .int .i64 0, .string ⟨#[]⟩, .slice none 0 0, .slice none 0 0]) ∧ Below W.heap.size W w' := fun W => vnone W
  go_enter Try.func8, Try.ntmps8
  go_wp2_with fail
  have b1 : Below w.heap.size w (w.alloc (.cells #[.int .i64 k, .bool t.b, .int .i64 n, .string t.s, .slice pa t.m pc, .slice na t.q nc] 25)) := (Below.refl _ w).alloc (Nat.le_refl _) _
  refine (HCUT.out _ b1).mono ?_
  rintro e w1 ⟨A1, he, hL1, hb1⟩
  replace he : e = .returned (.agg #[.int .i64 c.k, .bool c.b, .int .i64 c.n, .string c.s, .slice A1.pa c.m A1.pc, .slice A1.na c.q A1.nc]) := he
  subst he
  have B1 : Below w.heap.size w w1 := b1.trans (hb1.mono (by simp))
  have hs1 : w.heap.size + 1 ≤ w1.heap.size := by have := hb1.size; simpa using this
  have hL1' : Lies w1.heap.size w1 c A1 := hL1.up (fun k1 hk1 => by rcases hk1 with h | h; omega; exact h.2)
  clear hL1 hb1 b1 HCUT
  go_wp2_with fail
  have q2 := heap_alloc_new w1 (.cells #[.int .i64 c.k, .bool c.b, .int .i64 c.n, .string c.s, .slice A1.pa c.m A1.pc, .slice A1.na c.q A1.nc] 25)
  have b2 : Below w1.heap.size w1 (w1.alloc (.cells #[.int .i64 c.k, .bool c.b, .int .i64 c.n, .string c.s, .slice A1.pa c.m A1.pc, .slice A1.na c.q A1.nc] 25)) := (Below.refl _ w1).alloc (Nat.le_refl _) _
  refine (HCL.out w1.heap.size _ A1 (hL1'.later b2) (by simp)).mono ?_
  rintro e w3 ⟨A3, he, hL3, hb3⟩
  replace he : e = .returned (.agg #[.int .i64 c.k, .bool c.b, .int .i64 c.n, .string c.s, .slice A3.pa c.m A3.pc, .slice A3.na c.q A3.nc]) := he
  subst he
  have hs3 : w1.heap.size + 1 ≤ w3.heap.size := by have := hb3.size; simpa using this
  have v3 := (hb3.block w1.heap.size (by simp)).trans q2
  have B13 : Below w1.heap.size w1 w3 := b2.trans (hb3.mono (by simp))
  have hL3' : Lies w3.heap.size w3 c A3 := hL3.up (fun k1 hk1 => hk1.2)
  have hL1'' : Lies w3.heap.size w3 c A1 := (hL1'.later B13).up (by omega)
  have B3 : Below w.heap.size w w3 := B1.trans (B13.mono (by omega))
  clear q2 b2 hb3 hL3 hL1' B13 B1 HCL
  go_wp2_with fail
  obtain ⟨W4, hW4⟩ : ∃ W4, w3.alloc (.cells #[.int .i64 c.k, .bool c.b, .int .i64 c.n, .string c.s, .slice A3.pa c.m A3.pc, .slice A3.na c.q A3.nc] 25) = W4 := ⟨_, rfl⟩
  have c4 : W4.heap[w3.heap.size]? = some (.cells #[.int .i64 c.k, .bool c.b, .int .i64 c.n, .string c.s, .slice A3.pa c.m A3.pc, .slice A3.na c.q A3.nc] 25 (0, 0)) := by rw [← hW4]; exact heap_alloc_new _ _
  have b34 : Below w3.heap.size w3 W4 := by rw [← hW4]; exact (Below.refl _ _).alloc (Nat.le_refl _) _
  have hs4 : W4.heap.size = w3.heap.size + 1 := by rw [← hW4]; simp
  rw [hW4]
  clear hW4
  refine (awake_any W4).mono ?_
  rintro e w5 ⟨rfl, hb5⟩
  have hs5 := hb5.size
  have B35 : Below w3.heap.size w3 w5 := b34.trans (hb5.mono (by omega))
  have v5 := (B35.block w1.heap.size (by omega)).trans v3
  have c5 := (hb5.block w3.heap.size (by omega)).trans c4
  have B5 : Below w.heap.size w w5 := B3.trans (B35.mono (by omega))
  have HLa : Hid (Lies w3.heap.size w5 c A1) := hL1''.later B35
  have HLb : Hid (Lies w3.heap.size w5 c A3) := hL3'.later B35
  clear hL1'' hL3' b34 hb5 c4 v3 B35 B3
  have a0 := cell_of_row w5 _ 0 _ _ _ v5
  have a1 := cell_of_row w5 _ 1 _ _ _ v5
  have a2 := cell_of_row w5 _ 2 _ _ _ v5
  have a3 := cell_of_row w5 _ 3 _ _ _ v5
  have a4 := cell_of_row w5 _ 4 _ _ _ v5
  have a5 := cell_of_row w5 _ 5 _ _ _ v5
  go_wp2_with fail
  refine (check_any HLa.out (by omega) HSM.out).mono ?_
  rintro e w6 ⟨rfl, hb6⟩
  have hs6 := hb6.size
  have v6 := (hb6.block w1.heap.size (by omega)).trans v5
  have c6 := (hb6.block w3.heap.size (by omega)).trans c5
  have B6 : Below w.heap.size w w6 := B5.trans (hb6.mono (by omega))
  have HLc : Hid (Lies w3.heap.size w6 c A1) := HLa.out.later (hb6.mono (by omega))
  have HLd : Hid (Lies w3.heap.size w6 c A3) := HLb.out.later (hb6.mono (by omega))
  clear a0 a1 a2 a3 a4 a5 hb6 v5 c5 B5 HLa HLb
  have a0 := cell_of_row w6 _ 0 _ _ _ v6
  have a1 := cell_of_row w6 _ 1 _ _ _ v6
  have a2 := cell_of_row w6 _ 2 _ _ _ v6
  have a3 := cell_of_row w6 _ 3 _ _ _ v6
  have a4 := cell_of_row w6 _ 4 _ _ _ v6
  have a5 := cell_of_row w6 _ 5 _ _ _ v6
  have d0 := cell_of_row w6 _ 0 _ _ _ c6
  have d1 := cell_of_row w6 _ 1 _ _ _ c6
  have d2 := cell_of_row w6 _ 2 _ _ _ c6
  have d3 := cell_of_row w6 _ 3 _ _ _ c6
  have d4 := cell_of_row w6 _ 4 _ _ _ c6
  have d5 := cell_of_row w6 _ 5 _ _ _ c6
  obtain ⟨ck, hck⟩ : ∃ ck, checkT c = ck := ⟨_, rfl⟩
  rw [hck]
  clear hck
  by_cases hck0 : ck = 0
  · subst hck0
    go_wp2_with fail
    refine (same_self HLc.out HLd.out (by omega)).mono ?_
    rintro e w7 ⟨rfl, hb7⟩
    have hs7 := hb7.size
    have v7 := (hb7.block w1.heap.size (by omega)).trans v6
    have c7 := (hb7.block w3.heap.size (by omega)).trans c6
    have B7 : Below w.heap.size w w7 := B6.trans (hb7.mono (by omega))
    clear a0 a1 a2 a3 a4 a5 d0 d1 d2 d3 d4 d5 hb7 v6 c6 B6 HLc HLd
    have a4 := cell_of_row w7 _ 4 _ _ _ v7
    have d4 := cell_of_row w7 _ 4 _ _ _ c7
    go_wp2_with fail
    clear a4 d4 v7 c7
    refine (vi w7).mono ?_
    rintro e w8 ⟨rfl, hb8⟩
    have hs8 := hb8.size
    have B8 : Below w.heap.size w w8 := B7.trans (hb8.mono (by omega))
    clear hb8
    go_wp2_with fail
    refine (vs w8).mono ?_
    rintro e w9 ⟨rfl, hb9⟩
    have hs9 := hb9.size
    have B9 : Below w.heap.size w w9 := B8.trans (hb9.mono (by omega))
    clear hb9 B8
    go_wp2_with fail
    obtain ⟨W10, hW10⟩ : ∃ W10, w9.alloc (.cells #[.int .i64 2, .bool false, .int .i64 n, .string ⟨#[]⟩, .slice none 0 0, .slice none 0 0, .int .i64 3, .bool false, .int .i64 0, .string s, .slice none 0 0, .slice none 0 0] 25) = W10 := ⟨_, rfl⟩
    have r10 : W10.heap[w9.heap.size]? = some (.cells #[.int .i64 2, .bool false, .int .i64 n, .string ⟨#[]⟩, .slice none 0 0, .slice none 0 0, .int .i64 3, .bool false, .int .i64 0, .string s, .slice none 0 0, .slice none 0 0] 25 (0, 0)) := by rw [← hW10]; exact heap_alloc_new _ _
    have b10 : Below w9.heap.size w9 W10 := by rw [← hW10]; exact (Below.refl _ _).alloc (Nat.le_refl _) _
    have hs10 : W10.heap.size = w9.heap.size + 1 := by rw [← hW10]; simp
    have B10 : Below w.heap.size w W10 := B9.trans (b10.mono (by omega))
    rw [hW10]
    clear hW10 b10 B9
    refine (list2 (B := w9.heap.size + 1) (f := fun i => if i = 0 then leafT 2 false n ⟨#[]⟩ else leafT 3 false 0 s) (A := fun _ => ⟨none, 0, none, 0⟩) (by omega) (by omega) (fun i hi => ?_) (fun i hi => ?_) (fun i hi => ?_)).mono ?_
    · have : i = 0 ∨ i = 1 := by omega
      rcases this with rfl | rfl
      · exact ⟨cell_of_row W10 _ 0 _ _ _ r10, cell_of_row W10 _ 1 _ _ _ r10, cell_of_row W10 _ 2 _ _ _ r10, cell_of_row W10 _ 3 _ _ _ r10, cell_of_row W10 _ 4 _ _ _ r10, cell_of_row W10 _ 5 _ _ _ r10⟩
      · exact ⟨cell_of_row W10 _ 6 _ _ _ r10, cell_of_row W10 _ 7 _ _ _ r10, cell_of_row W10 _ 8 _ _ _ r10, cell_of_row W10 _ 9 _ _ _ r10, cell_of_row W10 _ 10 _ _ _ r10, cell_of_row W10 _ 11 _ _ _ r10⟩
    · have : i = 0 ∨ i = 1 := by omega
      rcases this with rfl | rfl
      · exact lies_leaf (by decide) HN.out (Nat.zero_le _)
      · exact lies_leaf (by decide) (by decide) HS.out
    · have : i = 0 ∨ i = 1 := by omega
      rcases this with rfl | rfl
      · exact slimq_leaf _ _ _ _
      · exact slimq_leaf _ _ _ _
    rintro e w11 ⟨lb, A11, rfl, hlb, h6, hb11⟩
    have h61 := (h6 1 (by decide)).c3
    replace h61 : w11.cell? ⟨lb, 9, none⟩ = some (.string s) := h61
    have hs11 := hb11.size
    have B11 : Below w.heap.size w w11 := B10.trans (hb11.mono (by omega))
    clear h6 hb11 B10 r10
    go_wp2_with fail
    obtain ⟨W12, hW12⟩ : ∃ W12, w11.alloc (.cells #[.int .i64 5, .bool false, .int .i64 0, .string ⟨#[]⟩, .slice (some ⟨lb, 0, none⟩) 2 2, .slice none 0 0] 25) = W12 := ⟨_, rfl⟩
    have r12 : W12.heap[w11.heap.size]? = some (.cells #[.int .i64 5, .bool false, .int .i64 0, .string ⟨#[]⟩, .slice (some ⟨lb, 0, none⟩) 2 2, .slice none 0 0] 25 (0, 0)) := by rw [← hW12]; exact heap_alloc_new _ _
    have b12 : Below w11.heap.size w11 W12 := by rw [← hW12]; exact (Below.refl _ _).alloc (Nat.le_refl _) _
    have hs12 : W12.heap.size = w11.heap.size + 1 := by rw [← hW12]; simp
    have s12 := cell_later h61 hlb b12
    have B12 : Below w.heap.size w W12 := B11.trans (b12.mono (by omega))
    rw [hW12]
    clear hW12 b12 B11 h61
    refine (vi W12).mono ?_
    rintro e x1 ⟨rfl, hx1⟩
    have hz1 := hx1.size
    go_wp2_with fail
    refine (vs x1).mono ?_
    rintro e x2 ⟨rfl, hx2⟩
    have hz2 := hx2.size
    have X2 : Below W12.heap.size W12 x2 := hx1.trans (hx2.mono (by omega))
    clear hx1 hx2
    go_wp2_with fail
    refine (vs x2).mono ?_
    rintro e x3 ⟨rfl, hx3⟩
    have hz3 := hx3.size
    have X3 : Below W12.heap.size W12 x3 := X2.trans (hx3.mono (by omega))
    clear hx3 X2
    go_wp2_with fail
    refine (vb x3).mono ?_
    rintro e x4 ⟨rfl, hx4⟩
    have hz4 := hx4.size
    have X4 : Below W12.heap.size W12 x4 := X3.trans (hx4.mono (by omega))
    clear hx4 X3
    go_wp2_with fail
    refine (vo x4).mono ?_
    rintro e x5 ⟨rfl, hx5⟩
    have hz5 := hx5.size
    have X5 : Below W12.heap.size W12 x5 := X4.trans (hx5.mono (by omega))
    clear hx5 X4
    go_wp2_with fail
    refine (vz x5).mono ?_
    rintro e x6 ⟨rfl, hx6⟩
    have hz6 := hx6.size
    have X6 : Below W12.heap.size W12 x6 := X5.trans (hx6.mono (by omega))
    have r6 := (X6.block w11.heap.size (by omega)).trans r12
    have s6 := cell_later s12 (show lb < W12.heap.size by omega) X6
    have BF : Below w.heap.size w x6 := B12.trans (X6.mono (by omega))
    clear hx6 X5 X6 r12 s12 B12
    have f0 := cell_of_row x6 _ 0 _ _ _ r6
    have f4 := cell_of_row x6 _ 4 _ _ _ r6
    go_wp2
    go_ret
    exact ⟨rfl, BF⟩
  · have hck1 : (ck == 0) = false := by simpa using hck0
    go_wp2_with fail
    clear a0 a1 a2 a3 a4 a5 d0 d1 d2 d3 d4 d5 v6 c6 HLc HLd
    refine (vi w6).mono ?_
    rintro e w8 ⟨rfl, hb8⟩
    have hs8 := hb8.size
    have B8 : Below w.heap.size w w8 := B6.trans (hb8.mono (by omega))
    clear hb8
    go_wp2_with fail
    refine (vs w8).mono ?_
    rintro e w9 ⟨rfl, hb9⟩
    have hs9 := hb9.size
    have B9 : Below w.heap.size w w9 := B8.trans (hb9.mono (by omega))
    clear hb9 B8
    go_wp2_with fail
    obtain ⟨W10, hW10⟩ : ∃ W10, w9.alloc (.cells #[.int .i64 2, .bool false, .int .i64 n, .string ⟨#[]⟩, .slice none 0 0, .slice none 0 0, .int .i64 3, .bool false, .int .i64 0, .string s, .slice none 0 0, .slice none 0 0] 25) = W10 := ⟨_, rfl⟩
    have r10 : W10.heap[w9.heap.size]? = some (.cells #[.int .i64 2, .bool false, .int .i64 n, .string ⟨#[]⟩, .slice none 0 0, .slice none 0 0, .int .i64 3, .bool false, .int .i64 0, .string s, .slice none 0 0, .slice none 0 0] 25 (0, 0)) := by rw [← hW10]; exact heap_alloc_new _ _
    have b10 : Below w9.heap.size w9 W10 := by rw [← hW10]; exact (Below.refl _ _).alloc (Nat.le_refl _) _
    have hs10 : W10.heap.size = w9.heap.size + 1 := by rw [← hW10]; simp
    have B10 : Below w.heap.size w W10 := B9.trans (b10.mono (by omega))
    rw [hW10]
    clear hW10 b10 B9
    refine (list2 (B := w9.heap.size + 1) (f := fun i => if i = 0 then leafT 2 false n ⟨#[]⟩ else leafT 3 false 0 s) (A := fun _ => ⟨none, 0, none, 0⟩) (by omega) (by omega) (fun i hi => ?_) (fun i hi => ?_) (fun i hi => ?_)).mono ?_
    · have : i = 0 ∨ i = 1 := by omega
      rcases this with rfl | rfl
      · exact ⟨cell_of_row W10 _ 0 _ _ _ r10, cell_of_row W10 _ 1 _ _ _ r10, cell_of_row W10 _ 2 _ _ _ r10, cell_of_row W10 _ 3 _ _ _ r10, cell_of_row W10 _ 4 _ _ _ r10, cell_of_row W10 _ 5 _ _ _ r10⟩
      · exact ⟨cell_of_row W10 _ 6 _ _ _ r10, cell_of_row W10 _ 7 _ _ _ r10, cell_of_row W10 _ 8 _ _ _ r10, cell_of_row W10 _ 9 _ _ _ r10, cell_of_row W10 _ 10 _ _ _ r10, cell_of_row W10 _ 11 _ _ _ r10⟩
    · have : i = 0 ∨ i = 1 := by omega
      rcases this with rfl | rfl
      · exact lies_leaf (by decide) HN.out (Nat.zero_le _)
      · exact lies_leaf (by decide) (by decide) HS.out
    · have : i = 0 ∨ i = 1 := by omega
      rcases this with rfl | rfl
      · exact slimq_leaf _ _ _ _
      · exact slimq_leaf _ _ _ _
    rintro e w11 ⟨lb, A11, rfl, hlb, h6, hb11⟩
    have h61 := (h6 1 (by decide)).c3
    replace h61 : w11.cell? ⟨lb, 9, none⟩ = some (.string s) := h61
    have hs11 := hb11.size
    have B11 : Below w.heap.size w w11 := B10.trans (hb11.mono (by omega))
    clear h6 hb11 B10 r10
    go_wp2_with fail
    obtain ⟨W12, hW12⟩ : ∃ W12, w11.alloc (.cells #[.int .i64 5, .bool false, .int .i64 0, .string ⟨#[]⟩, .slice (some ⟨lb, 0, none⟩) 2 2, .slice none 0 0] 25) = W12 := ⟨_, rfl⟩
    have r12 : W12.heap[w11.heap.size]? = some (.cells #[.int .i64 5, .bool false, .int .i64 0, .string ⟨#[]⟩, .slice (some ⟨lb, 0, none⟩) 2 2, .slice none 0 0] 25 (0, 0)) := by rw [← hW12]; exact heap_alloc_new _ _
    have b12 : Below w11.heap.size w11 W12 := by rw [← hW12]; exact (Below.refl _ _).alloc (Nat.le_refl _) _
    have hs12 : W12.heap.size = w11.heap.size + 1 := by rw [← hW12]; simp
    have s12 := cell_later h61 hlb b12
    have B12 : Below w.heap.size w W12 := B11.trans (b12.mono (by omega))
    rw [hW12]
    clear hW12 b12 B11 h61
    refine (vi W12).mono ?_
    rintro e x1 ⟨rfl, hx1⟩
    have hz1 := hx1.size
    go_wp2_with fail
    refine (vs x1).mono ?_
    rintro e x2 ⟨rfl, hx2⟩
    have hz2 := hx2.size
    have X2 : Below W12.heap.size W12 x2 := hx1.trans (hx2.mono (by omega))
    clear hx1 hx2
    go_wp2_with fail
    refine (vs x2).mono ?_
    rintro e x3 ⟨rfl, hx3⟩
    have hz3 := hx3.size
    have X3 : Below W12.heap.size W12 x3 := X2.trans (hx3.mono (by omega))
    clear hx3 X2
    go_wp2_with fail
    refine (vb x3).mono ?_
    rintro e x4 ⟨rfl, hx4⟩
    have hz4 := hx4.size
    have X4 : Below W12.heap.size W12 x4 := X3.trans (hx4.mono (by omega))
    clear hx4 X3
    go_wp2_with fail
    refine (vo x4).mono ?_
    rintro e x5 ⟨rfl, hx5⟩
    have hz5 := hx5.size
    have X5 : Below W12.heap.size W12 x5 := X4.trans (hx5.mono (by omega))
    clear hx5 X4
    go_wp2_with fail
    refine (vz x5).mono ?_
    rintro e x6 ⟨rfl, hx6⟩
    have hz6 := hx6.size
    have X6 : Below W12.heap.size W12 x6 := X5.trans (hx6.mono (by omega))
    have r6 := (X6.block w11.heap.size (by omega)).trans r12
    have s6 := cell_later s12 (show lb < W12.heap.size by omega) X6
    have BF : Below w.heap.size w x6 := B12.trans (X6.mono (by omega))
    clear hx6 X5 X6 r12 s12 B12
    have f0 := cell_of_row x6 _ 0 _ _ _ r6
    have f4 := cell_of_row x6 _ 4 _ _ _ r6
    go_wp2
    go_ret
    exact ⟨rfl, BF⟩
end Go.Proofs.Ytjmjlijmeahmfaa
