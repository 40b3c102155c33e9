/- ValueBytes called: true, and nothing that was there is changed. -/
import Derived.Test.YtjmjlijmeahmfaaEqv
import Derived.Test.YtjmjlijmeahmfaaChkl
namespace Go.Proofs.Ytjmjlijmeahmfaa
open Go.RowKit
theorem decode_enc {B : Nat} {W0 W : World} {c : Tr} {x : Ad} (hL : Lies B W0 c x) (h : checkT c = 0) :
    ∃ u : Tr, eqvT c u ∧ Calls Try.prog 15 #[.string (encT c)] W fun r w' => ∃ A : Ad, r = .returned (.tuple #[.agg #[.int .i64 u.k, .bool u.b, .int .i64 u.n, .string u.s, .slice A.pa u.m A.pc, .slice A.na u.q A.nc], .int .i64 0]) ∧ Lies w'.heap.size w' u A ∧ Below W.heap.size W w' := by
  obtain ⟨h1, h2, h3⟩ := dec_enc hL h
  refine ⟨_, h3, ?_⟩
  have hd := decode_any (encT c) (by omega) W
  rw [h2, if_pos rfl] at hd
  refine hd.mono ?_
  rintro e w' ⟨A, he, hL', hb⟩
  exact ⟨A, he, hL'.up (fun k hk => hk.2), hb⟩
set_option maxRecDepth 100000 in
set_option maxHeartbeats 8000000 in
theorem bytes_any {B : Nat} {w : World} {t : Tr} {x : Ad} (hL : Lies B w t x) (hB : B ≤ w.heap.size) :
    Calls Try.prog 4 #[t.val x] w fun e w' => e = .returned (.bool true) ∧ Below w.heap.size w w' := by
  obtain ⟨pa, pc, na, nc⟩ := x
  show Calls Try.prog 4 #[.agg #[.int .i64 t.k, .bool t.b, .int .i64 t.n, .string t.s, .slice pa t.m pc, .slice na t.q nc]] w _
  have HCUT : Hid (∀ W : World, Below w.heap.size w W → Calls Try.prog 9 #[.agg #[.int .i64 t.k, .bool t.b, .int .i64 t.n, .string t.s, .slice pa t.m pc, .slice na t.q nc], .int .i64 10, .int .i64 33] W fun e w' => ∃ A, e = .returned ((cutT t 10 33).val A) ∧ LiesS (fun k => k < B ∨ (W.heap.size ≤ k ∧ k < w'.heap.size)) w' (cutT t 10 33) A ∧ Below W.heap.size W w') := fun W hb =>
    cut_all t B W ⟨pa, pc, na, nc⟩ 10 33 (hL.later (hb.mono hB)) (Nat.le_trans hB hb.size) (by decide) (by decide)
  obtain ⟨c, hc⟩ : ∃ c, cutT t 10 33 = c := ⟨_, rfl⟩
  have HSL : Hid (slim c) := by show slim c; rw [← hc]; exact slim_cut t 10 33 (by decide)
  have HSM : Hid (small c) := by show small c; rw [← hc]; exact small_cut t 10 33
  rw [hc] at HCUT
  clear hL hc
  go_enter Try.func4, Try.ntmps4
  go_wp2_with fail
  have b1 : Below w.heap.size w (w.alloc (.cells #[.int .i64 t.k, .bool t.b, .int .i64 t.n, .string t.s, .slice pa t.m pc, .slice na t.q nc] 25)) := (Below.refl _ w).alloc (Nat.le_refl _) _
  refine (HCUT.out _ b1).mono ?_
  rintro e w1 ⟨A1, he, hL1, hb1⟩
  replace he : e = .returned (.agg #[.int .i64 c.k, .bool c.b, .int .i64 c.n, .string c.s, .slice A1.pa c.m A1.pc, .slice A1.na c.q A1.nc]) := he
  subst he
  have B1 : Below w.heap.size w w1 := b1.trans (hb1.mono (by simp))
  have hs1 : w.heap.size + 1 ≤ w1.heap.size := by have := hb1.size; simpa using this
  have hL1' : Lies w1.heap.size w1 c A1 := hL1.up (fun k hk => by omega)
  clear b1 hL1 hb1 HCUT
  obtain ⟨ck, hck⟩ : ∃ ck, checkT c = ck := ⟨_, rfl⟩
  obtain ⟨es, hes⟩ : ∃ es, encT c = es := ⟨_, rfl⟩
  have HCK : Hid (checkT c = ck) := hck
  have HES : Hid (encT c = es) := hes
  have HEN : Hid (∀ (B : Nat) (W : World), Lies B W c A1 → B ≤ W.heap.size → Calls Try.prog 14 #[.agg #[.int .i64 c.k, .bool c.b, .int .i64 c.n, .string c.s, .slice A1.pa c.m A1.pc, .slice A1.na c.q A1.nc]] W fun e w' => e = .returned (.tuple #[.string es, .int .i64 ck]) ∧ Below W.heap.size W w') := fun B W hL hB => by
    have := encode_any hL hB HSM.out; rw [hck, hes] at this; exact this
  have HCR : Hid (∀ (B : Nat) (W : World) (A : Ad), Lies B W c A → B ≤ W.heap.size → Calls Try.prog 12 #[.agg #[.int .i64 c.k, .bool c.b, .int .i64 c.n, .string c.s, .slice A.pa c.m A.pc, .slice A.na c.q A.nc]] W fun e w' => e = .returned (.int .i64 ck) ∧ Below W.heap.size W w') := fun B W A hL hB => by
    have := rcheck_any hL hB HSM.out; rw [hck] at this; exact this
  have HRF : Hid (∀ (B : Nat) (W : World), Lies B W c A1 → B ≤ W.heap.size → Calls Try.prog 13 #[.agg #[.int .i64 c.k, .bool c.b, .int .i64 c.n, .string c.s, .slice A1.pa c.m A1.pc, .slice A1.na c.q A1.nc]] W fun e w' => ∃ A : Ad, e = .returned (.agg #[.int .i64 c.k, .bool c.b, .int .i64 c.n, .string c.s, .slice A.pa c.m A.pc, .slice A.na c.q A.nc]) ∧ Lies w'.heap.size w' c A ∧ Below W.heap.size W w') := fun B W hL hB => refc HSL.out hL hB
  clear hck hes
  have HL1 : Hid (Lies w1.heap.size w1 c A1) := hL1'
  clear hL1'
  go_wp2_with fail
  obtain ⟨W2, hW2⟩ : ∃ W2, w1.alloc (.cells #[.int .i64 c.k, .bool c.b, .int .i64 c.n, .string c.s, .slice A1.pa c.m A1.pc, .slice A1.na c.q A1.nc] 25) = W2 := ⟨_, rfl⟩
  have r2 : W2.heap[w1.heap.size]? = some (.cells #[.int .i64 c.k, .bool c.b, .int .i64 c.n, .string c.s, .slice A1.pa c.m A1.pc, .slice A1.na c.q A1.nc] 25 (0, 0)) := by rw [← hW2]; exact heap_alloc_new _ _
  have b12 : Below w1.heap.size w1 W2 := by rw [← hW2]; exact (Below.refl _ _).alloc (Nat.le_refl _) _
  have hs2 : W2.heap.size = w1.heap.size + 1 := by rw [← hW2]; simp
  have B2 : Below w.heap.size w W2 := B1.trans (b12.mono (by omega))
  have HL2 : Hid (Lies w1.heap.size W2 c A1) := HL1.out.later b12
  rw [hW2]
  clear hW2 b12 HL1 B1
  refine (HEN.out _ _ HL2.out (by omega)).mono ?_
  rintro e w3 ⟨rfl, hb3⟩
  have hs3 := hb3.size
  have r3 := (hb3.block w1.heap.size (by omega)).trans r2
  have B3 : Below w.heap.size w w3 := B2.trans (hb3.mono (by omega))
  have HL3 : Hid (Lies w1.heap.size w3 c A1) := HL2.out.later (hb3.mono (by omega))
  clear hb3 r2 B2 HL2
  have c0 := cell_of_row w3 _ 0 _ _ _ r3
  have c1 := cell_of_row w3 _ 1 _ _ _ r3
  have c2 := cell_of_row w3 _ 2 _ _ _ r3
  have c3 := cell_of_row w3 _ 3 _ _ _ r3
  have c4 := cell_of_row w3 _ 4 _ _ _ r3
  have c5 := cell_of_row w3 _ 5 _ _ _ r3
  go_wp2_with fail
  refine (HRF.out _ _ HL3.out (by omega)).mono ?_
  rintro e w4 ⟨A4, rfl, hL4, hb4⟩
  have hs4 := hb4.size
  have r4 := (hb4.block w1.heap.size (by omega)).trans r3
  have B4 : Below w.heap.size w w4 := B3.trans (hb4.mono (by omega))
  have HL4 : Hid (Lies w1.heap.size w4 c A1) := HL3.out.later (hb4.mono (by omega))
  clear hb4 r3 B3 HL3 c0 c1 c2 c3 c4 c5
  go_wp2_with fail
  refine (HCR.out _ _ _ hL4 (Nat.le_refl _)).mono ?_
  rintro e w5 ⟨rfl, hb5⟩
  have hs5 := hb5.size
  have r5 := (hb5.block w1.heap.size (by omega)).trans r4
  have B5 : Below w.heap.size w w5 := B4.trans (hb5.mono (by omega))
  have HL5 : Hid (Lies w1.heap.size w5 c A1) := HL4.out.later (hb5.mono (by omega))
  clear hb5 r4 B4 HL4 hL4
  go_wp2_with fail
  refine (awake_any _).mono ?_
  rintro e w6 ⟨rfl, hb6⟩
  have hs6 := hb6.size
  have r6 := (hb6.block w1.heap.size (by omega)).trans r5
  have B6 : Below w.heap.size w w6 := B5.trans (hb6.mono (by omega))
  have HL6 : Hid (Lies w1.heap.size w6 c A1) := HL5.out.later (hb6.mono (by omega))
  clear hb6 r5 B5 HL5
  by_cases h0 : ck = 0
  · subst h0
    obtain ⟨u, hu, hdc⟩ := decode_enc (W := w6) HL6.out HCK.out
    rw [HES.out] at hdc
    have hsu := eqv_small c u hu HSM.out
    have hcu := eqv_check hu
    have heu := eqv_enc hu
    have hsame := eqv_cmp c u hu
    rw [HCK.out] at hcu
    rw [HES.out] at heu
    have HSO : Hid (soundT c 1 = 0 ∧ es = ⟨(bytesT c).toArray⟩) := by
      have h1 : soundT c 1 = 0 := by
        have h := HCK.out
        unfold checkT at h
        by_cases h2 : soundT c 1 = 0
        · exact h2
        · rw [if_neg h2] at h; exact absurd h h2
      refine ⟨h1, ?_⟩
      rw [← HES.out]
      unfold encT
      rw [if_pos HCK.out]
    have HUE : Hid (∀ (W : World) (A : Ad), Lies W.heap.size W u A → Calls Try.prog 14 #[.agg #[.int .i64 u.k, .bool u.b, .int .i64 u.n, .string u.s, .slice A.pa u.m A.pc, .slice A.na u.q A.nc]] W fun e w' => e = .returned (.tuple #[.string es, .int .i64 0]) ∧ Below W.heap.size W w') := fun W A hL => by
      have := encode_any hL (Nat.le_refl _) hsu; rw [hcu, heu] at this; exact this
    have HSA : Hid (∀ (B : Nat) (W : World) (A : Ad), Lies B W c A1 → Lies B W u A → B ≤ W.heap.size → Calls Try.prog 17 #[.agg #[.int .i64 c.k, .bool c.b, .int .i64 c.n, .string c.s, .slice A1.pa c.m A1.pc, .slice A1.na c.q A1.nc], .agg #[.int .i64 u.k, .bool u.b, .int .i64 u.n, .string u.s, .slice A.pa u.m A.pc, .slice A.na u.q A.nc]] W fun e w' => e = .returned (.bool true) ∧ Below W.heap.size W w') := fun B W A hL hL' hB => by
      have := same_all c u B W A1 A hL hL' hB; rw [hsame] at this; exact this
    have HBY : Hid (∀ (W : World) (A : Ad), Lies W.heap.size W c A → Calls Try.prog 16 #[.agg #[.int .i64 c.k, .bool c.b, .int .i64 c.n, .string c.s, .slice A.pa c.m A.pc, .slice A.na c.q A.nc]] W fun e w' => e = .returned (.string es) ∧ Below W.heap.size W w') := fun W A hL => by
      have := rval_any c 1 (by decide) HSO.out.1 HSM.out W.heap.size W A hL (Nat.le_refl _); rw [← HSO.out.2] at this; exact this
    clear hu hsu hcu heu hsame
    go_wp2_with fail
    refine hdc.mono ?_
    rintro e w7 ⟨A7, rfl, hL7, hb7⟩
    have hs7 := hb7.size
    have r7 := (hb7.block w1.heap.size (by omega)).trans r6
    have B7 : Below w.heap.size w w7 := B6.trans (hb7.mono (by omega))
    have HL7 : Hid (Lies w1.heap.size w7 c A1) := HL6.out.later (hb7.mono (by omega))
    have HU7 : Hid (Lies w7.heap.size w7 u A7) := hL7
    clear hb7 r6 B6 HL6 hL7 hdc
    go_wp2_with fail
    obtain ⟨W8, hW8⟩ : ∃ W8, w7.alloc (.cells #[.int .i64 u.k, .bool u.b, .int .i64 u.n, .string u.s, .slice A7.pa u.m A7.pc, .slice A7.na u.q A7.nc] 25) = W8 := ⟨_, rfl⟩
    have q8 : W8.heap[w7.heap.size]? = some (.cells #[.int .i64 u.k, .bool u.b, .int .i64 u.n, .string u.s, .slice A7.pa u.m A7.pc, .slice A7.na u.q A7.nc] 25 (0, 0)) := by rw [← hW8]; exact heap_alloc_new _ _
    have b78 : Below w7.heap.size w7 W8 := by rw [← hW8]; exact (Below.refl _ _).alloc (Nat.le_refl _) _
    have hs8 : W8.heap.size = w7.heap.size + 1 := by rw [← hW8]; simp
    have r8 := (b78.block w1.heap.size (by omega)).trans r7
    have B8 : Below w.heap.size w W8 := B7.trans (b78.mono (by omega))
    have HL8 : Hid (Lies w1.heap.size W8 c A1) := HL7.out.later (b78.mono (by omega))
    have HU8 : Hid (Lies W8.heap.size W8 u A7) := (HU7.out.later b78).up (by omega)
    rw [hW8]
    clear hW8 b78 r7 B7 HL7 HU7
    refine (HUE.out _ _ HU8.out).mono ?_
    rintro e w9 ⟨rfl, hb9⟩
    have hs9 := hb9.size
    have r9 := (hb9.block w1.heap.size (by omega)).trans r8
    have q9 := (hb9.block w7.heap.size (by omega)).trans q8
    have B9 : Below w.heap.size w w9 := B8.trans (hb9.mono (by omega))
    have HL9 : Hid (Lies w1.heap.size w9 c A1) := HL8.out.later (hb9.mono (by omega))
    have HU9 : Hid (Lies w9.heap.size w9 u A7) := (HU8.out.later hb9).up (by omega)
    clear hb9 r8 q8 B8 HL8 HU8
    have c0 := cell_of_row w9 _ 0 _ _ _ r9
    have c1 := cell_of_row w9 _ 1 _ _ _ r9
    have c2 := cell_of_row w9 _ 2 _ _ _ r9
    have c3 := cell_of_row w9 _ 3 _ _ _ r9
    have c4 := cell_of_row w9 _ 4 _ _ _ r9
    have c5 := cell_of_row w9 _ 5 _ _ _ r9
    go_wp2_with fail
    refine (HRF.out _ _ HL9.out (by omega)).mono ?_
    rintro e x1 ⟨A10, rfl, hL10, hb10⟩
    have hs10 := hb10.size
    have r10 := (hb10.block w1.heap.size (by omega)).trans r9
    have q10 := (hb10.block w7.heap.size (by omega)).trans q9
    have B10 : Below w.heap.size w x1 := B9.trans (hb10.mono (by omega))
    have HL10 : Hid (Lies w1.heap.size x1 c A1) := HL9.out.later (hb10.mono (by omega))
    have HU10 : Hid (Lies x1.heap.size x1 u A7) := (HU9.out.later hb10).up (by omega)
    clear hb10 r9 q9 B9 HL9 HU9 c0 c1 c2 c3 c4 c5
    go_wp2_with fail
    refine (HBY.out _ _ hL10).mono ?_
    rintro e x2 ⟨rfl, hb11⟩
    have hs11 := hb11.size
    have r11 := (hb11.block w1.heap.size (by omega)).trans r10
    have q11 := (hb11.block w7.heap.size (by omega)).trans q10
    have B11 : Below w.heap.size w x2 := B10.trans (hb11.mono (by omega))
    have HL11 : Hid (Lies x2.heap.size x2 c A1) := (HL10.out.later (hb11.mono (by omega))).up (by omega)
    have HU11 : Hid (Lies x2.heap.size x2 u A7) := (HU10.out.later hb11).up (by omega)
    clear hb11 r10 q10 B10 HL10 HU10 hL10
    have c0 := cell_of_row x2 _ 0 _ _ _ r11
    have c1 := cell_of_row x2 _ 1 _ _ _ r11
    have c2 := cell_of_row x2 _ 2 _ _ _ r11
    have c3 := cell_of_row x2 _ 3 _ _ _ r11
    have c4 := cell_of_row x2 _ 4 _ _ _ r11
    have c5 := cell_of_row x2 _ 5 _ _ _ r11
    have d0 := cell_of_row x2 _ 0 _ _ _ q11
    have d1 := cell_of_row x2 _ 1 _ _ _ q11
    have d2 := cell_of_row x2 _ 2 _ _ _ q11
    have d3 := cell_of_row x2 _ 3 _ _ _ q11
    have d4 := cell_of_row x2 _ 4 _ _ _ q11
    have d5 := cell_of_row x2 _ 5 _ _ _ q11
    go_wp2_with fail
    refine (HSA.out _ _ _ HL11.out HU11.out (Nat.le_refl _)).mono ?_
    rintro e x3 ⟨rfl, hb12⟩
    have B12 : Below w.heap.size w x3 := B11.trans (hb12.mono (by omega))
    clear c0 c1 c2 c3 c4 c5 d0 d1 d2 d3 d4 d5 hb12
    go_wp2
    go_ret
    exact ⟨rfl, B12⟩
  · have hne : (ck != 0) = true := by simpa using h0
    have he : es = ⟨#[]⟩ := by rw [← HES.out]; unfold encT; rw [HCK.out, if_neg h0]
    subst he
    go_wp2
    go_ret
    exact ⟨rfl, B6⟩
end Go.Proofs.Ytjmjlijmeahmfaa
