/- ValueChecks called: true, and nothing that was there is changed. -/
import Derived.Test.YtjmjlijmeahmfaaRvls
import Derived.Test.YtjmjlijmeahmfaaRef
import Derived.Test.YtjmjlijmeahmfaaOwn
import Derived.Deep.RegionHeld3
namespace Go.Proofs.Ytjmjlijmeahmfaa
open Go.RowKit
theorem refc {B : Nat} {W : World} {c : Tr} {x : Ad} (hs : slim c) (hL : Lies B W c x) (hB : B ≤ W.heap.size) :
    Calls Try.prog 13 #[.agg #[.int .i64 c.k, .bool c.b, .int .i64 c.n, .string c.s, .slice x.pa c.m x.pc, .slice x.na c.q x.nc]] W fun e w' => ∃ A : Ad, e = .returned (.agg #[.int .i64 c.k, .bool c.b, .int .i64 c.n, .string c.s, .slice A.pa c.m A.pc, .slice A.na c.q A.nc]) ∧ Lies w'.heap.size w' c A ∧ Below W.heap.size W w' := by
  refine (ref_all c hs B W x hL hB).mono ?_
  rintro e w' ⟨A, he, hL', hb⟩
  exact ⟨A, he, hL'.up (fun k hk => by have := hb.size; omega), hb⟩
set_option maxRecDepth 100000 in
set_option maxHeartbeats 8000000 in
theorem checks_any {B : Nat} {w : World} {t : Tr} {x : Ad} (hL : Lies B w t x) (hB : B ≤ w.heap.size) :
    Calls Try.prog 3 #[t.val x] w fun e w' => e = .returned (.bool true) ∧ Below w.heap.size w w' := by
  obtain ⟨pa, pc, na, nc⟩ := x
  show Calls Try.prog 3 #[.agg #[.int .i64 t.k, .bool t.b, .int .i64 t.n, .string t.s, .slice pa t.m pc, .slice na t.q nc]] w _
  have HCUT : Hid (∀ W : World, Below w.heap.size w W → Calls Try.prog 9 #[.agg #[.int .i64 t.k, .bool t.b, .int .i64 t.n, .string t.s, .slice pa t.m pc, .slice na t.q nc], .int .i64 10, .int .i64 33] W fun e w' => ∃ A, e = .returned ((cutT t 10 33).val A) ∧ LiesS (fun k => k < B ∨ (W.heap.size ≤ k ∧ k < w'.heap.size)) w' (cutT t 10 33) A ∧ Below W.heap.size W w') := fun W hb =>
    cut_all t B W ⟨pa, pc, na, nc⟩ 10 33 (hL.later (hb.mono hB)) (Nat.le_trans hB hb.size) (by decide) (by decide)
  obtain ⟨c, hc⟩ : ∃ c, cutT t 10 33 = c := ⟨_, rfl⟩
  have HSL : Hid (slim c) := by show slim c; rw [← hc]; exact slim_cut t 10 33 (by decide)
  have HSM : Hid (small c) := by show small c; rw [← hc]; exact small_cut t 10 33
  rw [hc] at HCUT
  clear hL hc
  go_enter Try.func3, Try.ntmps3
  go_wp2_with fail
  have b1 : Below w.heap.size w (w.alloc (.cells #[.int .i64 t.k, .bool t.b, .int .i64 t.n, .string t.s, .slice pa t.m pc, .slice na t.q nc] 25)) := (Below.refl _ w).alloc (Nat.le_refl _) _
  refine (HCUT.out _ b1).mono ?_
  rintro e w1 ⟨A1, he, hL1, hb1⟩
  replace he : e = .returned (.agg #[.int .i64 c.k, .bool c.b, .int .i64 c.n, .string c.s, .slice A1.pa c.m A1.pc, .slice A1.na c.q A1.nc]) := he
  subst he
  have B1 : Below w.heap.size w w1 := b1.trans (hb1.mono (by simp))
  have hs1 : w.heap.size + 1 ≤ w1.heap.size := by have := hb1.size; simpa using this
  have hL1' : Lies w1.heap.size w1 c A1 := hL1.up (fun k hk => by omega)
  clear b1 hL1 hb1 HCUT
  go_wp2_with fail
  obtain ⟨W2, hW2⟩ : ∃ W2, w1.alloc (.cells #[.int .i64 c.k, .bool c.b, .int .i64 c.n, .string c.s, .slice A1.pa c.m A1.pc, .slice A1.na c.q A1.nc] 25) = W2 := ⟨_, rfl⟩
  have row : W2.heap[w1.heap.size]? = some (.cells #[.int .i64 c.k, .bool c.b, .int .i64 c.n, .string c.s, .slice A1.pa c.m A1.pc, .slice A1.na c.q A1.nc] 25 (0, 0)) := by rw [← hW2]; exact heap_alloc_new _ _
  have b12 : Below w1.heap.size w1 W2 := by rw [← hW2]; exact (Below.refl _ _).alloc (Nat.le_refl _) _
  have hs2 : W2.heap.size = w1.heap.size + 1 := by rw [← hW2]; simp
  have B2 : Below w.heap.size w W2 := B1.trans (b12.mono (by omega))
  have HL : Hid (Lies W2.heap.size W2 c A1) := (hL1'.later b12).up (by omega)
  have ROW : Hid (W2.heap[w1.heap.size]? = some (.cells #[.int .i64 c.k, .bool c.b, .int .i64 c.n, .string c.s, .slice A1.pa c.m A1.pc, .slice A1.na c.q A1.nc] 25 (0, 0))) := row
  rw [hW2]
  clear hW2 b12 hL1' B1 row
  have HS2 : Hid (W2.heap.size = w1.heap.size + 1) := hs2
  have HSz : Hid (w.heap.size + 1 ≤ w1.heap.size) := hs1
  have HB2 : Hid (Below w.heap.size w W2) := B2
  clear hs2 hs1 B2 hB
  obtain ⟨ck, hck⟩ : ∃ ck, checkT c = ck := ⟨_, rfl⟩
  have HCK : Hid (∀ (B : Nat) (W : World), Lies B W c A1 → B ≤ W.heap.size → Calls Try.prog 11 #[.agg #[.int .i64 c.k, .bool c.b, .int .i64 c.n, .string c.s, .slice A1.pa c.m A1.pc, .slice A1.na c.q A1.nc]] W fun e w' => e = .returned (.int .i64 ck) ∧ Below W.heap.size W w') := fun B W hL hB => by
    have := check_any hL hB HSM.out; rw [hck] at this; exact this
  have HCR : Hid (∀ (B : Nat) (W : World) (A : Ad), Lies B W c A → B ≤ W.heap.size → Calls Try.prog 12 #[.agg #[.int .i64 c.k, .bool c.b, .int .i64 c.n, .string c.s, .slice A.pa c.m A.pc, .slice A.na c.q A.nc]] W fun e w' => e = .returned (.int .i64 ck) ∧ Below W.heap.size W w') := fun B W A hL hB => by
    have := rcheck_any hL hB HSM.out; rw [hck] at this; exact this
  have HRF : Hid (∀ (B : Nat) (W : World), Lies B W c A1 → B ≤ W.heap.size → Calls Try.prog 13 #[.agg #[.int .i64 c.k, .bool c.b, .int .i64 c.n, .string c.s, .slice A1.pa c.m A1.pc, .slice A1.na c.q A1.nc]] W fun e w' => ∃ A : Ad, e = .returned (.agg #[.int .i64 c.k, .bool c.b, .int .i64 c.n, .string c.s, .slice A.pa c.m A.pc, .slice A.na c.q A.nc]) ∧ Lies w'.heap.size w' c A ∧ Below W.heap.size W w') := fun B W hL hB => refc HSL.out hL hB
  clear hck
  have c0 := cell_of_row W2 _ 0 _ _ _ ROW.out
  have c1 := cell_of_row W2 _ 1 _ _ _ ROW.out
  have c2 := cell_of_row W2 _ 2 _ _ _ ROW.out
  have c3 := cell_of_row W2 _ 3 _ _ _ ROW.out
  have c4 := cell_of_row W2 _ 4 _ _ _ ROW.out
  have c5 := cell_of_row W2 _ 5 _ _ _ ROW.out
  go_region_held3 (fun W => W.cell? ⟨w1.heap.size, 0, none⟩ = some (.int .i64 c.k) ∧ W.cell? ⟨w1.heap.size, 1, none⟩ = some (.bool c.b) ∧ W.cell? ⟨w1.heap.size, 2, none⟩ = some (.int .i64 c.n) ∧ W.cell? ⟨w1.heap.size, 3, none⟩ = some (.string c.s) ∧ W.cell? ⟨w1.heap.size, 4, none⟩ = some (.slice A1.pa c.m A1.pc) ∧ W.cell? ⟨w1.heap.size, 5, none⟩ = some (.slice A1.na c.q A1.nc)) (exact ⟨c0, c1, c2, c3, c4, c5⟩) (first
    | (go_at_call 10
       refine (awake_any _).mono ?_
       rintro e w3 ⟨rfl, hb3⟩
       clear c0 c1 c2 c3 c4 c5
       have HB : Hid (Below W2.heap.size W2 w3) := ⟨hb3.os, hb3.tape, hb3.output, hb3.size, hb3.block⟩
       clear hb3
       have q3 := (HB.out.block w1.heap.size (by rw [HS2.out]; omega)).trans ROW.out
       have c0 := cell_of_row w3 _ 0 _ _ _ q3
       have c1 := cell_of_row w3 _ 1 _ _ _ q3
       have c2 := cell_of_row w3 _ 2 _ _ _ q3
       have c3 := cell_of_row w3 _ 3 _ _ _ q3
       have c4 := cell_of_row w3 _ 4 _ _ _ q3
       have c5 := cell_of_row w3 _ 5 _ _ _ q3
       clear q3)
    | (go_at_call 11
       refine (HCK.out W2.heap.size _ (HL.out.later HB.out) HB.out.size).mono ?_
       rintro e w4 ⟨rfl, hb4⟩
       have HBo := HB
       clear HB c0 c1 c2 c3 c4 c5
       have HB : Hid (Below W2.heap.size W2 w4) := HBo.out.trans (hb4.mono HBo.out.size)
       (try (have HLRo := HLR; clear HLR; have HLR : Hid (Lies w4.heap.size w4 c A2) := (HLRo.out.later hb4).up hb4.size; clear HLRo))
       clear hb4 HBo
       have q3 := (HB.out.block w1.heap.size (by rw [HS2.out]; omega)).trans ROW.out
       have c0 := cell_of_row w4 _ 0 _ _ _ q3
       have c1 := cell_of_row w4 _ 1 _ _ _ q3
       have c2 := cell_of_row w4 _ 2 _ _ _ q3
       have c3 := cell_of_row w4 _ 3 _ _ _ q3
       have c4 := cell_of_row w4 _ 4 _ _ _ q3
       have c5 := cell_of_row w4 _ 5 _ _ _ q3
       clear q3)
    | (go_at_call 13
       refine (HRF.out W2.heap.size _ (HL.out.later HB.out) HB.out.size).mono ?_
       rintro e w5 ⟨A2, rfl, hLR, hb5⟩
       have HLR : Hid (Lies w5.heap.size w5 c A2) := hLR
       have HBo := HB
       clear HB hLR c0 c1 c2 c3 c4 c5
       have HB : Hid (Below W2.heap.size W2 w5) := HBo.out.trans (hb5.mono HBo.out.size)
       clear hb5 HBo
       have q3 := (HB.out.block w1.heap.size (by rw [HS2.out]; omega)).trans ROW.out
       have c0 := cell_of_row w5 _ 0 _ _ _ q3
       have c1 := cell_of_row w5 _ 1 _ _ _ q3
       have c2 := cell_of_row w5 _ 2 _ _ _ q3
       have c3 := cell_of_row w5 _ 3 _ _ _ q3
       have c4 := cell_of_row w5 _ 4 _ _ _ q3
       have c5 := cell_of_row w5 _ 5 _ _ _ q3
       clear q3)
    | (go_at_call 12
       refine (HCR.out _ _ _ HLR.out (Nat.le_refl _)).mono ?_
       rintro e w6 ⟨rfl, hb6⟩
       have HBo := HB
       clear HB c0 c1 c2 c3 c4 c5
       have HB : Hid (Below W2.heap.size W2 w6) := HBo.out.trans (hb6.mono HBo.out.size)
       clear hb6 HBo
       have q3 := (HB.out.block w1.heap.size (by rw [HS2.out]; omega)).trans ROW.out
       have c0 := cell_of_row w6 _ 0 _ _ _ q3
       have c1 := cell_of_row w6 _ 1 _ _ _ q3
       have c2 := cell_of_row w6 _ 2 _ _ _ q3
       have c3 := cell_of_row w6 _ 3 _ _ _ q3
       have c4 := cell_of_row w6 _ 4 _ _ _ q3
       have c5 := cell_of_row w6 _ 5 _ _ _ q3
       clear q3))
  all_goals
    go_wp2
    go_ret
    exact ⟨by simp, HB2.out.trans (HB.out.mono (by have := HB2.out.size; omega))⟩
end Go.Proofs.Ytjmjlijmeahmfaa
