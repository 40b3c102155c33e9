/- NOT (negation). -/
import Derived.Test.YthgagldpjledgaaGreatDoorCmr
namespace Go.Proofs.YthgagldpjledgaaGreatDoor
open Go.RowKit Go.Shelf
attribute [local go_sem] Oper.semAt_some fw0 fw1 fw2
theorem wholeP_ne (ws : List Wd) (s : PS) : (wholeP ws s).ne = s.ne := by
  unfold wholeP failP
  split
  · split
    · rfl
    · rfl
  · rfl
set_option maxRecDepth 100000 in
set_option maxHeartbeats 8000000 in
theorem negation_any {w : World} {b : Nat} {p : Option Addr} {c : Nat} {ws : List Wd} {s : PS} (H : Ps w b p c ws s) (hz : Wz ws) (hne : s.ne ≤ 100) (go : Nat → PS → Et × PS)
    (k3 : ∀ W, Ps W b p c ws s → Calls Tryz.prog 92 #[.pointer (some ⟨b, 0, none⟩), .int .i64 3] W (Gives ws (fun k => W.heap.size ≤ k) W b p c (go 3 s)))
    (k2 : isP (wAt ws s.at') 2 [78, 79, 84] = true → ∀ W, Ps W b p c ws (notS ws s) → Calls Tryz.prog 92 #[.pointer (some ⟨b, 0, none⟩), .int .i64 2] W (Gives ws (fun k => W.heap.size ≤ k) W b p c (go 2 (notS ws s))))
    (hx2 : (go 2 (notS ws s)).2.ex ≤ 800000) (hn2 : (go 2 (notS ws s)).2.ne = s.ne + 1) :
    Calls Tryz.prog 112 #[.pointer (some ⟨b, 0, none⟩)] w (Gives ws (fun k => w.heap.size ≤ k) w b p c (negF ws go s)) := by
  have hold := H.old
  have lb := lt_of_row H.row
  obtain ⟨w1, hw1⟩ : ∃ w1, w.alloc (.cells #[.int .i64 0, .string ⟨#[]⟩, .int .i64 0, .bool false, .int .i64 0, .string ⟨#[]⟩, .slice none 0 0, .slice none 0 0, .slice none 0 0, .slice none 0 0] 28) = w1 := ⟨_, rfl⟩
  have hb1 : Below w.heap.size w w1 := by rw [← hw1]; exact (Below.refl _ w).alloc (Nat.le_refl _) _
  have hs1 : w1.heap.size = w.heap.size + 1 := by rw [← hw1]; simp
  have rz1 : w1.heap[w.heap.size]? = some (.cells #[.int .i64 0, .string ⟨#[]⟩, .int .i64 0, .bool false, .int .i64 0, .string ⟨#[]⟩, .slice none 0 0, .slice none 0 0, .slice none 0 0, .slice none 0 0] 28 (0, 0)) := by rw [← hw1]; exact heap_alloc_new _ _
  have ki := is_any (H.later hb1) 2 ⟨#[78, 79, 84]⟩
  unfold negF
  have hI : isW (wAt ws s.at') 2 ⟨#[78, 79, 84]⟩ = isP (wAt ws s.at') 2 [78, 79, 84] := isW_isP _ _ _
  rw [hI] at ki
  clear hI
  by_cases hn : isP (wAt ws s.at') 2 [78, 79, 84] = true
  · rw [if_pos hn]
    have k2 := k2 hn
    rw [hn] at ki
    clear hn k3
    obtain ⟨X, hX⟩ : ∃ X, go 2 (notS ws s) = X := ⟨_, rfl⟩
    rw [hX] at k2 hx2 hn2 ⊢
    clear hX
    have HH : Hid (Ps w b p c ws s ∧ Below w.heap.size w w1) := ⟨H, hb1⟩
    clear H hb1
    go_enter_defers Tryz.func112, Tryz.ntmps112
    go_wp2_with fail
    refine ki.mono ?_
    rintro q w2 ⟨rfl, hb2⟩
    have s2 := hb2.size
    have rz2 := (hb2.block _ (by omega)).trans rz1
    have kd := deeper_any ((HH.out.1.later HH.out.2).later hb2) (by omega)
    have HB2 : Hid (Below w1.heap.size w1 w2) := hb2
    clear ki hb2 hw1 rz1
    go_wp2_with fail
    refine kd.mono ?_
    rintro q w3 ⟨rfl, hP3, hO3⟩
    have s3 := hO3.size
    have rz3 := (hO3.block _ (by omega) (by omega)).trans rz2
    have kk := pkey_any hP3 hz ⟨#[78, 79, 84]⟩
    have HO3 : Hid (Onl b w2 w3) := hO3
    clear kd hP3 hO3 rz2
    go_wp2_with fail
    refine kk.mono ?_
    rintro q w4 ⟨rfl, hP4, hO4⟩
    have hP4' : Ps w4 b p c ws (notS ws s) := by unfold notS; rw [← mustP_mustQ]; exact hP4
    have s4 := hO4.size
    have rz4 := (hO4.block _ (by omega) (by omega)).trans rz3
    have k5 := k2 w4 hP4'
    have HO4 : Hid (Onl b w3 w4) := hO4
    clear kk hP4 hP4' hO4 rz3 k2
    go_wp2_with fail
    refine k5.mono ?_
    rintro q w5 ⟨d5, v5, rfl, hL5, hP5, hO5⟩
    have s5 := hO5.size
    have rz5 := (hO5.block _ (by omega) (by omega)).trans rz4
    have ka := around_any hP5 (by omega) 4 (S := fun k => w4.heap.size ≤ k) ⟨by omega, fun k hk => by omega⟩ hL5
    obtain ⟨R5, rfl⟩ := hL5.row
    have HO5 : Hid (Onl b w4 w5) := hO5
    clear k5 hP5 hO5 rz4 hL5
    unfold rowX at ka ⊢
    go_wp2_with fail
    refine ka.mono ?_
    rintro q w6 ⟨v6, rfl, hL6, hP6, hO6⟩
    have s6 := hO6.size
    have rz6 := (hO6.block _ (by omega) (by omega)).trans rz5
    obtain ⟨R6, rfl⟩ := hL6.row
    obtain ⟨w7, hw7⟩ : ∃ w7, setR w6 w.heap.size R6 = w7 := ⟨_, rfl⟩
    have s7 : w7.heap.size = w6.heap.size := by rw [← hw7]; exact set10_size _ _ _ _ _ _ _ _ _ _ _ _
    have rz7 : w7.heap[w.heap.size]? = some (.cells (arrX R6) 28 (0, 0)) := by rw [← hw7]; exact setR_row rz6 rfl R6
    have hL7 : LiesE w7 (fun k => w4.heap.size ≤ k) (d5 + 1) (oneT 4 X.1) (rowX R6) := by rw [← hw7]; exact hL6.since (Since.set10 (by omega) w6 _ _ _ _ _ _ _ _ _ _)
    have hP7 : Ps w7 b p c ws (wholeP ws X.2) := by rw [← hw7]; exact hP6.kept (z := w.heap.size) lb hold (fun j hj => set10_other hj _ _ _ _ _ _ _ _ _ _) (Nat.le_of_eq (set10_size _ _ _ _ _ _ _ _ _ _ _ _).symm)
    have hO7 : Onl b w w7 := by rw [← hw7]; exact ((((((Onl.of HH.out.2).trans (Onl.of HB2.out)).trans HO3.out).trans HO4.out).trans HO5.out).trans hO6).set10 _ (Nat.le_refl _) _ _ _ _ _ _ _ _ _ _
    have H7 : Hid (LiesE w7 (fun k => w4.heap.size ≤ k) (d5 + 1) (oneT 4 X.1) (rowX R6) ∧ Ps w7 b p c ws (wholeP ws X.2) ∧ Onl b w w7 ∧ w7.heap[w.heap.size]? = some (.cells (arrX R6) 28 (0, 0))) := ⟨hL7, hP7, hO7, rz7⟩
    have q0 := cell_of_row w6 _ 0 _ _ _ rz6
    have g0 := frozen_of_row w6 _ 0 _ _ rz6
    have q1 := cell_of_row w6 _ 1 _ _ _ rz6
    have g1 := frozen_of_row w6 _ 1 _ _ rz6
    have q2 := cell_of_row w6 _ 2 _ _ _ rz6
    have g2 := frozen_of_row w6 _ 2 _ _ rz6
    have q3 := cell_of_row w6 _ 3 _ _ _ rz6
    have g3 := frozen_of_row w6 _ 3 _ _ rz6
    have q4 := cell_of_row w6 _ 4 _ _ _ rz6
    have g4 := frozen_of_row w6 _ 4 _ _ rz6
    have q5 := cell_of_row w6 _ 5 _ _ _ rz6
    have g5 := frozen_of_row w6 _ 5 _ _ rz6
    have q6 := cell_of_row w6 _ 6 _ _ _ rz6
    have g6 := frozen_of_row w6 _ 6 _ _ rz6
    have q7 := cell_of_row w6 _ 7 _ _ _ rz6
    have g7 := frozen_of_row w6 _ 7 _ _ rz6
    have q8 := cell_of_row w6 _ 8 _ _ _ rz6
    have g8 := frozen_of_row w6 _ 8 _ _ rz6
    have q9 := cell_of_row w6 _ 9 _ _ _ rz6
    have g9 := frozen_of_row w6 _ 9 _ _ rz6

    clear ka hL6 hP6 hO6 rz5 rz6 rz7 hL7 hP7 hO7 HO3 HO4 HO5 HB2
    unfold setR set10 at hw7
    unfold rowX
    go_wp2
    obtain ⟨hL7, hP7, hO7, rz7⟩ := H7.out
    refine leaves_cons (f := 150) (args := #[.pointer (some ⟨b, 0, none⟩)]) (by simp) (by simp [go_sem]) ?_
    refine (back_d hP7 (by rw [wholeP_ne]; omega) (by rw [wholeP_ne]; omega) .returning).mono ?_
    rintro e u' w8 ⟨rfl, rfl, hP8, hO8⟩
    have rz8 := (hO8.block _ (by omega) (by omega)).trans rz7
    exact ⟨_, results_cell_row Tryz.results112 _ _ w.heap.size 28 _ (0, 0) _ rfl rz8 Tryz.underlying28 rfl (by kernel_rfl), d5 + 1, rowX R6, rfl, (hL7.since (Since.onl hO8 (by omega))).imp fun k hk _ => by omega, hP8, hO7.trans hO8⟩
  · rw [if_neg hn]
    have hf : isP (wAt ws s.at') 2 [78, 79, 84] = false := by simpa using hn
    rw [hf] at ki
    clear hn hf k2 hx2 hn2
    obtain ⟨X, hX⟩ : ∃ X, go 3 s = X := ⟨_, rfl⟩
    rw [hX] at k3 ⊢
    clear hX
    have HH : Hid (Ps w b p c ws s ∧ Below w.heap.size w w1) := ⟨H, hb1⟩
    clear H hb1
    go_enter_defers Tryz.func112, Tryz.ntmps112
    go_wp2_with fail
    refine ki.mono ?_
    rintro q w2 ⟨rfl, hb2⟩
    have s2 := hb2.size
    have rz2 := (hb2.block _ (by omega)).trans rz1
    have k5 := k3 w2 ((HH.out.1.later HH.out.2).later hb2)
    have HB2 : Hid (Below w1.heap.size w1 w2) := hb2
    clear ki hb2 hw1 rz1 k3
    go_wp2_with fail
    refine k5.mono ?_
    rintro q w6 ⟨d5, v6, rfl, hL6, hP6, hO6⟩
    have s6 := hO6.size
    have rz6 := (hO6.block _ (by omega) (by omega)).trans rz2
    obtain ⟨R6, rfl⟩ := hL6.row
    obtain ⟨w7, hw7⟩ : ∃ w7, setR w6 w.heap.size R6 = w7 := ⟨_, rfl⟩
    have rz7 : w7.heap[w.heap.size]? = some (.cells (arrX R6) 28 (0, 0)) := by rw [← hw7]; exact setR_row rz6 rfl R6
    have hL7 : LiesE w7 (fun k => w2.heap.size ≤ k) d5 X.1 (rowX R6) := by rw [← hw7]; exact hL6.since (Since.set10 (by omega) w6 _ _ _ _ _ _ _ _ _ _)
    have hP7 : Ps w7 b p c ws X.2 := by rw [← hw7]; exact hP6.kept (z := w.heap.size) lb hold (fun j hj => set10_other hj _ _ _ _ _ _ _ _ _ _) (Nat.le_of_eq (set10_size _ _ _ _ _ _ _ _ _ _ _ _).symm)
    have hO7 : Onl b w w7 := by rw [← hw7]; exact (((Onl.of HH.out.2).trans (Onl.of HB2.out)).trans hO6).set10 _ (Nat.le_refl _) _ _ _ _ _ _ _ _ _ _
    have H7 : Hid (LiesE w7 (fun k => w2.heap.size ≤ k) d5 X.1 (rowX R6) ∧ Ps w7 b p c ws X.2 ∧ Onl b w w7 ∧ w7.heap[w.heap.size]? = some (.cells (arrX R6) 28 (0, 0))) := ⟨hL7, hP7, hO7, rz7⟩
    have q0 := cell_of_row w6 _ 0 _ _ _ rz6
    have g0 := frozen_of_row w6 _ 0 _ _ rz6
    have q1 := cell_of_row w6 _ 1 _ _ _ rz6
    have g1 := frozen_of_row w6 _ 1 _ _ rz6
    have q2 := cell_of_row w6 _ 2 _ _ _ rz6
    have g2 := frozen_of_row w6 _ 2 _ _ rz6
    have q3 := cell_of_row w6 _ 3 _ _ _ rz6
    have g3 := frozen_of_row w6 _ 3 _ _ rz6
    have q4 := cell_of_row w6 _ 4 _ _ _ rz6
    have g4 := frozen_of_row w6 _ 4 _ _ rz6
    have q5 := cell_of_row w6 _ 5 _ _ _ rz6
    have g5 := frozen_of_row w6 _ 5 _ _ rz6
    have q6 := cell_of_row w6 _ 6 _ _ _ rz6
    have g6 := frozen_of_row w6 _ 6 _ _ rz6
    have q7 := cell_of_row w6 _ 7 _ _ _ rz6
    have g7 := frozen_of_row w6 _ 7 _ _ rz6
    have q8 := cell_of_row w6 _ 8 _ _ _ rz6
    have g8 := frozen_of_row w6 _ 8 _ _ rz6
    have q9 := cell_of_row w6 _ 9 _ _ _ rz6
    have g9 := frozen_of_row w6 _ 9 _ _ rz6

    clear k5 hL6 hP6 hO6 rz2 rz6 rz7 hL7 hP7 hO7 HB2
    unfold setR set10 at hw7
    unfold rowX
    go_wp2
    obtain ⟨hL7, hP7, hO7, rz7⟩ := H7.out
    exact ⟨_, results_cell_row Tryz.results112 _ _ w.heap.size 28 _ (0, 0) _ rfl rz7 Tryz.underlying28 rfl (by kernel_rfl), d5, rowX R6, rfl, hL7.imp fun k hk _ => by omega, hP7, hO7⟩
end Go.Proofs.YthgagldpjledgaaGreatDoor
