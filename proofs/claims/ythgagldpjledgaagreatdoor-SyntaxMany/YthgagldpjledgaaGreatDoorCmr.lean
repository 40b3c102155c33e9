/- A comparison (comparison). -/
import Derived.Test.YthgagldpjledgaaGreatDoorBxs
namespace Go.Proofs.YthgagldpjledgaaGreatDoor
open Go.RowKit Go.Shelf
attribute [local go_sem] Oper.semAt_some fw0 fw1 fw2
set_option maxRecDepth 100000 in
set_option maxHeartbeats 8000000 in
theorem comparison_any {w : World} {b : Nat} {p : Option Addr} {c : Nat} {ws : List Wd} {s : PS} (H : Ps w b p c ws s) (hz : Wz ws) (F : PS → Et × PS)
    (kb1 : ∀ W, Ps W b p c ws s → Calls Tryz.prog 92 #[.pointer (some ⟨b, 0, none⟩), .int .i64 4] W (Gives ws (fun k => W.heap.size ≤ k) W b p c (F s))) (hlt : (F s).2.at' < ws.length) (hx1 : (F s).2.ex ≤ 800000)
    (kb2 : ∀ W, Ps W b p c ws (takeP (F s).2) → Calls Tryz.prog 92 #[.pointer (some ⟨b, 0, none⟩), .int .i64 (((3 : Nat) : Int) + 1)] W (Gives ws (fun k => W.heap.size ≤ k) W b p c (F (takeP (F s).2)))) (hx2 : (F (takeP (F s).2)).2.ex ≤ 800000) :
    Calls Tryz.prog 113 #[.pointer (some ⟨b, 0, none⟩)] w (Gives ws (fun k => w.heap.size ≤ k) w b p c (cmpF ws F s)) := by
  have hold := H.old
  have lb := lt_of_row H.row
  obtain ⟨X, hX⟩ : ∃ X, F s = X := ⟨_, rfl⟩
  unfold cmpF cmpI cmpS
  rw [hX] at kb1 kb2 hx1 hx2 hlt ⊢
  clear hX
  obtain ⟨w1, hw1⟩ : ∃ w1, w.alloc (.cells #[.int .i64 0, .string ⟨#[]⟩, .int .i64 0, .bool false, .int .i64 0, .string ⟨#[]⟩, .slice none 0 0, .slice none 0 0, .slice none 0 0, .slice none 0 0] 28) = w1 := ⟨_, rfl⟩
  have hb1 : Below w.heap.size w w1 := by rw [← hw1]; exact (Below.refl _ w).alloc (Nat.le_refl _) _
  have hs1 : w1.heap.size = w.heap.size + 1 := by rw [← hw1]; simp
  have rz1 : w1.heap[w.heap.size]? = some (.cells zero10 28 (0, 0)) := by rw [← hw1]; exact heap_alloc_new _ _
  by_cases hr : rankI (wAt ws X.2.at') = 3
  ·
    rw [if_pos hr]
    have hrk : rankI (wAt ws X.2.at') = 3 := hr
    have h1 : X.2.at' + 1 < ws.length := hz.next hlt (rankI_kind (by rw [hrk]; decide))
    obtain ⟨Y, hY⟩ : ∃ Y, sidesF ws F X.1 X.2 = Y := ⟨_, rfl⟩
    have hYx : Y.2.ex ≤ 800001 := by rw [← hY]; unfold sidesF; rw [wholeP_ex]; omega
    rw [hY]
    rw [← isW_isP]
    obtain ⟨Rb, hR⟩ : ∃ R, isW (wAt ws Y.2.at') 2 ⟨([73, 83] : List UInt8).toArray⟩ = R := ⟨_, rfl⟩
    have hR' : isW (wAt ws Y.2.at') 2 ⟨#[73, 83]⟩ = Rb := hR
    rw [hR]
    clear hR
    cases Rb with
    | true =>
      rw [if_pos rfl]
      obtain ⟨V, hV⟩ : ∃ V, isNullF ws Y.1 (takeP Y.2) = V := ⟨_, rfl⟩
      have hex3 : (takeP Y.2).ex ≤ 900000 := by unfold takeP; simp only; omega
      rw [hV]
      have k1 := kb1 w1 (H.later hb1)
      have HH : Hid (Ps w b p c ws s ∧ Below w.heap.size w w1) := ⟨H, hb1⟩
      clear H hb1
      go_enter Tryz.func113, Tryz.ntmps113
      go_wp2_with fail
      refine k1.mono ?_
      rintro q w2 ⟨d2, v2, rfl, hL2, hP2, hO2⟩
      obtain ⟨R, rfl⟩ := hL2.row
      obtain ⟨w3, hw3⟩ : ∃ w3, w2.alloc (.cells #[.int .i64 R.k, .string R.s, .int .i64 R.vk, .bool R.vb, .int .i64 R.vn, .string R.vs, .slice none 0 0, .slice none 0 0, .slice R.kp R.n R.kc, .slice R.np R.m R.nc] 28) = w3 := ⟨_, rfl⟩
      have hb3 : Below w2.heap.size w2 w3 := by rw [← hw3]; exact (Below.refl _ w2).alloc (Nat.le_refl _) _
      have hs3 : w3.heap.size = w2.heap.size + 1 := by rw [← hw3]; simp
      have rx3 : w3.heap[w2.heap.size]? = some (.cells (arrX R) 28 (0, 0)) := by rw [← hw3]; exact heap_alloc_new _ _
      have s2 := hO2.size
      obtain ⟨S', hS'⟩ : ∃ S', S' = fun k => w.heap.size + 1 ≤ k ∧ k ≠ w2.heap.size := ⟨_, rfl⟩
      have nx : ¬ S' w2.heap.size := by rw [hS']; intro h; exact h.2 rfl
      have nz : ¬ S' w.heap.size := by rw [hS']; intro h; have := h.1; omega
      have nb : ¬ S' b := by rw [hS']; intro h; have := h.1; omega
      have ny : ∀ k, w2.heap.size + 1 ≤ k → S' k := by intro k hk; rw [hS']; exact ⟨by omega, by omega⟩
      have nS : ∀ k, S' k → w.heap.size ≤ k := by intro k hk; rw [hS'] at hk; have := hk.1; omega
      have B3 : Bx w w3 b p c ws w.heap.size w2.heap.size S' X.2 X.1 R := ⟨rx3, (hb3.block _ (by omega)).trans ((hO2.block _ (by omega) (by omega)).trans rz1), ((Onl.of HH.out.2).trans hO2).trans (Onl.of hb3), hP2.later hb3, ⟨d2, (hL2.imp fun k hk hl => by rw [hS']; exact ⟨by omega, by omega⟩).since (Since.below hb3)⟩, ⟨lb, by omega, by omega, by omega⟩, hold, ⟨nx, nz, nb⟩⟩
      have kw := word_any B3.ps
      have HB : Hid (Bx w w3 b p c ws w.heap.size w2.heap.size S' X.2 X.1 R) := B3
      clear k1 hL2 hP2 hO2 hb3 rx3 hS' B3
      unfold rowX
      go_wp2_with fail
      refine kw.mono ?_
      rintro q w4 ⟨rfl, hb4⟩
      have B4 := HB.out.quiet hb4
      have kr := rank_any (wAt ws X.2.at') w4
      rw [hrk] at kr
      have s4 := hb4.size
      have HB4 : Hid (Bx w w4 b p c ws w.heap.size w2.heap.size S' X.2 X.1 R) := B4
      clear kw hb4 B4 HB hw3
      go_wp2_with fail
      refine kr.mono ?_
      rintro q w5 ⟨rfl, hb5⟩
      have B5 := HB4.out.quiet hb5
      have s5 := hb5.size
      clear kr hb5 HB4
      obtain ⟨d5, hd5⟩ := B5.lies
      have kS := sides_any B5.ps h1 3 (by decide) F kb2 (by omega) (S := S') ⟨nb, fun k hk => ny k (by omega)⟩ hd5
      have kS' : Calls Tryz.prog 115 #[.pointer (some ⟨b, 0, none⟩), .agg #[.int .i64 R.k, .string R.s, .int .i64 R.vk, .bool R.vb, .int .i64 R.vn, .string R.vs, .slice none 0 0, .slice none 0 0, .slice R.kp R.n R.kc, .slice R.np R.m R.nc], .int .i64 3] w5 (Gives ws S' w5 b p c (sidesF ws F X.1 X.2)) := kS
      rw [hY] at kS'
      have rx5 := B5.rx
      unfold arrX at rx5
      have p0 := cell_of_row w5 _ 0 _ _ _ rx5
      have p1 := cell_of_row w5 _ 1 _ _ _ rx5
      have p2 := cell_of_row w5 _ 2 _ _ _ rx5
      have p3 := cell_of_row w5 _ 3 _ _ _ rx5
      have p4 := cell_of_row w5 _ 4 _ _ _ rx5
      have p5 := cell_of_row w5 _ 5 _ _ _ rx5
      have p6 := cell_of_row w5 _ 6 _ _ _ rx5
      have p7 := cell_of_row w5 _ 7 _ _ _ rx5
      have p8 := cell_of_row w5 _ 8 _ _ _ rx5
      have p9 := cell_of_row w5 _ 9 _ _ _ rx5
      have HB5 : Hid (Bx w w5 b p c ws w.heap.size w2.heap.size S' X.2 X.1 R) := B5
      clear kS hd5 B5
      go_wp2_with fail
      refine kS'.mono ?_
      rintro q w6 ⟨d6, v6, rfl, hL6, hP6, hO6⟩
      obtain ⟨R6, rfl⟩ := hL6.row
      have B6 := HB5.out.store hO6 hP6 hL6
      have rx6 := (HB5.out.calls hO6 hP6).rx
      unfold arrX at rx6
      have s6 := hO6.size
      obtain ⟨w7, hw7⟩ : ∃ w7, setR w6 w2.heap.size R6 = w7 := ⟨_, rfl⟩
      have s7 : w7.heap.size = w6.heap.size := by rw [← hw7]; exact set10_size _ _ _ _ _ _ _ _ _ _ _ _
      rw [hw7] at B6
      unfold setR set10 at hw7
      clear p0 p1 p2 p3 p4 p5 p6 p7 p8 p9
      have q0 := cell_of_row w6 _ 0 _ _ _ rx6
      have g0 := frozen_of_row w6 _ 0 _ _ rx6
      have q1 := cell_of_row w6 _ 1 _ _ _ rx6
      have g1 := frozen_of_row w6 _ 1 _ _ rx6
      have q2 := cell_of_row w6 _ 2 _ _ _ rx6
      have g2 := frozen_of_row w6 _ 2 _ _ rx6
      have q3 := cell_of_row w6 _ 3 _ _ _ rx6
      have g3 := frozen_of_row w6 _ 3 _ _ rx6
      have q4 := cell_of_row w6 _ 4 _ _ _ rx6
      have g4 := frozen_of_row w6 _ 4 _ _ rx6
      have q5 := cell_of_row w6 _ 5 _ _ _ rx6
      have g5 := frozen_of_row w6 _ 5 _ _ rx6
      have q6 := cell_of_row w6 _ 6 _ _ _ rx6
      have g6 := frozen_of_row w6 _ 6 _ _ rx6
      have q7 := cell_of_row w6 _ 7 _ _ _ rx6
      have g7 := frozen_of_row w6 _ 7 _ _ rx6
      have q8 := cell_of_row w6 _ 8 _ _ _ rx6
      have g8 := frozen_of_row w6 _ 8 _ _ rx6
      have q9 := cell_of_row w6 _ 9 _ _ _ rx6
      have g9 := frozen_of_row w6 _ 9 _ _ rx6
      unfold rowX
      have kt := tookKey_any B6.ps hz ⟨#[73, 83]⟩
      rw [hR'] at kt
      unfold tookP at kt
      rw [hR'] at kt
      rw [if_pos rfl] at kt
      have HB7 : Hid (Bx w w7 b p c ws w.heap.size w2.heap.size S' Y.2 Y.1 R6) := B6
      clear kS' hL6 hP6 hO6 HB5 rx5 rx6 B6
      go_wp2_with fail
      refine kt.mono ?_
      rintro q w8 ⟨rfl, hP8, hO8⟩
      have B8 := HB7.out.calls hO8 hP8
      have s8 := hO8.size
      obtain ⟨d8, hd8⟩ := B8.lies
      have kn := isNull_any B8.ps hz hex3 (S := S') ⟨nb, fun k hk => ny k (by omega)⟩ hd8
      have kn' : Calls Tryz.prog 134 #[.pointer (some ⟨b, 0, none⟩), .agg #[.int .i64 R6.k, .string R6.s, .int .i64 R6.vk, .bool R6.vb, .int .i64 R6.vn, .string R6.vs, .slice none 0 0, .slice none 0 0, .slice R6.kp R6.n R6.kc, .slice R6.np R6.m R6.nc]] w8 (Gives ws S' w8 b p c (isNullF ws Y.1 (takeP Y.2))) := kn
      rw [hV] at kn'
      have rx8 := B8.rx
      unfold arrX at rx8
      clear q0 q1 q2 q3 q4 q5 q6 q7 q8 q9 g0 g1 g2 g3 g4 g5 g6 g7 g8 g9
      have p0 := cell_of_row w8 _ 0 _ _ _ rx8
      have p1 := cell_of_row w8 _ 1 _ _ _ rx8
      have p2 := cell_of_row w8 _ 2 _ _ _ rx8
      have p3 := cell_of_row w8 _ 3 _ _ _ rx8
      have p4 := cell_of_row w8 _ 4 _ _ _ rx8
      have p5 := cell_of_row w8 _ 5 _ _ _ rx8
      have p6 := cell_of_row w8 _ 6 _ _ _ rx8
      have p7 := cell_of_row w8 _ 7 _ _ _ rx8
      have p8 := cell_of_row w8 _ 8 _ _ _ rx8
      have p9 := cell_of_row w8 _ 9 _ _ _ rx8
      have HB8 : Hid (Bx w w8 b p c ws w.heap.size w2.heap.size S' (takeP Y.2) Y.1 R6) := B8
      clear kn hd8 B8 kt hP8 hO8 HB7
      go_wp2_with fail
      refine kn'.mono ?_
      rintro q w9 ⟨d9, v9, rfl, hL9, hP9, hO9⟩
      obtain ⟨R9, rfl⟩ := hL9.row
      have B9 := HB8.out.store hO9 hP9 hL9
      have rx9 := (HB8.out.calls hO9 hP9).rx
      unfold arrX at rx9
      obtain ⟨w10, hw10⟩ : ∃ w10, setR w9 w2.heap.size R9 = w10 := ⟨_, rfl⟩
      rw [hw10] at B9
      unfold setR set10 at hw10
      clear p0 p1 p2 p3 p4 p5 p6 p7 p8 p9
      have q0 := cell_of_row w9 _ 0 _ _ _ rx9
      have g0 := frozen_of_row w9 _ 0 _ _ rx9
      have q1 := cell_of_row w9 _ 1 _ _ _ rx9
      have g1 := frozen_of_row w9 _ 1 _ _ rx9
      have q2 := cell_of_row w9 _ 2 _ _ _ rx9
      have g2 := frozen_of_row w9 _ 2 _ _ rx9
      have q3 := cell_of_row w9 _ 3 _ _ _ rx9
      have g3 := frozen_of_row w9 _ 3 _ _ rx9
      have q4 := cell_of_row w9 _ 4 _ _ _ rx9
      have g4 := frozen_of_row w9 _ 4 _ _ rx9
      have q5 := cell_of_row w9 _ 5 _ _ _ rx9
      have g5 := frozen_of_row w9 _ 5 _ _ rx9
      have q6 := cell_of_row w9 _ 6 _ _ _ rx9
      have g6 := frozen_of_row w9 _ 6 _ _ rx9
      have q7 := cell_of_row w9 _ 7 _ _ _ rx9
      have g7 := frozen_of_row w9 _ 7 _ _ rx9
      have q8 := cell_of_row w9 _ 8 _ _ _ rx9
      have g8 := frozen_of_row w9 _ 8 _ _ rx9
      have q9 := cell_of_row w9 _ 9 _ _ _ rx9
      have g9 := frozen_of_row w9 _ 9 _ _ rx9
      unfold rowX
      have rxf := B9.rx
      have rzf := B9.rz
      unfold arrX at rxf
      unfold zero10 at rzf
      have p0 := cell_of_row w10 _ 0 _ _ _ rxf
      have p1 := cell_of_row w10 _ 1 _ _ _ rxf
      have p2 := cell_of_row w10 _ 2 _ _ _ rxf
      have p3 := cell_of_row w10 _ 3 _ _ _ rxf
      have p4 := cell_of_row w10 _ 4 _ _ _ rxf
      have p5 := cell_of_row w10 _ 5 _ _ _ rxf
      have p6 := cell_of_row w10 _ 6 _ _ _ rxf
      have p7 := cell_of_row w10 _ 7 _ _ _ rxf
      have p8 := cell_of_row w10 _ 8 _ _ _ rxf
      have p9 := cell_of_row w10 _ 9 _ _ _ rxf
      have r0 := cell_of_row w10 _ 0 _ _ _ rzf
      have h0 := frozen_of_row w10 _ 0 _ _ rzf
      have r1 := cell_of_row w10 _ 1 _ _ _ rzf
      have h1 := frozen_of_row w10 _ 1 _ _ rzf
      have r2 := cell_of_row w10 _ 2 _ _ _ rzf
      have h2 := frozen_of_row w10 _ 2 _ _ rzf
      have r3 := cell_of_row w10 _ 3 _ _ _ rzf
      have h3 := frozen_of_row w10 _ 3 _ _ rzf
      have r4 := cell_of_row w10 _ 4 _ _ _ rzf
      have h4 := frozen_of_row w10 _ 4 _ _ rzf
      have r5 := cell_of_row w10 _ 5 _ _ _ rzf
      have h5 := frozen_of_row w10 _ 5 _ _ rzf
      have r6 := cell_of_row w10 _ 6 _ _ _ rzf
      have h6 := frozen_of_row w10 _ 6 _ _ rzf
      have r7 := cell_of_row w10 _ 7 _ _ _ rzf
      have h7 := frozen_of_row w10 _ 7 _ _ rzf
      have r8 := cell_of_row w10 _ 8 _ _ _ rzf
      have h8 := frozen_of_row w10 _ 8 _ _ rzf
      have r9 := cell_of_row w10 _ 9 _ _ _ rzf
      have h9 := frozen_of_row w10 _ 9 _ _ rzf
      have HBf : Hid (Bx w w10 b p c ws w.heap.size w2.heap.size S' V.2 V.1 R9) := B9
      clear kn' hL9 hP9 hO9 HB8 rx8 rx9 B9 rxf rzf
      go_wp2
      exact bodyPost_ret (results_cell_row Tryz.results113 _ _ w.heap.size 28 _ (0, 0) _ rfl (setR_row HBf.out.rz rfl R9) Tryz.underlying28 rfl (by kernel_rfl)) rfl (HBf.out.done nS)
    | false =>
      rw [if_neg (by decide)]
      have k1 := kb1 w1 (H.later hb1)
      have HH : Hid (Ps w b p c ws s ∧ Below w.heap.size w w1) := ⟨H, hb1⟩
      clear H hb1
      go_enter Tryz.func113, Tryz.ntmps113
      go_wp2_with fail
      refine k1.mono ?_
      rintro q w2 ⟨d2, v2, rfl, hL2, hP2, hO2⟩
      obtain ⟨R, rfl⟩ := hL2.row
      obtain ⟨w3, hw3⟩ : ∃ w3, w2.alloc (.cells #[.int .i64 R.k, .string R.s, .int .i64 R.vk, .bool R.vb, .int .i64 R.vn, .string R.vs, .slice none 0 0, .slice none 0 0, .slice R.kp R.n R.kc, .slice R.np R.m R.nc] 28) = w3 := ⟨_, rfl⟩
      have hb3 : Below w2.heap.size w2 w3 := by rw [← hw3]; exact (Below.refl _ w2).alloc (Nat.le_refl _) _
      have hs3 : w3.heap.size = w2.heap.size + 1 := by rw [← hw3]; simp
      have rx3 : w3.heap[w2.heap.size]? = some (.cells (arrX R) 28 (0, 0)) := by rw [← hw3]; exact heap_alloc_new _ _
      have s2 := hO2.size
      obtain ⟨S', hS'⟩ : ∃ S', S' = fun k => w.heap.size + 1 ≤ k ∧ k ≠ w2.heap.size := ⟨_, rfl⟩
      have nx : ¬ S' w2.heap.size := by rw [hS']; intro h; exact h.2 rfl
      have nz : ¬ S' w.heap.size := by rw [hS']; intro h; have := h.1; omega
      have nb : ¬ S' b := by rw [hS']; intro h; have := h.1; omega
      have ny : ∀ k, w2.heap.size + 1 ≤ k → S' k := by intro k hk; rw [hS']; exact ⟨by omega, by omega⟩
      have nS : ∀ k, S' k → w.heap.size ≤ k := by intro k hk; rw [hS'] at hk; have := hk.1; omega
      have B3 : Bx w w3 b p c ws w.heap.size w2.heap.size S' X.2 X.1 R := ⟨rx3, (hb3.block _ (by omega)).trans ((hO2.block _ (by omega) (by omega)).trans rz1), ((Onl.of HH.out.2).trans hO2).trans (Onl.of hb3), hP2.later hb3, ⟨d2, (hL2.imp fun k hk hl => by rw [hS']; exact ⟨by omega, by omega⟩).since (Since.below hb3)⟩, ⟨lb, by omega, by omega, by omega⟩, hold, ⟨nx, nz, nb⟩⟩
      have kw := word_any B3.ps
      have HB : Hid (Bx w w3 b p c ws w.heap.size w2.heap.size S' X.2 X.1 R) := B3
      clear k1 hL2 hP2 hO2 hb3 rx3 hS' B3
      unfold rowX
      go_wp2_with fail
      refine kw.mono ?_
      rintro q w4 ⟨rfl, hb4⟩
      have B4 := HB.out.quiet hb4
      have kr := rank_any (wAt ws X.2.at') w4
      rw [hrk] at kr
      have s4 := hb4.size
      have HB4 : Hid (Bx w w4 b p c ws w.heap.size w2.heap.size S' X.2 X.1 R) := B4
      clear kw hb4 B4 HB hw3
      go_wp2_with fail
      refine kr.mono ?_
      rintro q w5 ⟨rfl, hb5⟩
      have B5 := HB4.out.quiet hb5
      have s5 := hb5.size
      clear kr hb5 HB4
      obtain ⟨d5, hd5⟩ := B5.lies
      have kS := sides_any B5.ps h1 3 (by decide) F kb2 (by omega) (S := S') ⟨nb, fun k hk => ny k (by omega)⟩ hd5
      have kS' : Calls Tryz.prog 115 #[.pointer (some ⟨b, 0, none⟩), .agg #[.int .i64 R.k, .string R.s, .int .i64 R.vk, .bool R.vb, .int .i64 R.vn, .string R.vs, .slice none 0 0, .slice none 0 0, .slice R.kp R.n R.kc, .slice R.np R.m R.nc], .int .i64 3] w5 (Gives ws S' w5 b p c (sidesF ws F X.1 X.2)) := kS
      rw [hY] at kS'
      have rx5 := B5.rx
      unfold arrX at rx5
      have p0 := cell_of_row w5 _ 0 _ _ _ rx5
      have p1 := cell_of_row w5 _ 1 _ _ _ rx5
      have p2 := cell_of_row w5 _ 2 _ _ _ rx5
      have p3 := cell_of_row w5 _ 3 _ _ _ rx5
      have p4 := cell_of_row w5 _ 4 _ _ _ rx5
      have p5 := cell_of_row w5 _ 5 _ _ _ rx5
      have p6 := cell_of_row w5 _ 6 _ _ _ rx5
      have p7 := cell_of_row w5 _ 7 _ _ _ rx5
      have p8 := cell_of_row w5 _ 8 _ _ _ rx5
      have p9 := cell_of_row w5 _ 9 _ _ _ rx5
      have HB5 : Hid (Bx w w5 b p c ws w.heap.size w2.heap.size S' X.2 X.1 R) := B5
      clear kS hd5 B5
      go_wp2_with fail
      refine kS'.mono ?_
      rintro q w6 ⟨d6, v6, rfl, hL6, hP6, hO6⟩
      obtain ⟨R6, rfl⟩ := hL6.row
      have B6 := HB5.out.store hO6 hP6 hL6
      have rx6 := (HB5.out.calls hO6 hP6).rx
      unfold arrX at rx6
      have s6 := hO6.size
      obtain ⟨w7, hw7⟩ : ∃ w7, setR w6 w2.heap.size R6 = w7 := ⟨_, rfl⟩
      have s7 : w7.heap.size = w6.heap.size := by rw [← hw7]; exact set10_size _ _ _ _ _ _ _ _ _ _ _ _
      rw [hw7] at B6
      unfold setR set10 at hw7
      clear p0 p1 p2 p3 p4 p5 p6 p7 p8 p9
      have q0 := cell_of_row w6 _ 0 _ _ _ rx6
      have g0 := frozen_of_row w6 _ 0 _ _ rx6
      have q1 := cell_of_row w6 _ 1 _ _ _ rx6
      have g1 := frozen_of_row w6 _ 1 _ _ rx6
      have q2 := cell_of_row w6 _ 2 _ _ _ rx6
      have g2 := frozen_of_row w6 _ 2 _ _ rx6
      have q3 := cell_of_row w6 _ 3 _ _ _ rx6
      have g3 := frozen_of_row w6 _ 3 _ _ rx6
      have q4 := cell_of_row w6 _ 4 _ _ _ rx6
      have g4 := frozen_of_row w6 _ 4 _ _ rx6
      have q5 := cell_of_row w6 _ 5 _ _ _ rx6
      have g5 := frozen_of_row w6 _ 5 _ _ rx6
      have q6 := cell_of_row w6 _ 6 _ _ _ rx6
      have g6 := frozen_of_row w6 _ 6 _ _ rx6
      have q7 := cell_of_row w6 _ 7 _ _ _ rx6
      have g7 := frozen_of_row w6 _ 7 _ _ rx6
      have q8 := cell_of_row w6 _ 8 _ _ _ rx6
      have g8 := frozen_of_row w6 _ 8 _ _ rx6
      have q9 := cell_of_row w6 _ 9 _ _ _ rx6
      have g9 := frozen_of_row w6 _ 9 _ _ rx6
      unfold rowX
      have kt := tookKey_any B6.ps hz ⟨#[73, 83]⟩
      rw [hR'] at kt
      unfold tookP at kt
      rw [hR'] at kt
      rw [if_neg (by decide)] at kt
      have HB7 : Hid (Bx w w7 b p c ws w.heap.size w2.heap.size S' Y.2 Y.1 R6) := B6
      clear kS' hL6 hP6 hO6 HB5 rx5 rx6 B6
      go_wp2_with fail
      refine kt.mono ?_
      rintro q w8 ⟨rfl, hP8, hO8⟩
      have B8 := HB7.out.calls hO8 hP8
      clear q0 q1 q2 q3 q4 q5 q6 q7 q8 q9 g0 g1 g2 g3 g4 g5 g6 g7 g8 g9
      have rxf := B8.rx
      have rzf := B8.rz
      unfold arrX at rxf
      unfold zero10 at rzf
      have p0 := cell_of_row w8 _ 0 _ _ _ rxf
      have p1 := cell_of_row w8 _ 1 _ _ _ rxf
      have p2 := cell_of_row w8 _ 2 _ _ _ rxf
      have p3 := cell_of_row w8 _ 3 _ _ _ rxf
      have p4 := cell_of_row w8 _ 4 _ _ _ rxf
      have p5 := cell_of_row w8 _ 5 _ _ _ rxf
      have p6 := cell_of_row w8 _ 6 _ _ _ rxf
      have p7 := cell_of_row w8 _ 7 _ _ _ rxf
      have p8 := cell_of_row w8 _ 8 _ _ _ rxf
      have p9 := cell_of_row w8 _ 9 _ _ _ rxf
      have r0 := cell_of_row w8 _ 0 _ _ _ rzf
      have h0 := frozen_of_row w8 _ 0 _ _ rzf
      have r1 := cell_of_row w8 _ 1 _ _ _ rzf
      have h1 := frozen_of_row w8 _ 1 _ _ rzf
      have r2 := cell_of_row w8 _ 2 _ _ _ rzf
      have h2 := frozen_of_row w8 _ 2 _ _ rzf
      have r3 := cell_of_row w8 _ 3 _ _ _ rzf
      have h3 := frozen_of_row w8 _ 3 _ _ rzf
      have r4 := cell_of_row w8 _ 4 _ _ _ rzf
      have h4 := frozen_of_row w8 _ 4 _ _ rzf
      have r5 := cell_of_row w8 _ 5 _ _ _ rzf
      have h5 := frozen_of_row w8 _ 5 _ _ rzf
      have r6 := cell_of_row w8 _ 6 _ _ _ rzf
      have h6 := frozen_of_row w8 _ 6 _ _ rzf
      have r7 := cell_of_row w8 _ 7 _ _ _ rzf
      have h7 := frozen_of_row w8 _ 7 _ _ rzf
      have r8 := cell_of_row w8 _ 8 _ _ _ rzf
      have h8 := frozen_of_row w8 _ 8 _ _ rzf
      have r9 := cell_of_row w8 _ 9 _ _ _ rzf
      have h9 := frozen_of_row w8 _ 9 _ _ rzf
      have HBf : Hid (Bx w w8 b p c ws w.heap.size w2.heap.size S' Y.2 Y.1 R6) := B8
      clear kt hP8 hO8 HB7 B8 rxf rzf
      go_wp2
      exact bodyPost_ret (results_cell_row Tryz.results113 _ _ w.heap.size 28 _ (0, 0) _ rfl (setR_row HBf.out.rz rfl R6) Tryz.underlying28 rfl (by kernel_rfl)) rfl (HBf.out.done nS)
  ·
    rw [if_neg hr]
    obtain ⟨rk, hrk⟩ : ∃ rk, rankI (wAt ws X.2.at') = rk := ⟨_, rfl⟩
    rw [hrk] at hr
    rw [← isW_isP]
    obtain ⟨Rb, hR⟩ : ∃ R, isW (wAt ws X.2.at') 2 ⟨([73, 83] : List UInt8).toArray⟩ = R := ⟨_, rfl⟩
    have hR' : isW (wAt ws X.2.at') 2 ⟨#[73, 83]⟩ = Rb := hR
    rw [hR]
    clear hR
    cases Rb with
    | true =>
      rw [if_pos rfl]
      obtain ⟨V, hV⟩ : ∃ V, isNullF ws X.1 (takeP X.2) = V := ⟨_, rfl⟩
      have hex3 : (takeP X.2).ex ≤ 900000 := by unfold takeP; simp only; omega
      rw [hV]
      have k1 := kb1 w1 (H.later hb1)
      have HH : Hid (Ps w b p c ws s ∧ Below w.heap.size w w1) := ⟨H, hb1⟩
      clear H hb1
      go_enter Tryz.func113, Tryz.ntmps113
      go_wp2_with fail
      refine k1.mono ?_
      rintro q w2 ⟨d2, v2, rfl, hL2, hP2, hO2⟩
      obtain ⟨R, rfl⟩ := hL2.row
      obtain ⟨w3, hw3⟩ : ∃ w3, w2.alloc (.cells #[.int .i64 R.k, .string R.s, .int .i64 R.vk, .bool R.vb, .int .i64 R.vn, .string R.vs, .slice none 0 0, .slice none 0 0, .slice R.kp R.n R.kc, .slice R.np R.m R.nc] 28) = w3 := ⟨_, rfl⟩
      have hb3 : Below w2.heap.size w2 w3 := by rw [← hw3]; exact (Below.refl _ w2).alloc (Nat.le_refl _) _
      have hs3 : w3.heap.size = w2.heap.size + 1 := by rw [← hw3]; simp
      have rx3 : w3.heap[w2.heap.size]? = some (.cells (arrX R) 28 (0, 0)) := by rw [← hw3]; exact heap_alloc_new _ _
      have s2 := hO2.size
      obtain ⟨S', hS'⟩ : ∃ S', S' = fun k => w.heap.size + 1 ≤ k ∧ k ≠ w2.heap.size := ⟨_, rfl⟩
      have nx : ¬ S' w2.heap.size := by rw [hS']; intro h; exact h.2 rfl
      have nz : ¬ S' w.heap.size := by rw [hS']; intro h; have := h.1; omega
      have nb : ¬ S' b := by rw [hS']; intro h; have := h.1; omega
      have ny : ∀ k, w2.heap.size + 1 ≤ k → S' k := by intro k hk; rw [hS']; exact ⟨by omega, by omega⟩
      have nS : ∀ k, S' k → w.heap.size ≤ k := by intro k hk; rw [hS'] at hk; have := hk.1; omega
      have B3 : Bx w w3 b p c ws w.heap.size w2.heap.size S' X.2 X.1 R := ⟨rx3, (hb3.block _ (by omega)).trans ((hO2.block _ (by omega) (by omega)).trans rz1), ((Onl.of HH.out.2).trans hO2).trans (Onl.of hb3), hP2.later hb3, ⟨d2, (hL2.imp fun k hk hl => by rw [hS']; exact ⟨by omega, by omega⟩).since (Since.below hb3)⟩, ⟨lb, by omega, by omega, by omega⟩, hold, ⟨nx, nz, nb⟩⟩
      have kw := word_any B3.ps
      have HB : Hid (Bx w w3 b p c ws w.heap.size w2.heap.size S' X.2 X.1 R) := B3
      clear k1 hL2 hP2 hO2 hb3 rx3 hS' B3
      unfold rowX
      go_wp2_with fail
      refine kw.mono ?_
      rintro q w4 ⟨rfl, hb4⟩
      have B4 := HB.out.quiet hb4
      have kr := rank_any (wAt ws X.2.at') w4
      rw [hrk] at kr
      have s4 := hb4.size
      have HB4 : Hid (Bx w w4 b p c ws w.heap.size w2.heap.size S' X.2 X.1 R) := B4
      clear kw hb4 B4 HB hw3
      go_wp2_with fail
      refine kr.mono ?_
      rintro q w5 ⟨rfl, hb5⟩
      have B5 := HB4.out.quiet hb5
      have s5 := hb5.size
      clear kr hb5 HB4
      have kt := tookKey_any B5.ps hz ⟨#[73, 83]⟩
      rw [hR'] at kt
      unfold tookP at kt
      rw [hR'] at kt
      rw [if_pos rfl] at kt
      have HB7 : Hid (Bx w w5 b p c ws w.heap.size w2.heap.size S' X.2 X.1 R) := B5
      clear B5
      go_wp2_with fail
      refine kt.mono ?_
      rintro q w8 ⟨rfl, hP8, hO8⟩
      have B8 := HB7.out.calls hO8 hP8
      have s8 := hO8.size
      obtain ⟨d8, hd8⟩ := B8.lies
      have kn := isNull_any B8.ps hz hex3 (S := S') ⟨nb, fun k hk => ny k (by omega)⟩ hd8
      have kn' : Calls Tryz.prog 134 #[.pointer (some ⟨b, 0, none⟩), .agg #[.int .i64 R.k, .string R.s, .int .i64 R.vk, .bool R.vb, .int .i64 R.vn, .string R.vs, .slice none 0 0, .slice none 0 0, .slice R.kp R.n R.kc, .slice R.np R.m R.nc]] w8 (Gives ws S' w8 b p c (isNullF ws X.1 (takeP X.2))) := kn
      rw [hV] at kn'
      have rx8 := B8.rx
      unfold arrX at rx8
      have p0 := cell_of_row w8 _ 0 _ _ _ rx8
      have p1 := cell_of_row w8 _ 1 _ _ _ rx8
      have p2 := cell_of_row w8 _ 2 _ _ _ rx8
      have p3 := cell_of_row w8 _ 3 _ _ _ rx8
      have p4 := cell_of_row w8 _ 4 _ _ _ rx8
      have p5 := cell_of_row w8 _ 5 _ _ _ rx8
      have p6 := cell_of_row w8 _ 6 _ _ _ rx8
      have p7 := cell_of_row w8 _ 7 _ _ _ rx8
      have p8 := cell_of_row w8 _ 8 _ _ _ rx8
      have p9 := cell_of_row w8 _ 9 _ _ _ rx8
      have HB8 : Hid (Bx w w8 b p c ws w.heap.size w2.heap.size S' (takeP X.2) X.1 R) := B8
      clear kn hd8 B8 kt hP8 hO8 HB7
      go_wp2_with fail
      refine kn'.mono ?_
      rintro q w9 ⟨d9, v9, rfl, hL9, hP9, hO9⟩
      obtain ⟨R9, rfl⟩ := hL9.row
      have B9 := HB8.out.store hO9 hP9 hL9
      have rx9 := (HB8.out.calls hO9 hP9).rx
      unfold arrX at rx9
      obtain ⟨w10, hw10⟩ : ∃ w10, setR w9 w2.heap.size R9 = w10 := ⟨_, rfl⟩
      rw [hw10] at B9
      unfold setR set10 at hw10
      clear p0 p1 p2 p3 p4 p5 p6 p7 p8 p9
      have q0 := cell_of_row w9 _ 0 _ _ _ rx9
      have g0 := frozen_of_row w9 _ 0 _ _ rx9
      have q1 := cell_of_row w9 _ 1 _ _ _ rx9
      have g1 := frozen_of_row w9 _ 1 _ _ rx9
      have q2 := cell_of_row w9 _ 2 _ _ _ rx9
      have g2 := frozen_of_row w9 _ 2 _ _ rx9
      have q3 := cell_of_row w9 _ 3 _ _ _ rx9
      have g3 := frozen_of_row w9 _ 3 _ _ rx9
      have q4 := cell_of_row w9 _ 4 _ _ _ rx9
      have g4 := frozen_of_row w9 _ 4 _ _ rx9
      have q5 := cell_of_row w9 _ 5 _ _ _ rx9
      have g5 := frozen_of_row w9 _ 5 _ _ rx9
      have q6 := cell_of_row w9 _ 6 _ _ _ rx9
      have g6 := frozen_of_row w9 _ 6 _ _ rx9
      have q7 := cell_of_row w9 _ 7 _ _ _ rx9
      have g7 := frozen_of_row w9 _ 7 _ _ rx9
      have q8 := cell_of_row w9 _ 8 _ _ _ rx9
      have g8 := frozen_of_row w9 _ 8 _ _ rx9
      have q9 := cell_of_row w9 _ 9 _ _ _ rx9
      have g9 := frozen_of_row w9 _ 9 _ _ rx9
      unfold rowX
      have rxf := B9.rx
      have rzf := B9.rz
      unfold arrX at rxf
      unfold zero10 at rzf
      have p0 := cell_of_row w10 _ 0 _ _ _ rxf
      have p1 := cell_of_row w10 _ 1 _ _ _ rxf
      have p2 := cell_of_row w10 _ 2 _ _ _ rxf
      have p3 := cell_of_row w10 _ 3 _ _ _ rxf
      have p4 := cell_of_row w10 _ 4 _ _ _ rxf
      have p5 := cell_of_row w10 _ 5 _ _ _ rxf
      have p6 := cell_of_row w10 _ 6 _ _ _ rxf
      have p7 := cell_of_row w10 _ 7 _ _ _ rxf
      have p8 := cell_of_row w10 _ 8 _ _ _ rxf
      have p9 := cell_of_row w10 _ 9 _ _ _ rxf
      have r0 := cell_of_row w10 _ 0 _ _ _ rzf
      have h0 := frozen_of_row w10 _ 0 _ _ rzf
      have r1 := cell_of_row w10 _ 1 _ _ _ rzf
      have h1 := frozen_of_row w10 _ 1 _ _ rzf
      have r2 := cell_of_row w10 _ 2 _ _ _ rzf
      have h2 := frozen_of_row w10 _ 2 _ _ rzf
      have r3 := cell_of_row w10 _ 3 _ _ _ rzf
      have h3 := frozen_of_row w10 _ 3 _ _ rzf
      have r4 := cell_of_row w10 _ 4 _ _ _ rzf
      have h4 := frozen_of_row w10 _ 4 _ _ rzf
      have r5 := cell_of_row w10 _ 5 _ _ _ rzf
      have h5 := frozen_of_row w10 _ 5 _ _ rzf
      have r6 := cell_of_row w10 _ 6 _ _ _ rzf
      have h6 := frozen_of_row w10 _ 6 _ _ rzf
      have r7 := cell_of_row w10 _ 7 _ _ _ rzf
      have h7 := frozen_of_row w10 _ 7 _ _ rzf
      have r8 := cell_of_row w10 _ 8 _ _ _ rzf
      have h8 := frozen_of_row w10 _ 8 _ _ rzf
      have r9 := cell_of_row w10 _ 9 _ _ _ rzf
      have h9 := frozen_of_row w10 _ 9 _ _ rzf
      have HBf : Hid (Bx w w10 b p c ws w.heap.size w2.heap.size S' V.2 V.1 R9) := B9
      clear kn' hL9 hP9 hO9 HB8 rx8 rx9 B9 rxf rzf
      go_wp2
      exact bodyPost_ret (results_cell_row Tryz.results113 _ _ w.heap.size 28 _ (0, 0) _ rfl (setR_row HBf.out.rz rfl R9) Tryz.underlying28 rfl (by kernel_rfl)) rfl (HBf.out.done nS)
    | false =>
      rw [if_neg (by decide)]
      have k1 := kb1 w1 (H.later hb1)
      have HH : Hid (Ps w b p c ws s ∧ Below w.heap.size w w1) := ⟨H, hb1⟩
      clear H hb1
      go_enter Tryz.func113, Tryz.ntmps113
      go_wp2_with fail
      refine k1.mono ?_
      rintro q w2 ⟨d2, v2, rfl, hL2, hP2, hO2⟩
      obtain ⟨R, rfl⟩ := hL2.row
      obtain ⟨w3, hw3⟩ : ∃ w3, w2.alloc (.cells #[.int .i64 R.k, .string R.s, .int .i64 R.vk, .bool R.vb, .int .i64 R.vn, .string R.vs, .slice none 0 0, .slice none 0 0, .slice R.kp R.n R.kc, .slice R.np R.m R.nc] 28) = w3 := ⟨_, rfl⟩
      have hb3 : Below w2.heap.size w2 w3 := by rw [← hw3]; exact (Below.refl _ w2).alloc (Nat.le_refl _) _
      have hs3 : w3.heap.size = w2.heap.size + 1 := by rw [← hw3]; simp
      have rx3 : w3.heap[w2.heap.size]? = some (.cells (arrX R) 28 (0, 0)) := by rw [← hw3]; exact heap_alloc_new _ _
      have s2 := hO2.size
      obtain ⟨S', hS'⟩ : ∃ S', S' = fun k => w.heap.size + 1 ≤ k ∧ k ≠ w2.heap.size := ⟨_, rfl⟩
      have nx : ¬ S' w2.heap.size := by rw [hS']; intro h; exact h.2 rfl
      have nz : ¬ S' w.heap.size := by rw [hS']; intro h; have := h.1; omega
      have nb : ¬ S' b := by rw [hS']; intro h; have := h.1; omega
      have ny : ∀ k, w2.heap.size + 1 ≤ k → S' k := by intro k hk; rw [hS']; exact ⟨by omega, by omega⟩
      have nS : ∀ k, S' k → w.heap.size ≤ k := by intro k hk; rw [hS'] at hk; have := hk.1; omega
      have B3 : Bx w w3 b p c ws w.heap.size w2.heap.size S' X.2 X.1 R := ⟨rx3, (hb3.block _ (by omega)).trans ((hO2.block _ (by omega) (by omega)).trans rz1), ((Onl.of HH.out.2).trans hO2).trans (Onl.of hb3), hP2.later hb3, ⟨d2, (hL2.imp fun k hk hl => by rw [hS']; exact ⟨by omega, by omega⟩).since (Since.below hb3)⟩, ⟨lb, by omega, by omega, by omega⟩, hold, ⟨nx, nz, nb⟩⟩
      have kw := word_any B3.ps
      have HB : Hid (Bx w w3 b p c ws w.heap.size w2.heap.size S' X.2 X.1 R) := B3
      clear k1 hL2 hP2 hO2 hb3 rx3 hS' B3
      unfold rowX
      go_wp2_with fail
      refine kw.mono ?_
      rintro q w4 ⟨rfl, hb4⟩
      have B4 := HB.out.quiet hb4
      have kr := rank_any (wAt ws X.2.at') w4
      rw [hrk] at kr
      have s4 := hb4.size
      have HB4 : Hid (Bx w w4 b p c ws w.heap.size w2.heap.size S' X.2 X.1 R) := B4
      clear kw hb4 B4 HB hw3
      go_wp2_with fail
      refine kr.mono ?_
      rintro q w5 ⟨rfl, hb5⟩
      have B5 := HB4.out.quiet hb5
      have s5 := hb5.size
      clear kr hb5 HB4
      have kt := tookKey_any B5.ps hz ⟨#[73, 83]⟩
      rw [hR'] at kt
      unfold tookP at kt
      rw [hR'] at kt
      rw [if_neg (by decide)] at kt
      have HB7 : Hid (Bx w w5 b p c ws w.heap.size w2.heap.size S' X.2 X.1 R) := B5
      clear B5
      go_wp2_with fail
      refine kt.mono ?_
      rintro q w8 ⟨rfl, hP8, hO8⟩
      have B8 := HB7.out.calls hO8 hP8
      have rxf := B8.rx
      have rzf := B8.rz
      unfold arrX at rxf
      unfold zero10 at rzf
      have p0 := cell_of_row w8 _ 0 _ _ _ rxf
      have p1 := cell_of_row w8 _ 1 _ _ _ rxf
      have p2 := cell_of_row w8 _ 2 _ _ _ rxf
      have p3 := cell_of_row w8 _ 3 _ _ _ rxf
      have p4 := cell_of_row w8 _ 4 _ _ _ rxf
      have p5 := cell_of_row w8 _ 5 _ _ _ rxf
      have p6 := cell_of_row w8 _ 6 _ _ _ rxf
      have p7 := cell_of_row w8 _ 7 _ _ _ rxf
      have p8 := cell_of_row w8 _ 8 _ _ _ rxf
      have p9 := cell_of_row w8 _ 9 _ _ _ rxf
      have r0 := cell_of_row w8 _ 0 _ _ _ rzf
      have h0 := frozen_of_row w8 _ 0 _ _ rzf
      have r1 := cell_of_row w8 _ 1 _ _ _ rzf
      have h1 := frozen_of_row w8 _ 1 _ _ rzf
      have r2 := cell_of_row w8 _ 2 _ _ _ rzf
      have h2 := frozen_of_row w8 _ 2 _ _ rzf
      have r3 := cell_of_row w8 _ 3 _ _ _ rzf
      have h3 := frozen_of_row w8 _ 3 _ _ rzf
      have r4 := cell_of_row w8 _ 4 _ _ _ rzf
      have h4 := frozen_of_row w8 _ 4 _ _ rzf
      have r5 := cell_of_row w8 _ 5 _ _ _ rzf
      have h5 := frozen_of_row w8 _ 5 _ _ rzf
      have r6 := cell_of_row w8 _ 6 _ _ _ rzf
      have h6 := frozen_of_row w8 _ 6 _ _ rzf
      have r7 := cell_of_row w8 _ 7 _ _ _ rzf
      have h7 := frozen_of_row w8 _ 7 _ _ rzf
      have r8 := cell_of_row w8 _ 8 _ _ _ rzf
      have h8 := frozen_of_row w8 _ 8 _ _ rzf
      have r9 := cell_of_row w8 _ 9 _ _ _ rzf
      have h9 := frozen_of_row w8 _ 9 _ _ rzf
      have HBf : Hid (Bx w w8 b p c ws w.heap.size w2.heap.size S' X.2 X.1 R) := B8
      clear kt hP8 hO8 HB7 B8 rxf rzf
      go_wp2
      exact bodyPost_ret (results_cell_row Tryz.results113 _ _ w.heap.size 28 _ (0, 0) _ rfl (setR_row HBf.out.rz rfl R) Tryz.underlying28 rfl (by kernel_rfl)) rfl (HBf.out.done nS)
end Go.Proofs.YthgagldpjledgaaGreatDoor
