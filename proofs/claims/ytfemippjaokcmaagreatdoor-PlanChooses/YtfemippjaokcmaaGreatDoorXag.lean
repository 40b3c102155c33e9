/- A comparison (comparison). NOT (negation). Signs of one rank, from the left (bound's loop). -/
import Derived.Test.YtfemippjaokcmaaGreatDoorXaf
namespace Go.Proofs.YtfemippjaokcmaaGreatDoor
open Go.RowKit Go.Shelf
attribute [local go_sem] Oper.semAt_some fw0 fw1 fw2
set_option maxRecDepth 100000 in
set_option maxHeartbeats 8000000 in
theorem comparison_any {w : World} {b : Nat} {p : Option Addr} {c : Nat} {ws : List Wd} {s : PS} (H : Ps w b p c ws s) (hz : Wz ws) (F : PS → Et × PS)
    (kb1 : ∀ W, Ps W b p c ws s → Calls Tryz.prog 145 #[.pointer (some ⟨b, 0, none⟩), .int .i64 4] W (Gives ws (fun k => W.heap.size ≤ k) W b p c (F s))) (hlt : (F s).2.at' < ws.length) (hx1 : (F s).2.ex ≤ 800000)
    (kb2 : ∀ W, Ps W b p c ws (takeP (F s).2) → Calls Tryz.prog 145 #[.pointer (some ⟨b, 0, none⟩), .int .i64 (((3 : Nat) : Int) + 1)] W (Gives ws (fun k => W.heap.size ≤ k) W b p c (F (takeP (F s).2)))) (hx2 : (F (takeP (F s).2)).2.ex ≤ 800000) :
    Calls Tryz.prog 163 #[.pointer (some ⟨b, 0, none⟩)] w (Gives ws (fun k => w.heap.size ≤ k) w b p c (cmpF ws F s)) := by
  have hold := H.old
  have lb := lt_of_row H.row
  obtain ⟨X, hX⟩ : ∃ X, F s = X := ⟨_, rfl⟩
  unfold cmpF cmpI cmpS
  rw [hX] at kb1 kb2 hx1 hx2 hlt ⊢
  clear hX
  obtain ⟨w1, hw1⟩ : ∃ w1, w.alloc (.cells #[.int .i64 0, .string ⟨#[]⟩, .int .i64 0, .bool false, .int .i64 0, .string ⟨#[]⟩, .slice none 0 0, .slice none 0 0, .slice none 0 0, .slice none 0 0] 28) = w1 := ⟨_, rfl⟩
  have hb1 : Below w.heap.size w w1 := by rw [← hw1]; exact (Below.refl _ w).alloc (Nat.le_refl _) _
  have hs1 : w1.heap.size = w.heap.size + 1 := by rw [← hw1]; simp
  have rz1 : w1.heap[w.heap.size]? = some (.cells zero10 28 (0, 0)) := by rw [← hw1]; exact heap_alloc_new _ _
  by_cases hr : rankI (wAt ws X.2.at') = 3
  ·
    rw [if_pos hr]
    have hrk : rankI (wAt ws X.2.at') = 3 := hr
    have h1 : X.2.at' + 1 < ws.length := hz.next hlt (rankI_kind (by rw [hrk]; decide))
    obtain ⟨Y, hY⟩ : ∃ Y, sidesF ws F X.1 X.2 = Y := ⟨_, rfl⟩
    have hYx : Y.2.ex ≤ 800001 := by rw [← hY]; unfold sidesF; rw [wholeP_ex]; omega
    rw [hY]
    rw [← isW_isP]
    obtain ⟨Rb, hR⟩ : ∃ R, isW (wAt ws Y.2.at') 2 ⟨([73, 83] : List UInt8).toArray⟩ = R := ⟨_, rfl⟩
    have hR' : isW (wAt ws Y.2.at') 2 ⟨#[73, 83]⟩ = Rb := hR
    rw [hR]
    clear hR
    cases Rb with
    | true =>
      rw [if_pos rfl]
      obtain ⟨V, hV⟩ : ∃ V, isNullF ws Y.1 (takeP Y.2) = V := ⟨_, rfl⟩
      have hex3 : (takeP Y.2).ex ≤ 900000 := by unfold takeP; simp only; omega
      rw [hV]
      have k1 := kb1 w1 (H.later hb1)
      have HH : Hid (Ps w b p c ws s ∧ Below w.heap.size w w1) := ⟨H, hb1⟩
      clear H hb1
      go_enter Tryz.func163, Tryz.ntmps163
      go_wp2_with fail
      refine k1.mono ?_
      rintro q w2 ⟨d2, v2, rfl, hL2, hP2, hO2⟩
      obtain ⟨R, rfl⟩ := hL2.row
      obtain ⟨w3, hw3⟩ : ∃ w3, w2.alloc (.cells #[.int .i64 R.k, .string R.s, .int .i64 R.vk, .bool R.vb, .int .i64 R.vn, .string R.vs, .slice none 0 0, .slice none 0 0, .slice R.kp R.n R.kc, .slice R.np R.m R.nc] 28) = w3 := ⟨_, rfl⟩
      have hb3 : Below w2.heap.size w2 w3 := by rw [← hw3]; exact (Below.refl _ w2).alloc (Nat.le_refl _) _
      have hs3 : w3.heap.size = w2.heap.size + 1 := by rw [← hw3]; simp
      have rx3 : w3.heap[w2.heap.size]? = some (.cells (arrX R) 28 (0, 0)) := by rw [← hw3]; exact heap_alloc_new _ _
      have s2 := hO2.size
      obtain ⟨S', hS'⟩ : ∃ S', S' = fun k => w.heap.size + 1 ≤ k ∧ k ≠ w2.heap.size := ⟨_, rfl⟩
      have nx : ¬ S' w2.heap.size := by rw [hS']; intro h; exact h.2 rfl
      have nz : ¬ S' w.heap.size := by rw [hS']; intro h; have := h.1; omega
      have nb : ¬ S' b := by rw [hS']; intro h; have := h.1; omega
      have ny : ∀ k, w2.heap.size + 1 ≤ k → S' k := by intro k hk; rw [hS']; exact ⟨by omega, by omega⟩
      have nS : ∀ k, S' k → w.heap.size ≤ k := by intro k hk; rw [hS'] at hk; have := hk.1; omega
      have B3 : Bx w w3 b p c ws w.heap.size w2.heap.size S' X.2 X.1 R := ⟨rx3, (hb3.block _ (by omega)).trans ((hO2.block _ (by omega) (by omega)).trans rz1), ((Onl.of HH.out.2).trans hO2).trans (Onl.of hb3), hP2.later hb3, ⟨d2, (hL2.imp fun k hk hl => by rw [hS']; exact ⟨by omega, by omega⟩).since (Since.below hb3)⟩, ⟨lb, by omega, by omega, by omega⟩, hold, ⟨nx, nz, nb⟩⟩
      have kw := word_any B3.ps
      have HB : Hid (Bx w w3 b p c ws w.heap.size w2.heap.size S' X.2 X.1 R) := B3
      clear k1 hL2 hP2 hO2 hb3 rx3 hS' B3
      unfold rowX
      go_wp2_with fail
      refine kw.mono ?_
      rintro q w4 ⟨rfl, hb4⟩
      have B4 := HB.out.quiet hb4
      have kr := rank_any (wAt ws X.2.at') w4
      rw [hrk] at kr
      have s4 := hb4.size
      have HB4 : Hid (Bx w w4 b p c ws w.heap.size w2.heap.size S' X.2 X.1 R) := B4
      clear kw hb4 B4 HB hw3
      go_wp2_with fail
      refine kr.mono ?_
      rintro q w5 ⟨rfl, hb5⟩
      have B5 := HB4.out.quiet hb5
      have s5 := hb5.size
      clear kr hb5 HB4
      obtain ⟨d5, hd5⟩ := B5.lies
      have kS := sides_any B5.ps h1 3 (by decide) F kb2 (by omega) (S := S') ⟨nb, fun k hk => ny k (by omega)⟩ hd5
      have kS' : Calls Tryz.prog 166 #[.pointer (some ⟨b, 0, none⟩), .agg #[.int .i64 R.k, .string R.s, .int .i64 R.vk, .bool R.vb, .int .i64 R.vn, .string R.vs, .slice none 0 0, .slice none 0 0, .slice R.kp R.n R.kc, .slice R.np R.m R.nc], .int .i64 3] w5 (Gives ws S' w5 b p c (sidesF ws F X.1 X.2)) := kS
      rw [hY] at kS'
      have rx5 := B5.rx
      unfold arrX at rx5
      have p0 := cell_of_row w5 _ 0 _ _ _ rx5
      have p1 := cell_of_row w5 _ 1 _ _ _ rx5
      have p2 := cell_of_row w5 _ 2 _ _ _ rx5
      have p3 := cell_of_row w5 _ 3 _ _ _ rx5
      have p4 := cell_of_row w5 _ 4 _ _ _ rx5
      have p5 := cell_of_row w5 _ 5 _ _ _ rx5
      have p6 := cell_of_row w5 _ 6 _ _ _ rx5
      have p7 := cell_of_row w5 _ 7 _ _ _ rx5
      have p8 := cell_of_row w5 _ 8 _ _ _ rx5
      have p9 := cell_of_row w5 _ 9 _ _ _ rx5
      have HB5 : Hid (Bx w w5 b p c ws w.heap.size w2.heap.size S' X.2 X.1 R) := B5
      clear kS hd5 B5
      go_wp2_with fail
      refine kS'.mono ?_
      rintro q w6 ⟨d6, v6, rfl, hL6, hP6, hO6⟩
      obtain ⟨R6, rfl⟩ := hL6.row
      have B6 := HB5.out.store hO6 hP6 hL6
      have rx6 := (HB5.out.calls hO6 hP6).rx
      unfold arrX at rx6
      have s6 := hO6.size
      obtain ⟨w7, hw7⟩ : ∃ w7, setR w6 w2.heap.size R6 = w7 := ⟨_, rfl⟩
      have s7 : w7.heap.size = w6.heap.size := by rw [← hw7]; exact set10_size _ _ _ _ _ _ _ _ _ _ _ _
      rw [hw7] at B6
      unfold setR set10 at hw7
      clear p0 p1 p2 p3 p4 p5 p6 p7 p8 p9
      have q0 := cell_of_row w6 _ 0 _ _ _ rx6
      have g0 := frozen_of_row w6 _ 0 _ _ rx6
      have q1 := cell_of_row w6 _ 1 _ _ _ rx6
      have g1 := frozen_of_row w6 _ 1 _ _ rx6
      have q2 := cell_of_row w6 _ 2 _ _ _ rx6
      have g2 := frozen_of_row w6 _ 2 _ _ rx6
      have q3 := cell_of_row w6 _ 3 _ _ _ rx6
      have g3 := frozen_of_row w6 _ 3 _ _ rx6
      have q4 := cell_of_row w6 _ 4 _ _ _ rx6
      have g4 := frozen_of_row w6 _ 4 _ _ rx6
      have q5 := cell_of_row w6 _ 5 _ _ _ rx6
      have g5 := frozen_of_row w6 _ 5 _ _ rx6
      have q6 := cell_of_row w6 _ 6 _ _ _ rx6
      have g6 := frozen_of_row w6 _ 6 _ _ rx6
      have q7 := cell_of_row w6 _ 7 _ _ _ rx6
      have g7 := frozen_of_row w6 _ 7 _ _ rx6
      have q8 := cell_of_row w6 _ 8 _ _ _ rx6
      have g8 := frozen_of_row w6 _ 8 _ _ rx6
      have q9 := cell_of_row w6 _ 9 _ _ _ rx6
      have g9 := frozen_of_row w6 _ 9 _ _ rx6
      unfold rowX
      have kt := tookKey_any B6.ps hz ⟨#[73, 83]⟩
      rw [hR'] at kt
      unfold tookP at kt
      rw [hR'] at kt
      rw [if_pos rfl] at kt
      have HB7 : Hid (Bx w w7 b p c ws w.heap.size w2.heap.size S' Y.2 Y.1 R6) := B6
      clear kS' hL6 hP6 hO6 HB5 rx5 rx6 B6
      go_wp2_with fail
      refine kt.mono ?_
      rintro q w8 ⟨rfl, hP8, hO8⟩
      have B8 := HB7.out.calls hO8 hP8
      have s8 := hO8.size
      obtain ⟨d8, hd8⟩ := B8.lies
      have kn := isNull_any B8.ps hz hex3 (S := S') ⟨nb, fun k hk => ny k (by omega)⟩ hd8
      have kn' : Calls Tryz.prog 181 #[.pointer (some ⟨b, 0, none⟩), .agg #[.int .i64 R6.k, .string R6.s, .int .i64 R6.vk, .bool R6.vb, .int .i64 R6.vn, .string R6.vs, .slice none 0 0, .slice none 0 0, .slice R6.kp R6.n R6.kc, .slice R6.np R6.m R6.nc]] w8 (Gives ws S' w8 b p c (isNullF ws Y.1 (takeP Y.2))) := kn
      rw [hV] at kn'
      have rx8 := B8.rx
      unfold arrX at rx8
      clear q0 q1 q2 q3 q4 q5 q6 q7 q8 q9 g0 g1 g2 g3 g4 g5 g6 g7 g8 g9
      have p0 := cell_of_row w8 _ 0 _ _ _ rx8
      have p1 := cell_of_row w8 _ 1 _ _ _ rx8
      have p2 := cell_of_row w8 _ 2 _ _ _ rx8
      have p3 := cell_of_row w8 _ 3 _ _ _ rx8
      have p4 := cell_of_row w8 _ 4 _ _ _ rx8
      have p5 := cell_of_row w8 _ 5 _ _ _ rx8
      have p6 := cell_of_row w8 _ 6 _ _ _ rx8
      have p7 := cell_of_row w8 _ 7 _ _ _ rx8
      have p8 := cell_of_row w8 _ 8 _ _ _ rx8
      have p9 := cell_of_row w8 _ 9 _ _ _ rx8
      have HB8 : Hid (Bx w w8 b p c ws w.heap.size w2.heap.size S' (takeP Y.2) Y.1 R6) := B8
      clear kn hd8 B8 kt hP8 hO8 HB7
      go_wp2_with fail
      refine kn'.mono ?_
      rintro q w9 ⟨d9, v9, rfl, hL9, hP9, hO9⟩
      obtain ⟨R9, rfl⟩ := hL9.row
      have B9 := HB8.out.store hO9 hP9 hL9
      have rx9 := (HB8.out.calls hO9 hP9).rx
      unfold arrX at rx9
      obtain ⟨w10, hw10⟩ : ∃ w10, setR w9 w2.heap.size R9 = w10 := ⟨_, rfl⟩
      rw [hw10] at B9
      unfold setR set10 at hw10
      clear p0 p1 p2 p3 p4 p5 p6 p7 p8 p9
      have q0 := cell_of_row w9 _ 0 _ _ _ rx9
      have g0 := frozen_of_row w9 _ 0 _ _ rx9
      have q1 := cell_of_row w9 _ 1 _ _ _ rx9
      have g1 := frozen_of_row w9 _ 1 _ _ rx9
      have q2 := cell_of_row w9 _ 2 _ _ _ rx9
      have g2 := frozen_of_row w9 _ 2 _ _ rx9
      have q3 := cell_of_row w9 _ 3 _ _ _ rx9
      have g3 := frozen_of_row w9 _ 3 _ _ rx9
      have q4 := cell_of_row w9 _ 4 _ _ _ rx9
      have g4 := frozen_of_row w9 _ 4 _ _ rx9
      have q5 := cell_of_row w9 _ 5 _ _ _ rx9
      have g5 := frozen_of_row w9 _ 5 _ _ rx9
      have q6 := cell_of_row w9 _ 6 _ _ _ rx9
      have g6 := frozen_of_row w9 _ 6 _ _ rx9
      have q7 := cell_of_row w9 _ 7 _ _ _ rx9
      have g7 := frozen_of_row w9 _ 7 _ _ rx9
      have q8 := cell_of_row w9 _ 8 _ _ _ rx9
      have g8 := frozen_of_row w9 _ 8 _ _ rx9
      have q9 := cell_of_row w9 _ 9 _ _ _ rx9
      have g9 := frozen_of_row w9 _ 9 _ _ rx9
      unfold rowX
      have rxf := B9.rx
      have rzf := B9.rz
      unfold arrX at rxf
      unfold zero10 at rzf
      have p0 := cell_of_row w10 _ 0 _ _ _ rxf
      have p1 := cell_of_row w10 _ 1 _ _ _ rxf
      have p2 := cell_of_row w10 _ 2 _ _ _ rxf
      have p3 := cell_of_row w10 _ 3 _ _ _ rxf
      have p4 := cell_of_row w10 _ 4 _ _ _ rxf
      have p5 := cell_of_row w10 _ 5 _ _ _ rxf
      have p6 := cell_of_row w10 _ 6 _ _ _ rxf
      have p7 := cell_of_row w10 _ 7 _ _ _ rxf
      have p8 := cell_of_row w10 _ 8 _ _ _ rxf
      have p9 := cell_of_row w10 _ 9 _ _ _ rxf
      have r0 := cell_of_row w10 _ 0 _ _ _ rzf
      have h0 := frozen_of_row w10 _ 0 _ _ rzf
      have r1 := cell_of_row w10 _ 1 _ _ _ rzf
      have h1 := frozen_of_row w10 _ 1 _ _ rzf
      have r2 := cell_of_row w10 _ 2 _ _ _ rzf
      have h2 := frozen_of_row w10 _ 2 _ _ rzf
      have r3 := cell_of_row w10 _ 3 _ _ _ rzf
      have h3 := frozen_of_row w10 _ 3 _ _ rzf
      have r4 := cell_of_row w10 _ 4 _ _ _ rzf
      have h4 := frozen_of_row w10 _ 4 _ _ rzf
      have r5 := cell_of_row w10 _ 5 _ _ _ rzf
      have h5 := frozen_of_row w10 _ 5 _ _ rzf
      have r6 := cell_of_row w10 _ 6 _ _ _ rzf
      have h6 := frozen_of_row w10 _ 6 _ _ rzf
      have r7 := cell_of_row w10 _ 7 _ _ _ rzf
      have h7 := frozen_of_row w10 _ 7 _ _ rzf
      have r8 := cell_of_row w10 _ 8 _ _ _ rzf
      have h8 := frozen_of_row w10 _ 8 _ _ rzf
      have r9 := cell_of_row w10 _ 9 _ _ _ rzf
      have h9 := frozen_of_row w10 _ 9 _ _ rzf
      have HBf : Hid (Bx w w10 b p c ws w.heap.size w2.heap.size S' V.2 V.1 R9) := B9
      clear kn' hL9 hP9 hO9 HB8 rx8 rx9 B9 rxf rzf
      go_wp2
      exact bodyPost_ret (results_cell_row Tryz.results163 _ _ w.heap.size 28 _ (0, 0) _ rfl (setR_row HBf.out.rz rfl R9) Tryz.underlying28 rfl (by kernel_rfl)) rfl (HBf.out.done nS)
    | false =>
      rw [if_neg (by decide)]
      have k1 := kb1 w1 (H.later hb1)
      have HH : Hid (Ps w b p c ws s ∧ Below w.heap.size w w1) := ⟨H, hb1⟩
      clear H hb1
      go_enter Tryz.func163, Tryz.ntmps163
      go_wp2_with fail
      refine k1.mono ?_
      rintro q w2 ⟨d2, v2, rfl, hL2, hP2, hO2⟩
      obtain ⟨R, rfl⟩ := hL2.row
      obtain ⟨w3, hw3⟩ : ∃ w3, w2.alloc (.cells #[.int .i64 R.k, .string R.s, .int .i64 R.vk, .bool R.vb, .int .i64 R.vn, .string R.vs, .slice none 0 0, .slice none 0 0, .slice R.kp R.n R.kc, .slice R.np R.m R.nc] 28) = w3 := ⟨_, rfl⟩
      have hb3 : Below w2.heap.size w2 w3 := by rw [← hw3]; exact (Below.refl _ w2).alloc (Nat.le_refl _) _
      have hs3 : w3.heap.size = w2.heap.size + 1 := by rw [← hw3]; simp
      have rx3 : w3.heap[w2.heap.size]? = some (.cells (arrX R) 28 (0, 0)) := by rw [← hw3]; exact heap_alloc_new _ _
      have s2 := hO2.size
      obtain ⟨S', hS'⟩ : ∃ S', S' = fun k => w.heap.size + 1 ≤ k ∧ k ≠ w2.heap.size := ⟨_, rfl⟩
      have nx : ¬ S' w2.heap.size := by rw [hS']; intro h; exact h.2 rfl
      have nz : ¬ S' w.heap.size := by rw [hS']; intro h; have := h.1; omega
      have nb : ¬ S' b := by rw [hS']; intro h; have := h.1; omega
      have ny : ∀ k, w2.heap.size + 1 ≤ k → S' k := by intro k hk; rw [hS']; exact ⟨by omega, by omega⟩
      have nS : ∀ k, S' k → w.heap.size ≤ k := by intro k hk; rw [hS'] at hk; have := hk.1; omega
      have B3 : Bx w w3 b p c ws w.heap.size w2.heap.size S' X.2 X.1 R := ⟨rx3, (hb3.block _ (by omega)).trans ((hO2.block _ (by omega) (by omega)).trans rz1), ((Onl.of HH.out.2).trans hO2).trans (Onl.of hb3), hP2.later hb3, ⟨d2, (hL2.imp fun k hk hl => by rw [hS']; exact ⟨by omega, by omega⟩).since (Since.below hb3)⟩, ⟨lb, by omega, by omega, by omega⟩, hold, ⟨nx, nz, nb⟩⟩
      have kw := word_any B3.ps
      have HB : Hid (Bx w w3 b p c ws w.heap.size w2.heap.size S' X.2 X.1 R) := B3
      clear k1 hL2 hP2 hO2 hb3 rx3 hS' B3
      unfold rowX
      go_wp2_with fail
      refine kw.mono ?_
      rintro q w4 ⟨rfl, hb4⟩
      have B4 := HB.out.quiet hb4
      have kr := rank_any (wAt ws X.2.at') w4
      rw [hrk] at kr
      have s4 := hb4.size
      have HB4 : Hid (Bx w w4 b p c ws w.heap.size w2.heap.size S' X.2 X.1 R) := B4
      clear kw hb4 B4 HB hw3
      go_wp2_with fail
      refine kr.mono ?_
      rintro q w5 ⟨rfl, hb5⟩
      have B5 := HB4.out.quiet hb5
      have s5 := hb5.size
      clear kr hb5 HB4
      obtain ⟨d5, hd5⟩ := B5.lies
      have kS := sides_any B5.ps h1 3 (by decide) F kb2 (by omega) (S := S') ⟨nb, fun k hk => ny k (by omega)⟩ hd5
      have kS' : Calls Tryz.prog 166 #[.pointer (some ⟨b, 0, none⟩), .agg #[.int .i64 R.k, .string R.s, .int .i64 R.vk, .bool R.vb, .int .i64 R.vn, .string R.vs, .slice none 0 0, .slice none 0 0, .slice R.kp R.n R.kc, .slice R.np R.m R.nc], .int .i64 3] w5 (Gives ws S' w5 b p c (sidesF ws F X.1 X.2)) := kS
      rw [hY] at kS'
      have rx5 := B5.rx
      unfold arrX at rx5
      have p0 := cell_of_row w5 _ 0 _ _ _ rx5
      have p1 := cell_of_row w5 _ 1 _ _ _ rx5
      have p2 := cell_of_row w5 _ 2 _ _ _ rx5
      have p3 := cell_of_row w5 _ 3 _ _ _ rx5
      have p4 := cell_of_row w5 _ 4 _ _ _ rx5
      have p5 := cell_of_row w5 _ 5 _ _ _ rx5
      have p6 := cell_of_row w5 _ 6 _ _ _ rx5
      have p7 := cell_of_row w5 _ 7 _ _ _ rx5
      have p8 := cell_of_row w5 _ 8 _ _ _ rx5
      have p9 := cell_of_row w5 _ 9 _ _ _ rx5
      have HB5 : Hid (Bx w w5 b p c ws w.heap.size w2.heap.size S' X.2 X.1 R) := B5
      clear kS hd5 B5
      go_wp2_with fail
      refine kS'.mono ?_
      rintro q w6 ⟨d6, v6, rfl, hL6, hP6, hO6⟩
      obtain ⟨R6, rfl⟩ := hL6.row
      have B6 := HB5.out.store hO6 hP6 hL6
      have rx6 := (HB5.out.calls hO6 hP6).rx
      unfold arrX at rx6
      have s6 := hO6.size
      obtain ⟨w7, hw7⟩ : ∃ w7, setR w6 w2.heap.size R6 = w7 := ⟨_, rfl⟩
      have s7 : w7.heap.size = w6.heap.size := by rw [← hw7]; exact set10_size _ _ _ _ _ _ _ _ _ _ _ _
      rw [hw7] at B6
      unfold setR set10 at hw7
      clear p0 p1 p2 p3 p4 p5 p6 p7 p8 p9
      have q0 := cell_of_row w6 _ 0 _ _ _ rx6
      have g0 := frozen_of_row w6 _ 0 _ _ rx6
      have q1 := cell_of_row w6 _ 1 _ _ _ rx6
      have g1 := frozen_of_row w6 _ 1 _ _ rx6
      have q2 := cell_of_row w6 _ 2 _ _ _ rx6
      have g2 := frozen_of_row w6 _ 2 _ _ rx6
      have q3 := cell_of_row w6 _ 3 _ _ _ rx6
      have g3 := frozen_of_row w6 _ 3 _ _ rx6
      have q4 := cell_of_row w6 _ 4 _ _ _ rx6
      have g4 := frozen_of_row w6 _ 4 _ _ rx6
      have q5 := cell_of_row w6 _ 5 _ _ _ rx6
      have g5 := frozen_of_row w6 _ 5 _ _ rx6
      have q6 := cell_of_row w6 _ 6 _ _ _ rx6
      have g6 := frozen_of_row w6 _ 6 _ _ rx6
      have q7 := cell_of_row w6 _ 7 _ _ _ rx6
      have g7 := frozen_of_row w6 _ 7 _ _ rx6
      have q8 := cell_of_row w6 _ 8 _ _ _ rx6
      have g8 := frozen_of_row w6 _ 8 _ _ rx6
      have q9 := cell_of_row w6 _ 9 _ _ _ rx6
      have g9 := frozen_of_row w6 _ 9 _ _ rx6
      unfold rowX
      have kt := tookKey_any B6.ps hz ⟨#[73, 83]⟩
      rw [hR'] at kt
      unfold tookP at kt
      rw [hR'] at kt
      rw [if_neg (by decide)] at kt
      have HB7 : Hid (Bx w w7 b p c ws w.heap.size w2.heap.size S' Y.2 Y.1 R6) := B6
      clear kS' hL6 hP6 hO6 HB5 rx5 rx6 B6
      go_wp2_with fail
      refine kt.mono ?_
      rintro q w8 ⟨rfl, hP8, hO8⟩
      have B8 := HB7.out.calls hO8 hP8
      clear q0 q1 q2 q3 q4 q5 q6 q7 q8 q9 g0 g1 g2 g3 g4 g5 g6 g7 g8 g9
      have rxf := B8.rx
      have rzf := B8.rz
      unfold arrX at rxf
      unfold zero10 at rzf
      have p0 := cell_of_row w8 _ 0 _ _ _ rxf
      have p1 := cell_of_row w8 _ 1 _ _ _ rxf
      have p2 := cell_of_row w8 _ 2 _ _ _ rxf
      have p3 := cell_of_row w8 _ 3 _ _ _ rxf
      have p4 := cell_of_row w8 _ 4 _ _ _ rxf
      have p5 := cell_of_row w8 _ 5 _ _ _ rxf
      have p6 := cell_of_row w8 _ 6 _ _ _ rxf
      have p7 := cell_of_row w8 _ 7 _ _ _ rxf
      have p8 := cell_of_row w8 _ 8 _ _ _ rxf
      have p9 := cell_of_row w8 _ 9 _ _ _ rxf
      have r0 := cell_of_row w8 _ 0 _ _ _ rzf
      have h0 := frozen_of_row w8 _ 0 _ _ rzf
      have r1 := cell_of_row w8 _ 1 _ _ _ rzf
      have h1 := frozen_of_row w8 _ 1 _ _ rzf
      have r2 := cell_of_row w8 _ 2 _ _ _ rzf
      have h2 := frozen_of_row w8 _ 2 _ _ rzf
      have r3 := cell_of_row w8 _ 3 _ _ _ rzf
      have h3 := frozen_of_row w8 _ 3 _ _ rzf
      have r4 := cell_of_row w8 _ 4 _ _ _ rzf
      have h4 := frozen_of_row w8 _ 4 _ _ rzf
      have r5 := cell_of_row w8 _ 5 _ _ _ rzf
      have h5 := frozen_of_row w8 _ 5 _ _ rzf
      have r6 := cell_of_row w8 _ 6 _ _ _ rzf
      have h6 := frozen_of_row w8 _ 6 _ _ rzf
      have r7 := cell_of_row w8 _ 7 _ _ _ rzf
      have h7 := frozen_of_row w8 _ 7 _ _ rzf
      have r8 := cell_of_row w8 _ 8 _ _ _ rzf
      have h8 := frozen_of_row w8 _ 8 _ _ rzf
      have r9 := cell_of_row w8 _ 9 _ _ _ rzf
      have h9 := frozen_of_row w8 _ 9 _ _ rzf
      have HBf : Hid (Bx w w8 b p c ws w.heap.size w2.heap.size S' Y.2 Y.1 R6) := B8
      clear kt hP8 hO8 HB7 B8 rxf rzf
      go_wp2
      exact bodyPost_ret (results_cell_row Tryz.results163 _ _ w.heap.size 28 _ (0, 0) _ rfl (setR_row HBf.out.rz rfl R6) Tryz.underlying28 rfl (by kernel_rfl)) rfl (HBf.out.done nS)
  ·
    rw [if_neg hr]
    obtain ⟨rk, hrk⟩ : ∃ rk, rankI (wAt ws X.2.at') = rk := ⟨_, rfl⟩
    rw [hrk] at hr
    rw [← isW_isP]
    obtain ⟨Rb, hR⟩ : ∃ R, isW (wAt ws X.2.at') 2 ⟨([73, 83] : List UInt8).toArray⟩ = R := ⟨_, rfl⟩
    have hR' : isW (wAt ws X.2.at') 2 ⟨#[73, 83]⟩ = Rb := hR
    rw [hR]
    clear hR
    cases Rb with
    | true =>
      rw [if_pos rfl]
      obtain ⟨V, hV⟩ : ∃ V, isNullF ws X.1 (takeP X.2) = V := ⟨_, rfl⟩
      have hex3 : (takeP X.2).ex ≤ 900000 := by unfold takeP; simp only; omega
      rw [hV]
      have k1 := kb1 w1 (H.later hb1)
      have HH : Hid (Ps w b p c ws s ∧ Below w.heap.size w w1) := ⟨H, hb1⟩
      clear H hb1
      go_enter Tryz.func163, Tryz.ntmps163
      go_wp2_with fail
      refine k1.mono ?_
      rintro q w2 ⟨d2, v2, rfl, hL2, hP2, hO2⟩
      obtain ⟨R, rfl⟩ := hL2.row
      obtain ⟨w3, hw3⟩ : ∃ w3, w2.alloc (.cells #[.int .i64 R.k, .string R.s, .int .i64 R.vk, .bool R.vb, .int .i64 R.vn, .string R.vs, .slice none 0 0, .slice none 0 0, .slice R.kp R.n R.kc, .slice R.np R.m R.nc] 28) = w3 := ⟨_, rfl⟩
      have hb3 : Below w2.heap.size w2 w3 := by rw [← hw3]; exact (Below.refl _ w2).alloc (Nat.le_refl _) _
      have hs3 : w3.heap.size = w2.heap.size + 1 := by rw [← hw3]; simp
      have rx3 : w3.heap[w2.heap.size]? = some (.cells (arrX R) 28 (0, 0)) := by rw [← hw3]; exact heap_alloc_new _ _
      have s2 := hO2.size
      obtain ⟨S', hS'⟩ : ∃ S', S' = fun k => w.heap.size + 1 ≤ k ∧ k ≠ w2.heap.size := ⟨_, rfl⟩
      have nx : ¬ S' w2.heap.size := by rw [hS']; intro h; exact h.2 rfl
      have nz : ¬ S' w.heap.size := by rw [hS']; intro h; have := h.1; omega
      have nb : ¬ S' b := by rw [hS']; intro h; have := h.1; omega
      have ny : ∀ k, w2.heap.size + 1 ≤ k → S' k := by intro k hk; rw [hS']; exact ⟨by omega, by omega⟩
      have nS : ∀ k, S' k → w.heap.size ≤ k := by intro k hk; rw [hS'] at hk; have := hk.1; omega
      have B3 : Bx w w3 b p c ws w.heap.size w2.heap.size S' X.2 X.1 R := ⟨rx3, (hb3.block _ (by omega)).trans ((hO2.block _ (by omega) (by omega)).trans rz1), ((Onl.of HH.out.2).trans hO2).trans (Onl.of hb3), hP2.later hb3, ⟨d2, (hL2.imp fun k hk hl => by rw [hS']; exact ⟨by omega, by omega⟩).since (Since.below hb3)⟩, ⟨lb, by omega, by omega, by omega⟩, hold, ⟨nx, nz, nb⟩⟩
      have kw := word_any B3.ps
      have HB : Hid (Bx w w3 b p c ws w.heap.size w2.heap.size S' X.2 X.1 R) := B3
      clear k1 hL2 hP2 hO2 hb3 rx3 hS' B3
      unfold rowX
      go_wp2_with fail
      refine kw.mono ?_
      rintro q w4 ⟨rfl, hb4⟩
      have B4 := HB.out.quiet hb4
      have kr := rank_any (wAt ws X.2.at') w4
      rw [hrk] at kr
      have s4 := hb4.size
      have HB4 : Hid (Bx w w4 b p c ws w.heap.size w2.heap.size S' X.2 X.1 R) := B4
      clear kw hb4 B4 HB hw3
      go_wp2_with fail
      refine kr.mono ?_
      rintro q w5 ⟨rfl, hb5⟩
      have B5 := HB4.out.quiet hb5
      have s5 := hb5.size
      clear kr hb5 HB4
      have kt := tookKey_any B5.ps hz ⟨#[73, 83]⟩
      rw [hR'] at kt
      unfold tookP at kt
      rw [hR'] at kt
      rw [if_pos rfl] at kt
      have HB7 : Hid (Bx w w5 b p c ws w.heap.size w2.heap.size S' X.2 X.1 R) := B5
      clear B5
      go_wp2_with fail
      refine kt.mono ?_
      rintro q w8 ⟨rfl, hP8, hO8⟩
      have B8 := HB7.out.calls hO8 hP8
      have s8 := hO8.size
      obtain ⟨d8, hd8⟩ := B8.lies
      have kn := isNull_any B8.ps hz hex3 (S := S') ⟨nb, fun k hk => ny k (by omega)⟩ hd8
      have kn' : Calls Tryz.prog 181 #[.pointer (some ⟨b, 0, none⟩), .agg #[.int .i64 R.k, .string R.s, .int .i64 R.vk, .bool R.vb, .int .i64 R.vn, .string R.vs, .slice none 0 0, .slice none 0 0, .slice R.kp R.n R.kc, .slice R.np R.m R.nc]] w8 (Gives ws S' w8 b p c (isNullF ws X.1 (takeP X.2))) := kn
      rw [hV] at kn'
      have rx8 := B8.rx
      unfold arrX at rx8
      have p0 := cell_of_row w8 _ 0 _ _ _ rx8
      have p1 := cell_of_row w8 _ 1 _ _ _ rx8
      have p2 := cell_of_row w8 _ 2 _ _ _ rx8
      have p3 := cell_of_row w8 _ 3 _ _ _ rx8
      have p4 := cell_of_row w8 _ 4 _ _ _ rx8
      have p5 := cell_of_row w8 _ 5 _ _ _ rx8
      have p6 := cell_of_row w8 _ 6 _ _ _ rx8
      have p7 := cell_of_row w8 _ 7 _ _ _ rx8
      have p8 := cell_of_row w8 _ 8 _ _ _ rx8
      have p9 := cell_of_row w8 _ 9 _ _ _ rx8
      have HB8 : Hid (Bx w w8 b p c ws w.heap.size w2.heap.size S' (takeP X.2) X.1 R) := B8
      clear kn hd8 B8 kt hP8 hO8 HB7
      go_wp2_with fail
      refine kn'.mono ?_
      rintro q w9 ⟨d9, v9, rfl, hL9, hP9, hO9⟩
      obtain ⟨R9, rfl⟩ := hL9.row
      have B9 := HB8.out.store hO9 hP9 hL9
      have rx9 := (HB8.out.calls hO9 hP9).rx
      unfold arrX at rx9
      obtain ⟨w10, hw10⟩ : ∃ w10, setR w9 w2.heap.size R9 = w10 := ⟨_, rfl⟩
      rw [hw10] at B9
      unfold setR set10 at hw10
      clear p0 p1 p2 p3 p4 p5 p6 p7 p8 p9
      have q0 := cell_of_row w9 _ 0 _ _ _ rx9
      have g0 := frozen_of_row w9 _ 0 _ _ rx9
      have q1 := cell_of_row w9 _ 1 _ _ _ rx9
      have g1 := frozen_of_row w9 _ 1 _ _ rx9
      have q2 := cell_of_row w9 _ 2 _ _ _ rx9
      have g2 := frozen_of_row w9 _ 2 _ _ rx9
      have q3 := cell_of_row w9 _ 3 _ _ _ rx9
      have g3 := frozen_of_row w9 _ 3 _ _ rx9
      have q4 := cell_of_row w9 _ 4 _ _ _ rx9
      have g4 := frozen_of_row w9 _ 4 _ _ rx9
      have q5 := cell_of_row w9 _ 5 _ _ _ rx9
      have g5 := frozen_of_row w9 _ 5 _ _ rx9
      have q6 := cell_of_row w9 _ 6 _ _ _ rx9
      have g6 := frozen_of_row w9 _ 6 _ _ rx9
      have q7 := cell_of_row w9 _ 7 _ _ _ rx9
      have g7 := frozen_of_row w9 _ 7 _ _ rx9
      have q8 := cell_of_row w9 _ 8 _ _ _ rx9
      have g8 := frozen_of_row w9 _ 8 _ _ rx9
      have q9 := cell_of_row w9 _ 9 _ _ _ rx9
      have g9 := frozen_of_row w9 _ 9 _ _ rx9
      unfold rowX
      have rxf := B9.rx
      have rzf := B9.rz
      unfold arrX at rxf
      unfold zero10 at rzf
      have p0 := cell_of_row w10 _ 0 _ _ _ rxf
      have p1 := cell_of_row w10 _ 1 _ _ _ rxf
      have p2 := cell_of_row w10 _ 2 _ _ _ rxf
      have p3 := cell_of_row w10 _ 3 _ _ _ rxf
      have p4 := cell_of_row w10 _ 4 _ _ _ rxf
      have p5 := cell_of_row w10 _ 5 _ _ _ rxf
      have p6 := cell_of_row w10 _ 6 _ _ _ rxf
      have p7 := cell_of_row w10 _ 7 _ _ _ rxf
      have p8 := cell_of_row w10 _ 8 _ _ _ rxf
      have p9 := cell_of_row w10 _ 9 _ _ _ rxf
      have r0 := cell_of_row w10 _ 0 _ _ _ rzf
      have h0 := frozen_of_row w10 _ 0 _ _ rzf
      have r1 := cell_of_row w10 _ 1 _ _ _ rzf
      have h1 := frozen_of_row w10 _ 1 _ _ rzf
      have r2 := cell_of_row w10 _ 2 _ _ _ rzf
      have h2 := frozen_of_row w10 _ 2 _ _ rzf
      have r3 := cell_of_row w10 _ 3 _ _ _ rzf
      have h3 := frozen_of_row w10 _ 3 _ _ rzf
      have r4 := cell_of_row w10 _ 4 _ _ _ rzf
      have h4 := frozen_of_row w10 _ 4 _ _ rzf
      have r5 := cell_of_row w10 _ 5 _ _ _ rzf
      have h5 := frozen_of_row w10 _ 5 _ _ rzf
      have r6 := cell_of_row w10 _ 6 _ _ _ rzf
      have h6 := frozen_of_row w10 _ 6 _ _ rzf
      have r7 := cell_of_row w10 _ 7 _ _ _ rzf
      have h7 := frozen_of_row w10 _ 7 _ _ rzf
      have r8 := cell_of_row w10 _ 8 _ _ _ rzf
      have h8 := frozen_of_row w10 _ 8 _ _ rzf
      have r9 := cell_of_row w10 _ 9 _ _ _ rzf
      have h9 := frozen_of_row w10 _ 9 _ _ rzf
      have HBf : Hid (Bx w w10 b p c ws w.heap.size w2.heap.size S' V.2 V.1 R9) := B9
      clear kn' hL9 hP9 hO9 HB8 rx8 rx9 B9 rxf rzf
      go_wp2
      exact bodyPost_ret (results_cell_row Tryz.results163 _ _ w.heap.size 28 _ (0, 0) _ rfl (setR_row HBf.out.rz rfl R9) Tryz.underlying28 rfl (by kernel_rfl)) rfl (HBf.out.done nS)
    | false =>
      rw [if_neg (by decide)]
      have k1 := kb1 w1 (H.later hb1)
      have HH : Hid (Ps w b p c ws s ∧ Below w.heap.size w w1) := ⟨H, hb1⟩
      clear H hb1
      go_enter Tryz.func163, Tryz.ntmps163
      go_wp2_with fail
      refine k1.mono ?_
      rintro q w2 ⟨d2, v2, rfl, hL2, hP2, hO2⟩
      obtain ⟨R, rfl⟩ := hL2.row
      obtain ⟨w3, hw3⟩ : ∃ w3, w2.alloc (.cells #[.int .i64 R.k, .string R.s, .int .i64 R.vk, .bool R.vb, .int .i64 R.vn, .string R.vs, .slice none 0 0, .slice none 0 0, .slice R.kp R.n R.kc, .slice R.np R.m R.nc] 28) = w3 := ⟨_, rfl⟩
      have hb3 : Below w2.heap.size w2 w3 := by rw [← hw3]; exact (Below.refl _ w2).alloc (Nat.le_refl _) _
      have hs3 : w3.heap.size = w2.heap.size + 1 := by rw [← hw3]; simp
      have rx3 : w3.heap[w2.heap.size]? = some (.cells (arrX R) 28 (0, 0)) := by rw [← hw3]; exact heap_alloc_new _ _
      have s2 := hO2.size
      obtain ⟨S', hS'⟩ : ∃ S', S' = fun k => w.heap.size + 1 ≤ k ∧ k ≠ w2.heap.size := ⟨_, rfl⟩
      have nx : ¬ S' w2.heap.size := by rw [hS']; intro h; exact h.2 rfl
      have nz : ¬ S' w.heap.size := by rw [hS']; intro h; have := h.1; omega
      have nb : ¬ S' b := by rw [hS']; intro h; have := h.1; omega
      have ny : ∀ k, w2.heap.size + 1 ≤ k → S' k := by intro k hk; rw [hS']; exact ⟨by omega, by omega⟩
      have nS : ∀ k, S' k → w.heap.size ≤ k := by intro k hk; rw [hS'] at hk; have := hk.1; omega
      have B3 : Bx w w3 b p c ws w.heap.size w2.heap.size S' X.2 X.1 R := ⟨rx3, (hb3.block _ (by omega)).trans ((hO2.block _ (by omega) (by omega)).trans rz1), ((Onl.of HH.out.2).trans hO2).trans (Onl.of hb3), hP2.later hb3, ⟨d2, (hL2.imp fun k hk hl => by rw [hS']; exact ⟨by omega, by omega⟩).since (Since.below hb3)⟩, ⟨lb, by omega, by omega, by omega⟩, hold, ⟨nx, nz, nb⟩⟩
      have kw := word_any B3.ps
      have HB : Hid (Bx w w3 b p c ws w.heap.size w2.heap.size S' X.2 X.1 R) := B3
      clear k1 hL2 hP2 hO2 hb3 rx3 hS' B3
      unfold rowX
      go_wp2_with fail
      refine kw.mono ?_
      rintro q w4 ⟨rfl, hb4⟩
      have B4 := HB.out.quiet hb4
      have kr := rank_any (wAt ws X.2.at') w4
      rw [hrk] at kr
      have s4 := hb4.size
      have HB4 : Hid (Bx w w4 b p c ws w.heap.size w2.heap.size S' X.2 X.1 R) := B4
      clear kw hb4 B4 HB hw3
      go_wp2_with fail
      refine kr.mono ?_
      rintro q w5 ⟨rfl, hb5⟩
      have B5 := HB4.out.quiet hb5
      have s5 := hb5.size
      clear kr hb5 HB4
      have kt := tookKey_any B5.ps hz ⟨#[73, 83]⟩
      rw [hR'] at kt
      unfold tookP at kt
      rw [hR'] at kt
      rw [if_neg (by decide)] at kt
      have HB7 : Hid (Bx w w5 b p c ws w.heap.size w2.heap.size S' X.2 X.1 R) := B5
      clear B5
      go_wp2_with fail
      refine kt.mono ?_
      rintro q w8 ⟨rfl, hP8, hO8⟩
      have B8 := HB7.out.calls hO8 hP8
      have rxf := B8.rx
      have rzf := B8.rz
      unfold arrX at rxf
      unfold zero10 at rzf
      have p0 := cell_of_row w8 _ 0 _ _ _ rxf
      have p1 := cell_of_row w8 _ 1 _ _ _ rxf
      have p2 := cell_of_row w8 _ 2 _ _ _ rxf
      have p3 := cell_of_row w8 _ 3 _ _ _ rxf
      have p4 := cell_of_row w8 _ 4 _ _ _ rxf
      have p5 := cell_of_row w8 _ 5 _ _ _ rxf
      have p6 := cell_of_row w8 _ 6 _ _ _ rxf
      have p7 := cell_of_row w8 _ 7 _ _ _ rxf
      have p8 := cell_of_row w8 _ 8 _ _ _ rxf
      have p9 := cell_of_row w8 _ 9 _ _ _ rxf
      have r0 := cell_of_row w8 _ 0 _ _ _ rzf
      have h0 := frozen_of_row w8 _ 0 _ _ rzf
      have r1 := cell_of_row w8 _ 1 _ _ _ rzf
      have h1 := frozen_of_row w8 _ 1 _ _ rzf
      have r2 := cell_of_row w8 _ 2 _ _ _ rzf
      have h2 := frozen_of_row w8 _ 2 _ _ rzf
      have r3 := cell_of_row w8 _ 3 _ _ _ rzf
      have h3 := frozen_of_row w8 _ 3 _ _ rzf
      have r4 := cell_of_row w8 _ 4 _ _ _ rzf
      have h4 := frozen_of_row w8 _ 4 _ _ rzf
      have r5 := cell_of_row w8 _ 5 _ _ _ rzf
      have h5 := frozen_of_row w8 _ 5 _ _ rzf
      have r6 := cell_of_row w8 _ 6 _ _ _ rzf
      have h6 := frozen_of_row w8 _ 6 _ _ rzf
      have r7 := cell_of_row w8 _ 7 _ _ _ rzf
      have h7 := frozen_of_row w8 _ 7 _ _ rzf
      have r8 := cell_of_row w8 _ 8 _ _ _ rzf
      have h8 := frozen_of_row w8 _ 8 _ _ rzf
      have r9 := cell_of_row w8 _ 9 _ _ _ rzf
      have h9 := frozen_of_row w8 _ 9 _ _ rzf
      have HBf : Hid (Bx w w8 b p c ws w.heap.size w2.heap.size S' X.2 X.1 R) := B8
      clear kt hP8 hO8 HB7 B8 rxf rzf
      go_wp2
      exact bodyPost_ret (results_cell_row Tryz.results163 _ _ w.heap.size 28 _ (0, 0) _ rfl (setR_row HBf.out.rz rfl R) Tryz.underlying28 rfl (by kernel_rfl)) rfl (HBf.out.done nS)
end Go.Proofs.YtfemippjaokcmaaGreatDoor
namespace Go.Proofs.YtfemippjaokcmaaGreatDoor
open Go.RowKit Go.Shelf
attribute [local go_sem] Oper.semAt_some fw0 fw1 fw2
theorem wholeP_ne (ws : List Wd) (s : PS) : (wholeP ws s).ne = s.ne := by
  unfold wholeP failP
  split
  · split
    · rfl
    · rfl
  · rfl
set_option maxRecDepth 100000 in
set_option maxHeartbeats 8000000 in
theorem negation_any {w : World} {b : Nat} {p : Option Addr} {c : Nat} {ws : List Wd} {s : PS} (H : Ps w b p c ws s) (hz : Wz ws) (hne : s.ne ≤ 100) (go : Nat → PS → Et × PS)
    (k3 : ∀ W, Ps W b p c ws s → Calls Tryz.prog 145 #[.pointer (some ⟨b, 0, none⟩), .int .i64 3] W (Gives ws (fun k => W.heap.size ≤ k) W b p c (go 3 s)))
    (k2 : isP (wAt ws s.at') 2 [78, 79, 84] = true → ∀ W, Ps W b p c ws (notS ws s) → Calls Tryz.prog 145 #[.pointer (some ⟨b, 0, none⟩), .int .i64 2] W (Gives ws (fun k => W.heap.size ≤ k) W b p c (go 2 (notS ws s))))
    (hx2 : (go 2 (notS ws s)).2.ex ≤ 800000) (hn2 : (go 2 (notS ws s)).2.ne = s.ne + 1) :
    Calls Tryz.prog 162 #[.pointer (some ⟨b, 0, none⟩)] w (Gives ws (fun k => w.heap.size ≤ k) w b p c (negF ws go s)) := by
  have hold := H.old
  have lb := lt_of_row H.row
  obtain ⟨w1, hw1⟩ : ∃ w1, w.alloc (.cells #[.int .i64 0, .string ⟨#[]⟩, .int .i64 0, .bool false, .int .i64 0, .string ⟨#[]⟩, .slice none 0 0, .slice none 0 0, .slice none 0 0, .slice none 0 0] 28) = w1 := ⟨_, rfl⟩
  have hb1 : Below w.heap.size w w1 := by rw [← hw1]; exact (Below.refl _ w).alloc (Nat.le_refl _) _
  have hs1 : w1.heap.size = w.heap.size + 1 := by rw [← hw1]; simp
  have rz1 : w1.heap[w.heap.size]? = some (.cells #[.int .i64 0, .string ⟨#[]⟩, .int .i64 0, .bool false, .int .i64 0, .string ⟨#[]⟩, .slice none 0 0, .slice none 0 0, .slice none 0 0, .slice none 0 0] 28 (0, 0)) := by rw [← hw1]; exact heap_alloc_new _ _
  have ki := is_any (H.later hb1) 2 ⟨#[78, 79, 84]⟩
  unfold negF
  have hI : isW (wAt ws s.at') 2 ⟨#[78, 79, 84]⟩ = isP (wAt ws s.at') 2 [78, 79, 84] := isW_isP _ _ _
  rw [hI] at ki
  clear hI
  by_cases hn : isP (wAt ws s.at') 2 [78, 79, 84] = true
  · rw [if_pos hn]
    have k2 := k2 hn
    rw [hn] at ki
    clear hn k3
    obtain ⟨X, hX⟩ : ∃ X, go 2 (notS ws s) = X := ⟨_, rfl⟩
    rw [hX] at k2 hx2 hn2 ⊢
    clear hX
    have HH : Hid (Ps w b p c ws s ∧ Below w.heap.size w w1) := ⟨H, hb1⟩
    clear H hb1
    go_enter_defers Tryz.func162, Tryz.ntmps162
    go_wp2_with fail
    refine ki.mono ?_
    rintro q w2 ⟨rfl, hb2⟩
    have s2 := hb2.size
    have rz2 := (hb2.block _ (by omega)).trans rz1
    have kd := deeper_any ((HH.out.1.later HH.out.2).later hb2) (by omega)
    have HB2 : Hid (Below w1.heap.size w1 w2) := hb2
    clear ki hb2 hw1 rz1
    go_wp2_with fail
    refine kd.mono ?_
    rintro q w3 ⟨rfl, hP3, hO3⟩
    have s3 := hO3.size
    have rz3 := (hO3.block _ (by omega) (by omega)).trans rz2
    have kk := pkey_any hP3 hz ⟨#[78, 79, 84]⟩
    have HO3 : Hid (Onl b w2 w3) := hO3
    clear kd hP3 hO3 rz2
    go_wp2_with fail
    refine kk.mono ?_
    rintro q w4 ⟨rfl, hP4, hO4⟩
    have hP4' : Ps w4 b p c ws (notS ws s) := by unfold notS; rw [← mustP_mustQ]; exact hP4
    have s4 := hO4.size
    have rz4 := (hO4.block _ (by omega) (by omega)).trans rz3
    have k5 := k2 w4 hP4'
    have HO4 : Hid (Onl b w3 w4) := hO4
    clear kk hP4 hP4' hO4 rz3 k2
    go_wp2_with fail
    refine k5.mono ?_
    rintro q w5 ⟨d5, v5, rfl, hL5, hP5, hO5⟩
    have s5 := hO5.size
    have rz5 := (hO5.block _ (by omega) (by omega)).trans rz4
    have ka := around_any hP5 (by omega) 4 (S := fun k => w4.heap.size ≤ k) ⟨by omega, fun k hk => by omega⟩ hL5
    obtain ⟨R5, rfl⟩ := hL5.row
    have HO5 : Hid (Onl b w4 w5) := hO5
    clear k5 hP5 hO5 rz4 hL5
    unfold rowX at ka ⊢
    go_wp2_with fail
    refine ka.mono ?_
    rintro q w6 ⟨v6, rfl, hL6, hP6, hO6⟩
    have s6 := hO6.size
    have rz6 := (hO6.block _ (by omega) (by omega)).trans rz5
    obtain ⟨R6, rfl⟩ := hL6.row
    obtain ⟨w7, hw7⟩ : ∃ w7, setR w6 w.heap.size R6 = w7 := ⟨_, rfl⟩
    have s7 : w7.heap.size = w6.heap.size := by rw [← hw7]; exact set10_size _ _ _ _ _ _ _ _ _ _ _ _
    have rz7 : w7.heap[w.heap.size]? = some (.cells (arrX R6) 28 (0, 0)) := by rw [← hw7]; exact setR_row rz6 rfl R6
    have hL7 : LiesE w7 (fun k => w4.heap.size ≤ k) (d5 + 1) (oneT 4 X.1) (rowX R6) := by rw [← hw7]; exact hL6.since (Since.set10 (by omega) w6 _ _ _ _ _ _ _ _ _ _)
    have hP7 : Ps w7 b p c ws (wholeP ws X.2) := by rw [← hw7]; exact hP6.kept (z := w.heap.size) lb hold (fun j hj => set10_other hj _ _ _ _ _ _ _ _ _ _) (Nat.le_of_eq (set10_size _ _ _ _ _ _ _ _ _ _ _ _).symm)
    have hO7 : Onl b w w7 := by rw [← hw7]; exact ((((((Onl.of HH.out.2).trans (Onl.of HB2.out)).trans HO3.out).trans HO4.out).trans HO5.out).trans hO6).set10 _ (Nat.le_refl _) _ _ _ _ _ _ _ _ _ _
    have H7 : Hid (LiesE w7 (fun k => w4.heap.size ≤ k) (d5 + 1) (oneT 4 X.1) (rowX R6) ∧ Ps w7 b p c ws (wholeP ws X.2) ∧ Onl b w w7 ∧ w7.heap[w.heap.size]? = some (.cells (arrX R6) 28 (0, 0))) := ⟨hL7, hP7, hO7, rz7⟩
    have q0 := cell_of_row w6 _ 0 _ _ _ rz6
    have g0 := frozen_of_row w6 _ 0 _ _ rz6
    have q1 := cell_of_row w6 _ 1 _ _ _ rz6
    have g1 := frozen_of_row w6 _ 1 _ _ rz6
    have q2 := cell_of_row w6 _ 2 _ _ _ rz6
    have g2 := frozen_of_row w6 _ 2 _ _ rz6
    have q3 := cell_of_row w6 _ 3 _ _ _ rz6
    have g3 := frozen_of_row w6 _ 3 _ _ rz6
    have q4 := cell_of_row w6 _ 4 _ _ _ rz6
    have g4 := frozen_of_row w6 _ 4 _ _ rz6
    have q5 := cell_of_row w6 _ 5 _ _ _ rz6
    have g5 := frozen_of_row w6 _ 5 _ _ rz6
    have q6 := cell_of_row w6 _ 6 _ _ _ rz6
    have g6 := frozen_of_row w6 _ 6 _ _ rz6
    have q7 := cell_of_row w6 _ 7 _ _ _ rz6
    have g7 := frozen_of_row w6 _ 7 _ _ rz6
    have q8 := cell_of_row w6 _ 8 _ _ _ rz6
    have g8 := frozen_of_row w6 _ 8 _ _ rz6
    have q9 := cell_of_row w6 _ 9 _ _ _ rz6
    have g9 := frozen_of_row w6 _ 9 _ _ rz6

    clear ka hL6 hP6 hO6 rz5 rz6 rz7 hL7 hP7 hO7 HO3 HO4 HO5 HB2
    unfold setR set10 at hw7
    unfold rowX
    go_wp2
    obtain ⟨hL7, hP7, hO7, rz7⟩ := H7.out
    refine leaves_cons (f := 197) (args := #[.pointer (some ⟨b, 0, none⟩)]) (by simp) (by simp [go_sem]) ?_
    refine (back_d hP7 (by rw [wholeP_ne]; omega) (by rw [wholeP_ne]; omega) .returning).mono ?_
    rintro e u' w8 ⟨rfl, rfl, hP8, hO8⟩
    have rz8 := (hO8.block _ (by omega) (by omega)).trans rz7
    exact ⟨_, results_cell_row Tryz.results162 _ _ w.heap.size 28 _ (0, 0) _ rfl rz8 Tryz.underlying28 rfl (by kernel_rfl), d5 + 1, rowX R6, rfl, (hL7.since (Since.onl hO8 (by omega))).imp fun k hk _ => by omega, hP8, hO7.trans hO8⟩
  · rw [if_neg hn]
    have hf : isP (wAt ws s.at') 2 [78, 79, 84] = false := by simpa using hn
    rw [hf] at ki
    clear hn hf k2 hx2 hn2
    obtain ⟨X, hX⟩ : ∃ X, go 3 s = X := ⟨_, rfl⟩
    rw [hX] at k3 ⊢
    clear hX
    have HH : Hid (Ps w b p c ws s ∧ Below w.heap.size w w1) := ⟨H, hb1⟩
    clear H hb1
    go_enter_defers Tryz.func162, Tryz.ntmps162
    go_wp2_with fail
    refine ki.mono ?_
    rintro q w2 ⟨rfl, hb2⟩
    have s2 := hb2.size
    have rz2 := (hb2.block _ (by omega)).trans rz1
    have k5 := k3 w2 ((HH.out.1.later HH.out.2).later hb2)
    have HB2 : Hid (Below w1.heap.size w1 w2) := hb2
    clear ki hb2 hw1 rz1 k3
    go_wp2_with fail
    refine k5.mono ?_
    rintro q w6 ⟨d5, v6, rfl, hL6, hP6, hO6⟩
    have s6 := hO6.size
    have rz6 := (hO6.block _ (by omega) (by omega)).trans rz2
    obtain ⟨R6, rfl⟩ := hL6.row
    obtain ⟨w7, hw7⟩ : ∃ w7, setR w6 w.heap.size R6 = w7 := ⟨_, rfl⟩
    have rz7 : w7.heap[w.heap.size]? = some (.cells (arrX R6) 28 (0, 0)) := by rw [← hw7]; exact setR_row rz6 rfl R6
    have hL7 : LiesE w7 (fun k => w2.heap.size ≤ k) d5 X.1 (rowX R6) := by rw [← hw7]; exact hL6.since (Since.set10 (by omega) w6 _ _ _ _ _ _ _ _ _ _)
    have hP7 : Ps w7 b p c ws X.2 := by rw [← hw7]; exact hP6.kept (z := w.heap.size) lb hold (fun j hj => set10_other hj _ _ _ _ _ _ _ _ _ _) (Nat.le_of_eq (set10_size _ _ _ _ _ _ _ _ _ _ _ _).symm)
    have hO7 : Onl b w w7 := by rw [← hw7]; exact (((Onl.of HH.out.2).trans (Onl.of HB2.out)).trans hO6).set10 _ (Nat.le_refl _) _ _ _ _ _ _ _ _ _ _
    have H7 : Hid (LiesE w7 (fun k => w2.heap.size ≤ k) d5 X.1 (rowX R6) ∧ Ps w7 b p c ws X.2 ∧ Onl b w w7 ∧ w7.heap[w.heap.size]? = some (.cells (arrX R6) 28 (0, 0))) := ⟨hL7, hP7, hO7, rz7⟩
    have q0 := cell_of_row w6 _ 0 _ _ _ rz6
    have g0 := frozen_of_row w6 _ 0 _ _ rz6
    have q1 := cell_of_row w6 _ 1 _ _ _ rz6
    have g1 := frozen_of_row w6 _ 1 _ _ rz6
    have q2 := cell_of_row w6 _ 2 _ _ _ rz6
    have g2 := frozen_of_row w6 _ 2 _ _ rz6
    have q3 := cell_of_row w6 _ 3 _ _ _ rz6
    have g3 := frozen_of_row w6 _ 3 _ _ rz6
    have q4 := cell_of_row w6 _ 4 _ _ _ rz6
    have g4 := frozen_of_row w6 _ 4 _ _ rz6
    have q5 := cell_of_row w6 _ 5 _ _ _ rz6
    have g5 := frozen_of_row w6 _ 5 _ _ rz6
    have q6 := cell_of_row w6 _ 6 _ _ _ rz6
    have g6 := frozen_of_row w6 _ 6 _ _ rz6
    have q7 := cell_of_row w6 _ 7 _ _ _ rz6
    have g7 := frozen_of_row w6 _ 7 _ _ rz6
    have q8 := cell_of_row w6 _ 8 _ _ _ rz6
    have g8 := frozen_of_row w6 _ 8 _ _ rz6
    have q9 := cell_of_row w6 _ 9 _ _ _ rz6
    have g9 := frozen_of_row w6 _ 9 _ _ rz6

    clear k5 hL6 hP6 hO6 rz2 rz6 rz7 hL7 hP7 hO7 HB2
    unfold setR set10 at hw7
    unfold rowX
    go_wp2
    obtain ⟨hL7, hP7, hO7, rz7⟩ := H7.out
    exact ⟨_, results_cell_row Tryz.results162 _ _ w.heap.size 28 _ (0, 0) _ rfl rz7 Tryz.underlying28 rfl (by kernel_rfl), d5, rowX R6, rfl, hL7.imp fun k hk _ => by omega, hP7, hO7⟩
end Go.Proofs.YtfemippjaokcmaaGreatDoor
namespace Go.Proofs.YtfemippjaokcmaaGreatDoor
open Go.RowKit Go.Shelf
attribute [local go_sem] Oper.semAt_some fw0 fw1 fw2
def atW (b : Nat) (W : World) : Nat :=
  match W.cell? ⟨b, 1, none⟩ with
  | some (.int _ i) => i.toNat
  | _ => 0
theorem Ps.atW {w : World} {b : Nat} {p : Option Addr} {c : Nat} {ws : List Wd} {s : PS} (H : Ps w b p c ws s) : atW b w = s.at' := by
  have h := cell_of_row w b 1 _ _ _ H.row
  have h2 : w.cell? ⟨b, 1, none⟩ = some (.int .i64 (s.at' : Int)) := h
  unfold Go.Proofs.YtfemippjaokcmaaGreatDoor.atW
  rw [h2]
  simp
theorem wholeP_ge (ws : List Wd) (s : PS) (h : s.at' < ws.length) : s.at' ≤ (wholeP ws s).at' := by
  unfold wholeP failP
  split
  · split
    · simp only; omega
    · exact Nat.le_refl _
  · exact Nat.le_refl _
set_option maxRecDepth 100000 in
set_option maxHeartbeats 8000000 in
theorem bound_loop {w : World} {b : Nat} {p : Option Addr} {c : Nat} {ws : List Wd} {s : PS} (H : Ps w b p c ws s) (hz : Wz ws) (hex : s.ex ≤ 700000) (rank : Nat) (hrk : rank < 7) (h2 : ¬ ((rank : Int) = 2)) (h3 : ¬ ((rank : Int) = 3)) (h6 : ¬ ((rank : Int) = 6)) (F : PS → Et × PS)
    (hF : ∀ u, u.at' < ws.length → Pk 0 0 ws u (F u).2)
    (kb : ∀ W u, Ps W b p c ws u → Pk 0 0 ws s u → Calls Tryz.prog 145 #[.pointer (some ⟨b, 0, none⟩), .int .i64 ((rank : Int) + 1)] W (Gives ws (fun k => W.heap.size ≤ k) W b p c (F u))) :
    Calls Tryz.prog 145 #[.pointer (some ⟨b, 0, none⟩), .int .i64 (rank : Int)] w (Gives ws (fun k => w.heap.size ≤ k) w b p c (loopF ws F rank ws.length (F s))) := by
  have hold := H.old
  have lb := lt_of_row H.row
  have few := H.few
  have hwr : wrap64 ((rank : Int) + 1) = (rank : Int) + 1 := by unfold wrap64; omega
  obtain ⟨w1, hw1⟩ : ∃ w1, w.alloc (.cells #[.int .i64 0, .string ⟨#[]⟩, .int .i64 0, .bool false, .int .i64 0, .string ⟨#[]⟩, .slice none 0 0, .slice none 0 0, .slice none 0 0, .slice none 0 0] 28) = w1 := ⟨_, rfl⟩
  have hb1 : Below w.heap.size w w1 := by rw [← hw1]; exact (Below.refl _ w).alloc (Nat.le_refl _) _
  have hs1 : w1.heap.size = w.heap.size + 1 := by rw [← hw1]; simp
  have rz1 : w1.heap[w.heap.size]? = some (.cells zero10 28 (0, 0)) := by rw [← hw1]; exact heap_alloc_new _ _
  have k1 := kb w1 s (H.later hb1) (Pk.refl H.lt)
  have hk1 := hF s H.lt
  obtain ⟨X, hX⟩ : ∃ X, F s = X := ⟨_, rfl⟩
  obtain ⟨V, hV⟩ : ∃ V, loopF ws F rank ws.length X = V := ⟨_, rfl⟩
  rw [hX] at k1 hk1 ⊢
  rw [hV]
  have HH : Hid (Ps w b p c ws s ∧ Below w.heap.size w w1 ∧ loopF ws F rank ws.length X = V ∧ Pk 0 0 ws s X.2) := ⟨H, hb1, hV, hk1⟩
  have HF : Hid (∀ u, u.at' < ws.length → Pk 0 0 ws u (F u).2) := hF
  clear H hb1 hV hk1 hX hF
  go_enter Tryz.func145, Tryz.ntmps145
  go_wp2_with fail
  refine k1.mono ?_
  rintro q w2 ⟨d2, v2, rfl, hL2, hP2, hO2⟩
  obtain ⟨R, rfl⟩ := hL2.row
  obtain ⟨w3, hw3⟩ : ∃ w3, w2.alloc (.cells #[.int .i64 R.k, .string R.s, .int .i64 R.vk, .bool R.vb, .int .i64 R.vn, .string R.vs, .slice none 0 0, .slice none 0 0, .slice R.kp R.n R.kc, .slice R.np R.m R.nc] 28) = w3 := ⟨_, rfl⟩
  have hb3 : Below w2.heap.size w2 w3 := by rw [← hw3]; exact (Below.refl _ w2).alloc (Nat.le_refl _) _
  have hs3 : w3.heap.size = w2.heap.size + 1 := by rw [← hw3]; simp
  have rx3 : w3.heap[w2.heap.size]? = some (.cells (arrX R) 28 (0, 0)) := by rw [← hw3]; exact heap_alloc_new _ _
  have s2 := hO2.size
  obtain ⟨S', hS'⟩ : ∃ S', S' = fun k => w.heap.size + 1 ≤ k ∧ k ≠ w2.heap.size := ⟨_, rfl⟩
  have nx : ¬ S' w2.heap.size := by rw [hS']; intro h; exact h.2 rfl
  have nz : ¬ S' w.heap.size := by rw [hS']; intro h; have := h.1; omega
  have nb : ¬ S' b := by rw [hS']; intro h; have := h.1; omega
  have ny : ∀ k, w2.heap.size + 1 ≤ k → S' k := by intro k hk; rw [hS']; exact ⟨by omega, by omega⟩
  have nS : ∀ k, S' k → w.heap.size ≤ k := by intro k hk; rw [hS'] at hk; have := hk.1; omega
  have B3 : Bx w w3 b p c ws w.heap.size w2.heap.size S' X.2 X.1 R := ⟨rx3, (hb3.block _ (by omega)).trans ((hO2.block _ (by omega) (by omega)).trans rz1), ((Onl.of HH.out.2.1).trans hO2).trans (Onl.of hb3), hP2.later hb3, ⟨d2, (hL2.imp fun k hk hl => by rw [hS']; exact ⟨by omega, by omega⟩).since (Since.below hb3)⟩, ⟨lb, by omega, by omega, by omega⟩, hold, ⟨nx, nz, nb⟩⟩
  have HB : Hid (Bx w w3 b p c ws w.heap.size w2.heap.size S' X.2 X.1 R) := B3
  clear k1 hL2 hP2 hO2 hb3 rx3 hS' B3 rz1 hw1
  unfold rowX
  go_wp2_with fail
  go_loopw [] (fun wr => w2.heap.size + 1 ≤ wr.heap.size ∧ ∃ n x R, Bx w wr b p c ws w.heap.size w2.heap.size S' x.2 x.1 R ∧ loopF ws F rank n x = V ∧ ws.length ≤ x.2.at' + n ∧ Pk 0 0 ws s x.2) (fun wr => ws.length - atW b wr)
  case atStart => exact ⟨by omega, ws.length, X, R, HB.out, HH.out.2.2.1, by omega, HH.out.2.2.2⟩
  case round =>
    obtain ⟨hsz, n, x, Rx, B, hlo, hle, hpk⟩ := hrel
    have kw := word_any B.ps
    have lx := B.ps.lt
    obtain ⟨m, rfl⟩ : ∃ m, n = m + 1 := ⟨n - 1, by omega⟩
    unfold loopF at hlo
    have HL : Hid (Bx w wr b p c ws w.heap.size w2.heap.size S' x.2 x.1 Rx) := B
    have HK : Hid (Pk 0 0 ws s x.2) := hpk
    clear B hpk HB hw3
    obtain ⟨rk, hr⟩ : ∃ rk, rankI (wAt ws x.2.at') = rk := ⟨_, rfl⟩
    rw [hr] at hlo
    have kr := fun W => rank_any (wAt ws x.2.at') W
    rw [hr] at kr
    by_cases hy : rk = (rank : Int)
    · rw [if_pos hy] at hlo
      have hz0 : (wAt ws x.2.at').k ≠ 0 := rankI_kind (by rw [hr]; omega)
      have h1 := hz.next lx hz0
      have pk1 := (HK.out.take hz hz0).less
      have pk2 := HF.out (takeP x.2) h1
      have pk3 := pk1.trans pk2
      have e3 := pk3.ex
      have l3 := pk3.lt
      have g2 : x.2.at' + 1 ≤ (F (takeP x.2)).2.at' := pk2.ge
      have pk4 := HK.out.sides hz (by rw [hr]; omega) HF.out x.1
      have g4 : (F (takeP x.2)).2.at' ≤ (sidesF ws F x.1 x.2).2.at' := wholeP_ge ws _ pk2.lt
      have kS := fun W (hP : Ps W b p c ws x.2) (hS : w2.heap.size + 1 ≤ W.heap.size) dd (hd : LiesE W S' dd x.1 (rowX Rx)) => sides_any hP h1 rank hrk F (fun W hP => kb W (takeP x.2) hP pk1) (by omega) (S := S') ⟨nb, fun k hk => ny k (by omega)⟩ hd
      obtain ⟨Y, hY⟩ : ∃ Y, sidesF ws F x.1 x.2 = Y := ⟨_, rfl⟩
      rw [hY] at kS hlo g4 pk4
      have HY : Hid (loopF ws F rank m Y = V ∧ ws.length ≤ Y.2.at' + m ∧ Pk 0 0 ws s Y.2 ∧ x.2.at' < Y.2.at') := ⟨hlo, by omega, pk4, by omega⟩
      subst hy
      clear hlo hz0 pk1 pk2 pk3 e3 l3 g2 pk4 g4 hY hr hle
      go_wp2_with fail
      refine kw.mono ?_
      rintro q w4 ⟨rfl, hb4⟩
      have B4 := HL.out.quiet hb4
      have s4 := hb4.size
      have HB4 : Hid (Bx w w4 b p c ws w.heap.size w2.heap.size S' x.2 x.1 Rx) := B4
      clear kw hb4 B4
      go_wp2_with fail
      refine (kr w4).mono ?_
      rintro q w5 ⟨rfl, hb5⟩
      have B5 := HB4.out.quiet hb5
      have s5 := hb5.size
      obtain ⟨d5, hd5⟩ := B5.lies
      have kS5 := kS w5 B5.ps (by omega) d5 hd5
      unfold rowX at kS5
      have rx5 := B5.rx
      unfold arrX at rx5
      have p0 := cell_of_row w5 _ 0 _ _ _ rx5
      have p1 := cell_of_row w5 _ 1 _ _ _ rx5
      have p2 := cell_of_row w5 _ 2 _ _ _ rx5
      have p3 := cell_of_row w5 _ 3 _ _ _ rx5
      have p4 := cell_of_row w5 _ 4 _ _ _ rx5
      have p5 := cell_of_row w5 _ 5 _ _ _ rx5
      have p6 := cell_of_row w5 _ 6 _ _ _ rx5
      have p7 := cell_of_row w5 _ 7 _ _ _ rx5
      have p8 := cell_of_row w5 _ 8 _ _ _ rx5
      have p9 := cell_of_row w5 _ 9 _ _ _ rx5
      have HB5 : Hid (Bx w w5 b p c ws w.heap.size w2.heap.size S' x.2 x.1 Rx) := B5
      clear kr hb5 HB4 B5 kS hd5
      go_wp2_with fail
      refine kS5.mono ?_
      rintro q w6 ⟨d6, v6, rfl, hL6, hP6, hO6⟩
      obtain ⟨R6, rfl⟩ := hL6.row
      have B6 := HB5.out.store hO6 hP6 hL6
      have rx6 := (HB5.out.calls hO6 hP6).rx
      unfold arrX at rx6
      have s6 := hO6.size
      obtain ⟨w7, hw7⟩ : ∃ w7, setR w6 w2.heap.size R6 = w7 := ⟨_, rfl⟩
      have s7 : w7.heap.size = w6.heap.size := by rw [← hw7]; exact set10_size _ _ _ _ _ _ _ _ _ _ _ _
      rw [hw7] at B6
      unfold setR set10 at hw7
      clear p0 p1 p2 p3 p4 p5 p6 p7 p8 p9
      have q0 := cell_of_row w6 _ 0 _ _ _ rx6
      have g0 := frozen_of_row w6 _ 0 _ _ rx6
      have q1 := cell_of_row w6 _ 1 _ _ _ rx6
      have g1 := frozen_of_row w6 _ 1 _ _ rx6
      have q2 := cell_of_row w6 _ 2 _ _ _ rx6
      have g2 := frozen_of_row w6 _ 2 _ _ rx6
      have q3 := cell_of_row w6 _ 3 _ _ _ rx6
      have g3 := frozen_of_row w6 _ 3 _ _ rx6
      have q4 := cell_of_row w6 _ 4 _ _ _ rx6
      have g4 := frozen_of_row w6 _ 4 _ _ rx6
      have q5 := cell_of_row w6 _ 5 _ _ _ rx6
      have g5 := frozen_of_row w6 _ 5 _ _ rx6
      have q6 := cell_of_row w6 _ 6 _ _ _ rx6
      have g6 := frozen_of_row w6 _ 6 _ _ rx6
      have q7 := cell_of_row w6 _ 7 _ _ _ rx6
      have g7 := frozen_of_row w6 _ 7 _ _ rx6
      have q8 := cell_of_row w6 _ 8 _ _ _ rx6
      have g8 := frozen_of_row w6 _ 8 _ _ rx6
      have q9 := cell_of_row w6 _ 9 _ _ _ rx6
      have g9 := frozen_of_row w6 _ 9 _ _ rx6
      have HB7 : Hid (Bx w w7 b p c ws w.heap.size w2.heap.size S' Y.2 Y.1 R6) := B6
      clear kS5 hL6 hP6 hO6 HB5 rx5 rx6 B6
      unfold rowX
      go_wp2_with fail
      go_roundw
      case rel => exact ⟨by omega, m, Y, R6, HB7.out, HY.out.1, HY.out.2.1, HY.out.2.2.1⟩
      case measure =>
        rw [HB7.out.ps.atW, HL.out.ps.atW]
        have := HY.out.2.2.2
        omega
    · rw [if_neg hy] at hlo
      subst hlo
      clear hr hle
      go_wp2_with fail
      refine kw.mono ?_
      rintro q w4 ⟨rfl, hb4⟩
      have B4 := HL.out.quiet hb4
      have HB4 : Hid (Bx w w4 b p c ws w.heap.size w2.heap.size S' x.2 x.1 Rx) := B4
      clear kw hb4 B4
      go_wp2_with fail
      refine (kr w4).mono ?_
      rintro q w5 ⟨rfl, hb5⟩
      have B5 := HB4.out.quiet hb5
      have rxf := B5.rx
      have rzf := B5.rz
      unfold arrX at rxf
      unfold zero10 at rzf
      have p0 := cell_of_row w5 _ 0 _ _ _ rxf
      have p1 := cell_of_row w5 _ 1 _ _ _ rxf
      have p2 := cell_of_row w5 _ 2 _ _ _ rxf
      have p3 := cell_of_row w5 _ 3 _ _ _ rxf
      have p4 := cell_of_row w5 _ 4 _ _ _ rxf
      have p5 := cell_of_row w5 _ 5 _ _ _ rxf
      have p6 := cell_of_row w5 _ 6 _ _ _ rxf
      have p7 := cell_of_row w5 _ 7 _ _ _ rxf
      have p8 := cell_of_row w5 _ 8 _ _ _ rxf
      have p9 := cell_of_row w5 _ 9 _ _ _ rxf
      have r0 := cell_of_row w5 _ 0 _ _ _ rzf
      have h0 := frozen_of_row w5 _ 0 _ _ rzf
      have r1 := cell_of_row w5 _ 1 _ _ _ rzf
      have h1 := frozen_of_row w5 _ 1 _ _ rzf
      have r2 := cell_of_row w5 _ 2 _ _ _ rzf
      have h2 := frozen_of_row w5 _ 2 _ _ rzf
      have r3 := cell_of_row w5 _ 3 _ _ _ rzf
      have h3 := frozen_of_row w5 _ 3 _ _ rzf
      have r4 := cell_of_row w5 _ 4 _ _ _ rzf
      have h4 := frozen_of_row w5 _ 4 _ _ rzf
      have r5 := cell_of_row w5 _ 5 _ _ _ rzf
      have h5 := frozen_of_row w5 _ 5 _ _ rzf
      have r6 := cell_of_row w5 _ 6 _ _ _ rzf
      have h6 := frozen_of_row w5 _ 6 _ _ rzf
      have r7 := cell_of_row w5 _ 7 _ _ _ rzf
      have h7 := frozen_of_row w5 _ 7 _ _ rzf
      have r8 := cell_of_row w5 _ 8 _ _ _ rzf
      have h8 := frozen_of_row w5 _ 8 _ _ rzf
      have r9 := cell_of_row w5 _ 9 _ _ _ rzf
      have h9 := frozen_of_row w5 _ 9 _ _ rzf
      have HB5 : Hid (Bx w w5 b p c ws w.heap.size w2.heap.size S' x.2 x.1 Rx) := B5
      clear kr hb5 HB4 B5 rxf rzf
      go_wp2
      exact bodyPost_ret (results_cell_row Tryz.results145 _ _ w.heap.size 28 _ (0, 0) _ rfl (setR_row HB5.out.rz rfl Rx) Tryz.underlying28 rfl (by kernel_rfl)) rfl (HB5.out.done nS)
end Go.Proofs.YtfemippjaokcmaaGreatDoor
