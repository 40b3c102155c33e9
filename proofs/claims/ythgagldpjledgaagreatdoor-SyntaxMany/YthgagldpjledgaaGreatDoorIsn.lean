/- What stands behind IS (isNull). -/
import Derived.Test.YthgagldpjledgaaGreatDoorSid
namespace Go.Proofs.YthgagldpjledgaaGreatDoor
open Go.RowKit Go.Shelf
attribute [local go_sem] Oper.semAt_some fw0 fw1 fw2
theorem Since.set10 {S : Nat → Prop} {z : Nat} (hz : ¬ S z) (w : World) (k0 k1 k2 k3 k4 k5 k6 k7 k8 k9 : Value) : Since S w (set10 w z k0 k1 k2 k3 k4 k5 k6 k7 k8 k9) :=
  ⟨Nat.le_of_eq (set10_size _ _ _ _ _ _ _ _ _ _ _ _).symm, fun k hk _ => set10_other (fun (e : k = z) => hz (e ▸ hk)) _ _ _ _ _ _ _ _ _ _⟩
theorem wholeP_ex (ws : List Wd) (s : PS) : (wholeP ws s).ex = s.ex + 1 := by
  unfold wholeP failP
  split
  · split
    · rfl
    · rfl
  · rfl
theorem mustP_ex (ws : List Wd) (s : PS) (k : Nat) (t : ByteArray) : (mustP ws s k t).ex = s.ex := by
  unfold mustP failP
  split
  · rfl
  · split
    · rfl
    · rfl
set_option maxRecDepth 100000 in
set_option maxHeartbeats 8000000 in
theorem isNull_any {w : World} {b : Nat} {p : Option Addr} {c : Nat} {ws : List Wd} {s : PS} (H : Ps w b p c ws s) (hz : Wz ws) (hex : s.ex ≤ 900000) {S : Nat → Prop} {d : Nat} (hB : ¬ S b ∧ ∀ k, w.heap.size ≤ k → S k) {t : Et} {v : Value} (L : LiesE w S d t v) :
    Calls Tryz.prog 134 #[.pointer (some ⟨b, 0, none⟩), v] w (Gives ws S w b p c (isNullF ws t s)) := by
  obtain ⟨kp, kc, np, nc, rfl⟩ := L.form
  obtain ⟨e, he⟩ : ∃ e, t [] = e := ⟨_, rfl⟩
  rw [he] at L ⊢
  have hold := H.old
  have lb := lt_of_row H.row
  obtain ⟨S', hS'⟩ : ∃ S', S' = fun k => S k ∧ k ≠ w.heap.size ∧ k ≠ w.heap.size + 1 := ⟨_, rfl⟩
  have nx : ¬ S' w.heap.size := by rw [hS']; intro h; exact h.2.1 rfl
  have nz : ¬ S' (w.heap.size + 1) := by rw [hS']; intro h; exact h.2.2 rfl
  have nb : ¬ S' b := by rw [hS']; intro h; exact hB.1 h.1
  have ny : ∀ k, w.heap.size + 1 + 1 ≤ k → S' k := by intro k hk; rw [hS']; exact ⟨hB.2 k (by omega), by omega, by omega⟩
  have nS : ∀ k, S' k → S k := by intro k hk; rw [hS'] at hk; exact hk.1
  have L' : LiesE w S' d t (enV e kp kc np nc) := L.imp fun k h1 h2 => by rw [hS']; exact ⟨h1, by omega, by omega⟩
  clear hS'
  obtain ⟨w2, hw2⟩ : ∃ w2, (w.alloc (.cells #[.int .i64 (e.k : Int), .string e.s, .int .i64 (e.vk : Int), .bool e.vb, .int .i64 e.vn, .string e.vs, .slice none 0 0, .slice none 0 0, .slice kp e.n kc, .slice np e.m nc] 28)).alloc (.cells #[.int .i64 0, .string ⟨#[]⟩, .int .i64 0, .bool false, .int .i64 0, .string ⟨#[]⟩, .slice none 0 0, .slice none 0 0, .slice none 0 0, .slice none 0 0] 28) = w2 := ⟨_, rfl⟩
  have hb2 : Below w.heap.size w w2 := by rw [← hw2]; exact ((Below.refl _ w).alloc (Nat.le_refl _) _).alloc (by simp) _
  have hs2 : w2.heap.size = w.heap.size + 1 + 1 := by rw [← hw2]; simp
  have rx2 : w2.heap[w.heap.size]? = some (.cells #[.int .i64 (e.k : Int), .string e.s, .int .i64 (e.vk : Int), .bool e.vb, .int .i64 e.vn, .string e.vs, .slice none 0 0, .slice none 0 0, .slice kp e.n kc, .slice np e.m nc] 28 (0, 0)) := by rw [← hw2, Below.heap_alloc _ _ _ (by simp)]; exact heap_alloc_new _ _
  have rz2 : w2.heap[w.heap.size + 1]? = some (.cells #[.int .i64 0, .string ⟨#[]⟩, .int .i64 0, .bool false, .int .i64 0, .string ⟨#[]⟩, .slice none 0 0, .slice none 0 0, .slice none 0 0, .slice none 0 0] 28 (0, 0)) := by
    rw [← hw2]
    have := heap_alloc_new (w.alloc (.cells #[.int .i64 (e.k : Int), .string e.s, .int .i64 (e.vk : Int), .bool e.vb, .int .i64 e.vn, .string e.vs, .slice none 0 0, .slice none 0 0, .slice kp e.n kc, .slice np e.m nc] 28)) (.cells #[.int .i64 0, .string ⟨#[]⟩, .int .i64 0, .bool false, .int .i64 0, .string ⟨#[]⟩, .slice none 0 0, .slice none 0 0, .slice none 0 0, .slice none 0 0] 28)
    simpa using this
  have kt := tookKey_any (H.later hb2) hz ⟨#[78, 79, 84]⟩
  unfold isNullF
  rw [← isW_isP]
  simp only [← mustP_mustQ]
  obtain ⟨R, hR⟩ : ∃ R, isW (wAt ws s.at') 2 ⟨([78, 79, 84] : List UInt8).toArray⟩ = R := ⟨_, rfl⟩
  have hR' : isW (wAt ws s.at') 2 ⟨#[78, 79, 84]⟩ = R := hR
  rw [hR]
  unfold tookP at kt
  rw [hR'] at kt
  clear hR hR'
  have HH : Hid (LiesE w S' d t (enV e kp kc np nc) ∧ Below w.heap.size w w2) := ⟨L', hb2⟩
  clear H L L' hb2
  obtain ⟨ek, hek⟩ : ∃ ek, (e.k : Int) = ek := ⟨_, rfl⟩
  obtain ⟨evk, hevk⟩ : ∃ ek, (e.vk : Int) = ek := ⟨_, rfl⟩
  rw [hek, hevk] at hw2 rx2
  have hV : enV e kp kc np nc = .agg #[.int .i64 ek, .string e.s, .int .i64 evk, .bool e.vb, .int .i64 e.vn, .string e.vs, .slice none 0 0, .slice none 0 0, .slice kp e.n kc, .slice np e.m nc] := by unfold enV; rw [hek, hevk]
  rw [hV] at HH ⊢
  clear hV
  cases R with
  | true =>
    rw [if_pos rfl] at kt ⊢
    have ex4 : (mustP ws (takeP s) 2 ⟨([78, 85, 76, 76] : List UInt8).toArray⟩).ex ≤ 900000 := by rw [mustP_ex]; exact hex
    obtain ⟨P4, hP4e⟩ : ∃ P4, (mustP ws (takeP s) 2 ⟨([78, 85, 76, 76] : List UInt8).toArray⟩) = P4 := ⟨_, rfl⟩
    rw [hP4e] at ex4 ⊢
    go_enter Tryz.func134, Tryz.ntmps134
    go_wp2_with fail
    refine kt.mono ?_
    rintro q w3 ⟨rfl, hP3, hO3⟩
    have rx3 := (hO3.block _ (by omega) (by omega)).trans rx2
    have rz3 := (hO3.block _ (by omega) (by omega)).trans rz2
    have s3 := hO3.size
    have kk := pkey_any hP3 hz ⟨#[78, 85, 76, 76]⟩
    have HO3 : Hid (Onl b w2 w3) := hO3
    clear kt hP3 hO3 hw2 rx2 rz2
    go_wp2_with fail
    refine kk.mono ?_
    rintro q w4 ⟨rfl, hP4, hO4⟩
    have hP4' : Ps w4 b p c ws P4 := by rw [← hP4e]; exact hP4
    have rx4 := (hO4.block _ (by omega) (by omega)).trans rx3
    have rz4 := (hO4.block _ (by omega) (by omega)).trans rz3
    have s4 := hO4.size
    have hb2 := HH.out.2
    have hS4 : Since S' w w4 := ((Since.below hb2).trans (Since.onl HO3.out nb)).trans (Since.onl hO4 nb)
    have ka := around_any hP4' (by omega) 5 (S := S') ⟨nb, fun k hk => ny k (by omega)⟩ (HH.out.1.since hS4)
    have HO4 : Hid (Onl b w3 w4) := hO4
    have HS : Hid (Below w.heap.size w w2) := hb2
    clear kk hP4 hP4' hO4 rx3 rz3 HH hb2 hS4
    have p0 := cell_of_row w4 _ 0 _ _ _ rx4
    have p1 := cell_of_row w4 _ 1 _ _ _ rx4
    have p2 := cell_of_row w4 _ 2 _ _ _ rx4
    have p3 := cell_of_row w4 _ 3 _ _ _ rx4
    have p4 := cell_of_row w4 _ 4 _ _ _ rx4
    have p5 := cell_of_row w4 _ 5 _ _ _ rx4
    have p6 := cell_of_row w4 _ 6 _ _ _ rx4
    have p7 := cell_of_row w4 _ 7 _ _ _ rx4
    have p8 := cell_of_row w4 _ 8 _ _ _ rx4
    have p9 := cell_of_row w4 _ 9 _ _ _ rx4

    go_wp2_with fail
    refine ka.mono ?_
    rintro q w5 ⟨v5, rfl, hL5, hP5, hO5⟩
    clear p0 p1 p2 p3 p4 p5 p6 p7 p8 p9
    have hb2 := HS.out
    have hO3 := HO3.out
    have hO4 := HO4.out
    obtain ⟨P5, hP5e⟩ : ∃ P5, wholeP ws P4 = P5 := ⟨_, rfl⟩
    have ex5 : P5.ex ≤ 900001 := by rw [← hP5e, wholeP_ex]; omega
    rw [hP5e] at hP5
    clear ka
    have rx5 := (hO5.block _ (by omega) (by omega)).trans rx4
    have rz5 := (hO5.block _ (by omega) (by omega)).trans rz4
    have s5 := hO5.size
    obtain ⟨kq, kd, nq, nd, rfl⟩ := hL5.form
    have e5 : enV (oneT 5 t []) kq kd nq nd = .agg #[.int .i64 5, .string ⟨#[]⟩, .int .i64 0, .bool false, .int .i64 0, .string ⟨#[]⟩, .slice none 0 0, .slice none 0 0, .slice kq 1 kd, .slice nq 0 nd] := rfl
    obtain ⟨w6, hw6⟩ : ∃ w6, set10 w5 w.heap.size (.int .i64 5) (.string ⟨#[]⟩) (.int .i64 0) (.bool false) (.int .i64 0) (.string ⟨#[]⟩) (.slice none 0 0) (.slice none 0 0) (.slice kq 1 kd) (.slice nq 0 nd) = w6 := ⟨_, rfl⟩
    have rx6 : w6.heap[w.heap.size]? = some (.cells #[.int .i64 5, .string ⟨#[]⟩, .int .i64 0, .bool false, .int .i64 0, .string ⟨#[]⟩, .slice none 0 0, .slice none 0 0, .slice kq 1 kd, .slice nq 0 nd] 28 (0, 0)) := by rw [← hw6]; exact set10_row rx5 _ _ _ _ _ _ _ _ _ _
    have rz6 : w6.heap[w.heap.size + 1]? = some (.cells #[.int .i64 0, .string ⟨#[]⟩, .int .i64 0, .bool false, .int .i64 0, .string ⟨#[]⟩, .slice none 0 0, .slice none 0 0, .slice none 0 0, .slice none 0 0] 28 (0, 0)) := by rw [← hw6, set10_other (by omega)]; exact rz5
    have hs6 : w6.heap.size = w5.heap.size := by rw [← hw6]; exact set10_size _ _ _ _ _ _ _ _ _ _ _ _
    have hO6 : Onl b w w6 := by rw [← hw6]; exact (((((Onl.of hb2).trans hO3).trans hO4).trans hO5)).set10 _ (by omega) _ _ _ _ _ _ _ _ _ _
    have hP6 : Ps w6 b p c ws P5 := by rw [← hw6]; exact hP5.kept (z := w.heap.size) lb hold (fun j hj => set10_other hj _ _ _ _ _ _ _ _ _ _) (Nat.le_of_eq (set10_size _ _ _ _ _ _ _ _ _ _ _ _).symm)
    have hL6 : LiesE w6 S' (d + 1) (oneT 5 t) (enV (oneT 5 t []) kq kd nq nd) := by rw [← hw6]; exact hL5.since (Since.set10 nx w5 _ _ _ _ _ _ _ _ _ _)
    have ka := around_any hP6 (by omega) 4 (S := S') ⟨nb, fun k hk => ny k (by omega)⟩ hL6
    rw [e5] at ka ⊢
    have q0 := cell_of_row w5 _ 0 _ _ _ rx5
    have g0 := frozen_of_row w5 _ 0 _ _ rx5
    have q1 := cell_of_row w5 _ 1 _ _ _ rx5
    have g1 := frozen_of_row w5 _ 1 _ _ rx5
    have q2 := cell_of_row w5 _ 2 _ _ _ rx5
    have g2 := frozen_of_row w5 _ 2 _ _ rx5
    have q3 := cell_of_row w5 _ 3 _ _ _ rx5
    have g3 := frozen_of_row w5 _ 3 _ _ rx5
    have q4 := cell_of_row w5 _ 4 _ _ _ rx5
    have g4 := frozen_of_row w5 _ 4 _ _ rx5
    have q5 := cell_of_row w5 _ 5 _ _ _ rx5
    have g5 := frozen_of_row w5 _ 5 _ _ rx5
    have q6 := cell_of_row w5 _ 6 _ _ _ rx5
    have g6 := frozen_of_row w5 _ 6 _ _ rx5
    have q7 := cell_of_row w5 _ 7 _ _ _ rx5
    have g7 := frozen_of_row w5 _ 7 _ _ rx5
    have q8 := cell_of_row w5 _ 8 _ _ _ rx5
    have g8 := frozen_of_row w5 _ 8 _ _ rx5
    have q9 := cell_of_row w5 _ 9 _ _ _ rx5
    have g9 := frozen_of_row w5 _ 9 _ _ rx5
    have p0 := cell_of_row w6 _ 0 _ _ _ rx6
    have p1 := cell_of_row w6 _ 1 _ _ _ rx6
    have p2 := cell_of_row w6 _ 2 _ _ _ rx6
    have p3 := cell_of_row w6 _ 3 _ _ _ rx6
    have p4 := cell_of_row w6 _ 4 _ _ _ rx6
    have p5 := cell_of_row w6 _ 5 _ _ _ rx6
    have p6 := cell_of_row w6 _ 6 _ _ _ rx6
    have p7 := cell_of_row w6 _ 7 _ _ _ rx6
    have p8 := cell_of_row w6 _ 8 _ _ _ rx6
    have p9 := cell_of_row w6 _ 9 _ _ _ rx6

    have H6 : Hid (Onl b w w6) := hO6
    clear rx4 rz4 rx5 rz5 hL5 hP5 hO5 hO3 hO4 hb2 HO3 HO4 HS hO6 hP6 hL6
    unfold set10 at hw6
    go_wp2_with fail
    refine ka.mono ?_
    rintro q w7 ⟨v7, rfl, hL7, hP7, hO7⟩
    clear p0 p1 p2 p3 p4 p5 p6 p7 p8 p9 q0 q1 q2 q3 q4 q5 q6 q7 q8 q9 g0 g1 g2 g3 g4 g5 g6 g7 g8 g9
    have rx7 := (hO7.block _ (by omega) (by omega)).trans rx6
    have rz7 := (hO7.block _ (by omega) (by omega)).trans rz6
    have s7 := hO7.size
    obtain ⟨kr, kf, nr, nf, rfl⟩ := hL7.form
    have e7 : enV (oneT 4 (oneT 5 t) []) kr kf nr nf = .agg #[.int .i64 4, .string ⟨#[]⟩, .int .i64 0, .bool false, .int .i64 0, .string ⟨#[]⟩, .slice none 0 0, .slice none 0 0, .slice kr 1 kf, .slice nr 0 nf] := rfl
    obtain ⟨w8, hw8⟩ : ∃ w8, set10 w7 w.heap.size (.int .i64 4) (.string ⟨#[]⟩) (.int .i64 0) (.bool false) (.int .i64 0) (.string ⟨#[]⟩) (.slice none 0 0) (.slice none 0 0) (.slice kr 1 kf) (.slice nr 0 nf) = w8 := ⟨_, rfl⟩
    have rx8 : w8.heap[w.heap.size]? = some (.cells #[.int .i64 4, .string ⟨#[]⟩, .int .i64 0, .bool false, .int .i64 0, .string ⟨#[]⟩, .slice none 0 0, .slice none 0 0, .slice kr 1 kf, .slice nr 0 nf] 28 (0, 0)) := by rw [← hw8]; exact set10_row rx7 _ _ _ _ _ _ _ _ _ _
    have rz8 : w8.heap[w.heap.size + 1]? = some (.cells #[.int .i64 0, .string ⟨#[]⟩, .int .i64 0, .bool false, .int .i64 0, .string ⟨#[]⟩, .slice none 0 0, .slice none 0 0, .slice none 0 0, .slice none 0 0] 28 (0, 0)) := by rw [← hw8, set10_other (by omega)]; exact rz7
    have hO8 : Onl b w w8 := by rw [← hw8]; exact (H6.out.trans hO7).set10 _ (by omega) _ _ _ _ _ _ _ _ _ _
    have hP8 : Ps w8 b p c ws (wholeP ws P5) := by rw [← hw8]; exact hP7.kept (z := w.heap.size) lb hold (fun j hj => set10_other hj _ _ _ _ _ _ _ _ _ _) (Nat.le_of_eq (set10_size _ _ _ _ _ _ _ _ _ _ _ _).symm)
    have hL8 : LiesE w8 S' (d + 1 + 1) (oneT 4 (oneT 5 t)) (enV (oneT 4 (oneT 5 t) []) kr kf nr nf) := by rw [← hw8]; exact hL7.since (Since.set10 nx w7 _ _ _ _ _ _ _ _ _ _)
    have H8 : Hid (Onl b w w8 ∧ Ps w8 b p c ws (wholeP ws P5) ∧ LiesE w8 S' (d + 1 + 1) (oneT 4 (oneT 5 t)) (enV (oneT 4 (oneT 5 t) []) kr kf nr nf)) := ⟨hO8, hP8, hL8⟩
    rw [e7]
    have q0 := cell_of_row w7 _ 0 _ _ _ rx7
    have g0 := frozen_of_row w7 _ 0 _ _ rx7
    have q1 := cell_of_row w7 _ 1 _ _ _ rx7
    have g1 := frozen_of_row w7 _ 1 _ _ rx7
    have q2 := cell_of_row w7 _ 2 _ _ _ rx7
    have g2 := frozen_of_row w7 _ 2 _ _ rx7
    have q3 := cell_of_row w7 _ 3 _ _ _ rx7
    have g3 := frozen_of_row w7 _ 3 _ _ rx7
    have q4 := cell_of_row w7 _ 4 _ _ _ rx7
    have g4 := frozen_of_row w7 _ 4 _ _ rx7
    have q5 := cell_of_row w7 _ 5 _ _ _ rx7
    have g5 := frozen_of_row w7 _ 5 _ _ rx7
    have q6 := cell_of_row w7 _ 6 _ _ _ rx7
    have g6 := frozen_of_row w7 _ 6 _ _ rx7
    have q7 := cell_of_row w7 _ 7 _ _ _ rx7
    have g7 := frozen_of_row w7 _ 7 _ _ rx7
    have q8 := cell_of_row w7 _ 8 _ _ _ rx7
    have g8 := frozen_of_row w7 _ 8 _ _ rx7
    have q9 := cell_of_row w7 _ 9 _ _ _ rx7
    have g9 := frozen_of_row w7 _ 9 _ _ rx7
    have p0 := cell_of_row w8 _ 0 _ _ _ rx8
    have p1 := cell_of_row w8 _ 1 _ _ _ rx8
    have p2 := cell_of_row w8 _ 2 _ _ _ rx8
    have p3 := cell_of_row w8 _ 3 _ _ _ rx8
    have p4 := cell_of_row w8 _ 4 _ _ _ rx8
    have p5 := cell_of_row w8 _ 5 _ _ _ rx8
    have p6 := cell_of_row w8 _ 6 _ _ _ rx8
    have p7 := cell_of_row w8 _ 7 _ _ _ rx8
    have p8 := cell_of_row w8 _ 8 _ _ _ rx8
    have p9 := cell_of_row w8 _ 9 _ _ _ rx8
    have r0 := cell_of_row w8 _ 0 _ _ _ rz8
    have h0 := frozen_of_row w8 _ 0 _ _ rz8
    have r1 := cell_of_row w8 _ 1 _ _ _ rz8
    have h1 := frozen_of_row w8 _ 1 _ _ rz8
    have r2 := cell_of_row w8 _ 2 _ _ _ rz8
    have h2 := frozen_of_row w8 _ 2 _ _ rz8
    have r3 := cell_of_row w8 _ 3 _ _ _ rz8
    have h3 := frozen_of_row w8 _ 3 _ _ rz8
    have r4 := cell_of_row w8 _ 4 _ _ _ rz8
    have h4 := frozen_of_row w8 _ 4 _ _ rz8
    have r5 := cell_of_row w8 _ 5 _ _ _ rz8
    have h5 := frozen_of_row w8 _ 5 _ _ rz8
    have r6 := cell_of_row w8 _ 6 _ _ _ rz8
    have h6 := frozen_of_row w8 _ 6 _ _ rz8
    have r7 := cell_of_row w8 _ 7 _ _ _ rz8
    have h7 := frozen_of_row w8 _ 7 _ _ rz8
    have r8 := cell_of_row w8 _ 8 _ _ _ rz8
    have h8 := frozen_of_row w8 _ 8 _ _ rz8
    have r9 := cell_of_row w8 _ 9 _ _ _ rz8
    have h9 := frozen_of_row w8 _ 9 _ _ rz8

    clear ka hw6 rx6 rz6 rx7 rz7 hL7 hP7 hO7 hO8 hP8 hL8 rx8 e5 e7
    unfold set10 at hw8
    go_wp2
    refine bodyPost_ret (results_cell_row Tryz.results134 _ _ (w.heap.size + 1) 28 _ (0, 0) _ rfl (set10_row rz8 (.int .i64 4) (.string ⟨#[]⟩) (.int .i64 0) (.bool false) (.int .i64 0) (.string ⟨#[]⟩) (.slice none 0 0) (.slice none 0 0) (.slice kr 1 kf) (.slice nr 0 nf)) Tryz.underlying28 rfl (by kernel_rfl)) rfl ?_
    obtain ⟨hO8, hP8, hL8⟩ := H8.out
    refine ⟨d + 1 + 1, _, rfl, (hL8.since (Since.set10 nz w8 _ _ _ _ _ _ _ _ _ _)).imp fun k hk _ => nS k hk, ?_, hO8.set10 _ (by omega) _ _ _ _ _ _ _ _ _ _⟩
    rw [← hP5e] at hP8
    exact hP8.kept (z := w.heap.size + 1) (by omega) (fun g hg => by have := hold g hg; omega) (fun j hj => set10_other hj _ _ _ _ _ _ _ _ _ _) (Nat.le_of_eq (set10_size _ _ _ _ _ _ _ _ _ _ _ _).symm)
  | false =>
    rw [if_neg (by decide)] at kt ⊢
    have ex4 : (mustP ws s 2 ⟨([78, 85, 76, 76] : List UInt8).toArray⟩).ex ≤ 900000 := by rw [mustP_ex]; exact hex
    obtain ⟨P4, hP4e⟩ : ∃ P4, (mustP ws s 2 ⟨([78, 85, 76, 76] : List UInt8).toArray⟩) = P4 := ⟨_, rfl⟩
    rw [hP4e] at ex4 ⊢
    go_enter Tryz.func134, Tryz.ntmps134
    go_wp2_with fail
    refine kt.mono ?_
    rintro q w3 ⟨rfl, hP3, hO3⟩
    have rx3 := (hO3.block _ (by omega) (by omega)).trans rx2
    have rz3 := (hO3.block _ (by omega) (by omega)).trans rz2
    have s3 := hO3.size
    have kk := pkey_any hP3 hz ⟨#[78, 85, 76, 76]⟩
    have HO3 : Hid (Onl b w2 w3) := hO3
    clear kt hP3 hO3 hw2 rx2 rz2
    go_wp2_with fail
    refine kk.mono ?_
    rintro q w4 ⟨rfl, hP4, hO4⟩
    have hP4' : Ps w4 b p c ws P4 := by rw [← hP4e]; exact hP4
    have rx4 := (hO4.block _ (by omega) (by omega)).trans rx3
    have rz4 := (hO4.block _ (by omega) (by omega)).trans rz3
    have s4 := hO4.size
    have hb2 := HH.out.2
    have hS4 : Since S' w w4 := ((Since.below hb2).trans (Since.onl HO3.out nb)).trans (Since.onl hO4 nb)
    have ka := around_any hP4' (by omega) 5 (S := S') ⟨nb, fun k hk => ny k (by omega)⟩ (HH.out.1.since hS4)
    have HO4 : Hid (Onl b w3 w4) := hO4
    have HS : Hid (Below w.heap.size w w2) := hb2
    clear kk hP4 hP4' hO4 rx3 rz3 HH hb2 hS4
    have p0 := cell_of_row w4 _ 0 _ _ _ rx4
    have p1 := cell_of_row w4 _ 1 _ _ _ rx4
    have p2 := cell_of_row w4 _ 2 _ _ _ rx4
    have p3 := cell_of_row w4 _ 3 _ _ _ rx4
    have p4 := cell_of_row w4 _ 4 _ _ _ rx4
    have p5 := cell_of_row w4 _ 5 _ _ _ rx4
    have p6 := cell_of_row w4 _ 6 _ _ _ rx4
    have p7 := cell_of_row w4 _ 7 _ _ _ rx4
    have p8 := cell_of_row w4 _ 8 _ _ _ rx4
    have p9 := cell_of_row w4 _ 9 _ _ _ rx4

    go_wp2_with fail
    refine ka.mono ?_
    rintro q w5 ⟨v5, rfl, hL5, hP5, hO5⟩
    clear p0 p1 p2 p3 p4 p5 p6 p7 p8 p9
    have hb2 := HS.out
    have hO3 := HO3.out
    have hO4 := HO4.out
    obtain ⟨P5, hP5e⟩ : ∃ P5, wholeP ws P4 = P5 := ⟨_, rfl⟩
    have ex5 : P5.ex ≤ 900001 := by rw [← hP5e, wholeP_ex]; omega
    rw [hP5e] at hP5
    clear ka
    have rx5 := (hO5.block _ (by omega) (by omega)).trans rx4
    have rz5 := (hO5.block _ (by omega) (by omega)).trans rz4
    have s5 := hO5.size
    obtain ⟨kq, kd, nq, nd, rfl⟩ := hL5.form
    have e5 : enV (oneT 5 t []) kq kd nq nd = .agg #[.int .i64 5, .string ⟨#[]⟩, .int .i64 0, .bool false, .int .i64 0, .string ⟨#[]⟩, .slice none 0 0, .slice none 0 0, .slice kq 1 kd, .slice nq 0 nd] := rfl
    obtain ⟨w6, hw6⟩ : ∃ w6, set10 w5 w.heap.size (.int .i64 5) (.string ⟨#[]⟩) (.int .i64 0) (.bool false) (.int .i64 0) (.string ⟨#[]⟩) (.slice none 0 0) (.slice none 0 0) (.slice kq 1 kd) (.slice nq 0 nd) = w6 := ⟨_, rfl⟩
    have rx6 : w6.heap[w.heap.size]? = some (.cells #[.int .i64 5, .string ⟨#[]⟩, .int .i64 0, .bool false, .int .i64 0, .string ⟨#[]⟩, .slice none 0 0, .slice none 0 0, .slice kq 1 kd, .slice nq 0 nd] 28 (0, 0)) := by rw [← hw6]; exact set10_row rx5 _ _ _ _ _ _ _ _ _ _
    have rz6 : w6.heap[w.heap.size + 1]? = some (.cells #[.int .i64 0, .string ⟨#[]⟩, .int .i64 0, .bool false, .int .i64 0, .string ⟨#[]⟩, .slice none 0 0, .slice none 0 0, .slice none 0 0, .slice none 0 0] 28 (0, 0)) := by rw [← hw6, set10_other (by omega)]; exact rz5
    have hs6 : w6.heap.size = w5.heap.size := by rw [← hw6]; exact set10_size _ _ _ _ _ _ _ _ _ _ _ _
    have hO6 : Onl b w w6 := by rw [← hw6]; exact (((((Onl.of hb2).trans hO3).trans hO4).trans hO5)).set10 _ (by omega) _ _ _ _ _ _ _ _ _ _
    have hP6 : Ps w6 b p c ws P5 := by rw [← hw6]; exact hP5.kept (z := w.heap.size) lb hold (fun j hj => set10_other hj _ _ _ _ _ _ _ _ _ _) (Nat.le_of_eq (set10_size _ _ _ _ _ _ _ _ _ _ _ _).symm)
    have hL6 : LiesE w6 S' (d + 1) (oneT 5 t) (enV (oneT 5 t []) kq kd nq nd) := by rw [← hw6]; exact hL5.since (Since.set10 nx w5 _ _ _ _ _ _ _ _ _ _)
    have H6 : Hid (Onl b w w6 ∧ Ps w6 b p c ws P5 ∧ LiesE w6 S' (d + 1) (oneT 5 t) (enV (oneT 5 t []) kq kd nq nd)) := ⟨hO6, hP6, hL6⟩
    rw [e5]
    have q0 := cell_of_row w5 _ 0 _ _ _ rx5
    have g0 := frozen_of_row w5 _ 0 _ _ rx5
    have q1 := cell_of_row w5 _ 1 _ _ _ rx5
    have g1 := frozen_of_row w5 _ 1 _ _ rx5
    have q2 := cell_of_row w5 _ 2 _ _ _ rx5
    have g2 := frozen_of_row w5 _ 2 _ _ rx5
    have q3 := cell_of_row w5 _ 3 _ _ _ rx5
    have g3 := frozen_of_row w5 _ 3 _ _ rx5
    have q4 := cell_of_row w5 _ 4 _ _ _ rx5
    have g4 := frozen_of_row w5 _ 4 _ _ rx5
    have q5 := cell_of_row w5 _ 5 _ _ _ rx5
    have g5 := frozen_of_row w5 _ 5 _ _ rx5
    have q6 := cell_of_row w5 _ 6 _ _ _ rx5
    have g6 := frozen_of_row w5 _ 6 _ _ rx5
    have q7 := cell_of_row w5 _ 7 _ _ _ rx5
    have g7 := frozen_of_row w5 _ 7 _ _ rx5
    have q8 := cell_of_row w5 _ 8 _ _ _ rx5
    have g8 := frozen_of_row w5 _ 8 _ _ rx5
    have q9 := cell_of_row w5 _ 9 _ _ _ rx5
    have g9 := frozen_of_row w5 _ 9 _ _ rx5
    have p0 := cell_of_row w6 _ 0 _ _ _ rx6
    have p1 := cell_of_row w6 _ 1 _ _ _ rx6
    have p2 := cell_of_row w6 _ 2 _ _ _ rx6
    have p3 := cell_of_row w6 _ 3 _ _ _ rx6
    have p4 := cell_of_row w6 _ 4 _ _ _ rx6
    have p5 := cell_of_row w6 _ 5 _ _ _ rx6
    have p6 := cell_of_row w6 _ 6 _ _ _ rx6
    have p7 := cell_of_row w6 _ 7 _ _ _ rx6
    have p8 := cell_of_row w6 _ 8 _ _ _ rx6
    have p9 := cell_of_row w6 _ 9 _ _ _ rx6
    have r0 := cell_of_row w6 _ 0 _ _ _ rz6
    have h0 := frozen_of_row w6 _ 0 _ _ rz6
    have r1 := cell_of_row w6 _ 1 _ _ _ rz6
    have h1 := frozen_of_row w6 _ 1 _ _ rz6
    have r2 := cell_of_row w6 _ 2 _ _ _ rz6
    have h2 := frozen_of_row w6 _ 2 _ _ rz6
    have r3 := cell_of_row w6 _ 3 _ _ _ rz6
    have h3 := frozen_of_row w6 _ 3 _ _ rz6
    have r4 := cell_of_row w6 _ 4 _ _ _ rz6
    have h4 := frozen_of_row w6 _ 4 _ _ rz6
    have r5 := cell_of_row w6 _ 5 _ _ _ rz6
    have h5 := frozen_of_row w6 _ 5 _ _ rz6
    have r6 := cell_of_row w6 _ 6 _ _ _ rz6
    have h6 := frozen_of_row w6 _ 6 _ _ rz6
    have r7 := cell_of_row w6 _ 7 _ _ _ rz6
    have h7 := frozen_of_row w6 _ 7 _ _ rz6
    have r8 := cell_of_row w6 _ 8 _ _ _ rz6
    have h8 := frozen_of_row w6 _ 8 _ _ rz6
    have r9 := cell_of_row w6 _ 9 _ _ _ rz6
    have h9 := frozen_of_row w6 _ 9 _ _ rz6

    clear rx4 rz4 rx5 rz5 hL5 hP5 hO5 hO3 hO4 hb2 HO3 HO4 HS hO6 hP6 hL6 rx6 e5
    unfold set10 at hw6
    go_wp2
    refine bodyPost_ret (results_cell_row Tryz.results134 _ _ (w.heap.size + 1) 28 _ (0, 0) _ rfl (set10_row rz6 (.int .i64 5) (.string ⟨#[]⟩) (.int .i64 0) (.bool false) (.int .i64 0) (.string ⟨#[]⟩) (.slice none 0 0) (.slice none 0 0) (.slice kq 1 kd) (.slice nq 0 nd)) Tryz.underlying28 rfl (by kernel_rfl)) rfl ?_
    obtain ⟨hO6, hP6, hL6⟩ := H6.out
    refine ⟨d + 1, _, rfl, (hL6.since (Since.set10 nz w6 _ _ _ _ _ _ _ _ _ _)).imp fun k hk _ => nS k hk, ?_, hO6.set10 _ (by omega) _ _ _ _ _ _ _ _ _ _⟩
    rw [hP5e]
    exact hP6.kept (z := w.heap.size + 1) (by omega) (fun g hg => by have := hold g hg; omega) (fun j hj => set10_other hj _ _ _ _ _ _ _ _ _ _) (Nat.le_of_eq (set10_size _ _ _ _ _ _ _ _ _ _ _ _).symm)
end Go.Proofs.YthgagldpjledgaaGreatDoor
