/- A sign and its sides (sides). -/
import Derived.Test.YthgagldpjledgaaGreatDoorRnk
namespace Go.Proofs.YthgagldpjledgaaGreatDoor
open Go.RowKit Go.Shelf
attribute [local go_sem] Oper.semAt_some fw0 fw1 fw2
/- What a function of an expression answers. -/
def Gives (ws : List Wd) (S : Nat → Prop) (w : World) (b : Nat) (p : Option Addr) (c : Nat) (x : Et × PS) (r : Ending) (w' : World) : Prop :=
  ∃ d v, r = .returned v ∧ LiesE w' S d x.1 v ∧ Ps w' b p c ws x.2 ∧ Onl b w w'
theorem LiesE.two {w : World} {S : Nat → Prop} {g : Nat} (hg : S g) {T : TypeId} {fr : Nat × Nat} {d : Nat} {sg : ByteArray} {t u : Et} {e : En} {kp : Option Addr} {kc : Nat} {np : Option Addr} {nc : Nat} {f : En} {kq : Option Addr} {kd : Nat} {nq : Option Addr} {nd : Nat}
    (h : w.heap[g]? = some (.cells #[.int .i64 (e.k : Int), .string e.s, .int .i64 (e.vk : Int), .bool e.vb, .int .i64 e.vn, .string e.vs, .slice none 0 0, .slice none 0 0, .slice kp e.n kc, .slice np e.m nc, .int .i64 (f.k : Int), .string f.s, .int .i64 (f.vk : Int), .bool f.vb, .int .i64 f.vn, .string f.vs, .slice none 0 0, .slice none 0 0, .slice kq f.n kd, .slice nq f.m nd] T fr)) (L : LiesE w S d t (enV e kp kc np nc)) (M : LiesE w S d u (enV f kq kd nq nd)) : LiesE w S (d + 1) (binT sg t u) (enV (nodeE 6 sg 2) (some ⟨g, 0, none⟩) 2 none 0) := by
  refine ⟨_, _, _, _, _, rfl, Nms.none _ _ _, Kds.ofRow (n := 2) (c := 2) hg h (by simp) (by decide), fun i hi => ?_⟩
  have hi' : i < 2 := hi
  rcases (by omega : i = 0 ∨ i = 1) with rfl | rfl
  · exact L
  · exact M
set_option maxRecDepth 100000 in
set_option maxHeartbeats 8000000 in
theorem sides_any {w : World} {b : Nat} {p : Option Addr} {c : Nat} {ws : List Wd} {s : PS} (H : Ps w b p c ws s) (h1 : s.at' + 1 < ws.length) (rank : Nat) (hr : rank < 7) (F : PS → Et × PS)
    (kb : ∀ W, Ps W b p c ws (takeP s) → Calls Tryz.prog 92 #[.pointer (some ⟨b, 0, none⟩), .int .i64 ((rank : Int) + 1)] W (Gives ws (fun k => W.heap.size ≤ k) W b p c (F (takeP s)))) (hex : (F (takeP s)).2.ex ≤ 1000000) {S : Nat → Prop} {d : Nat} (hB : ¬ S b ∧ ∀ k, w.heap.size ≤ k → S k) {t : Et} {v : Value} (L : LiesE w S d t v) :
    Calls Tryz.prog 115 #[.pointer (some ⟨b, 0, none⟩), v, .int .i64 (rank : Int)] w (Gives ws S w b p c (sidesF ws F t s)) := by
  obtain ⟨kp, kc, np, nc, rfl⟩ := L.form
  obtain ⟨e, he⟩ : ∃ e, t [] = e := ⟨_, rfl⟩
  rw [he] at L ⊢
  have hold := H.old
  have lb := lt_of_row H.row
  unfold sidesF
  obtain ⟨sg, hsg⟩ : ∃ sg, wdS (wAt ws s.at') = sg := ⟨_, rfl⟩
  obtain ⟨X, hX⟩ : ∃ X, F (takeP s) = X := ⟨_, rfl⟩
  rw [hX] at kb hex ⊢
  rw [hsg]
  obtain ⟨w2, hw2⟩ : ∃ w2, (w.alloc (.cells #[.int .i64 (e.k : Int), .string e.s, .int .i64 (e.vk : Int), .bool e.vb, .int .i64 e.vn, .string e.vs, .slice none 0 0, .slice none 0 0, .slice kp e.n kc, .slice np e.m nc] 28)).alloc (.cells #[.int .i64 0, .string ⟨#[]⟩, .int .i64 0, .bool false, .int .i64 0, .string ⟨#[]⟩, .slice none 0 0, .slice none 0 0, .slice none 0 0, .slice none 0 0] 28) = w2 := ⟨_, rfl⟩
  have hb2 : Below w.heap.size w w2 := by rw [← hw2]; exact ((Below.refl _ w).alloc (Nat.le_refl _) _).alloc (by simp) _
  have hs2 : w2.heap.size = w.heap.size + 1 + 1 := by rw [← hw2]; simp
  have rx2 : w2.heap[w.heap.size]? = some (.cells #[.int .i64 (e.k : Int), .string e.s, .int .i64 (e.vk : Int), .bool e.vb, .int .i64 e.vn, .string e.vs, .slice none 0 0, .slice none 0 0, .slice kp e.n kc, .slice np e.m nc] 28 (0, 0)) := by rw [← hw2, Below.heap_alloc _ _ _ (by simp)]; exact heap_alloc_new _ _
  have rz2 : w2.heap[w.heap.size + 1]? = some (.cells #[.int .i64 0, .string ⟨#[]⟩, .int .i64 0, .bool false, .int .i64 0, .string ⟨#[]⟩, .slice none 0 0, .slice none 0 0, .slice none 0 0, .slice none 0 0] 28 (0, 0)) := by
    rw [← hw2]
    have := heap_alloc_new (w.alloc (.cells #[.int .i64 (e.k : Int), .string e.s, .int .i64 (e.vk : Int), .bool e.vb, .int .i64 e.vn, .string e.vs, .slice none 0 0, .slice none 0 0, .slice kp e.n kc, .slice np e.m nc] 28)) (.cells #[.int .i64 0, .string ⟨#[]⟩, .int .i64 0, .bool false, .int .i64 0, .string ⟨#[]⟩, .slice none 0 0, .slice none 0 0, .slice none 0 0, .slice none 0 0] 28)
    simpa using this
  have kt := take_any (H.later hb2) h1
  rw [hsg] at kt
  have HH : Hid (Ps w b p c ws s ∧ LiesE w S d t (enV e kp kc np nc) ∧ Below w.heap.size w w2) := ⟨H, L, hb2⟩
  clear H L hb2 hsg
  unfold enV
  obtain ⟨ek, hek⟩ : ∃ ek, (e.k : Int) = ek := ⟨_, rfl⟩
  obtain ⟨evk, hevk⟩ : ∃ ek, (e.vk : Int) = ek := ⟨_, rfl⟩
  rw [hek, hevk] at hw2 rx2 ⊢
  have hwr : wrap64 ((rank : Int) + 1) = (rank : Int) + 1 := by unfold wrap64; omega
  clear hr
  go_enter Tryz.func115, Tryz.ntmps115
  go_wp2_with fail
  refine kt.mono ?_
  rintro q w3 ⟨rfl, hP3, hO3⟩
  have rx3 := (hO3.block _ (by omega) (by omega)).trans rx2
  have rz3 := (hO3.block _ (by omega) (by omega)).trans rz2
  have s3 := hO3.size
  have kb3 := kb w3 hP3
  have HO3 : Hid (Onl b w2 w3) := hO3
  clear kt kb hP3 hO3 hw2 rx2 rz2
  go_wp2_with fail
  refine kb3.mono ?_
  rintro q w4 ⟨d4, v4, rfl, hL4, hP4, hO4⟩
  have rx4 := (hO4.block _ (by omega) (by omega)).trans rx3
  have rz4 := (hO4.block _ (by omega) (by omega)).trans rz3
  have s4 := hO4.size
  obtain ⟨kq, kd, nq, nd, rfl⟩ := hL4.form
  obtain ⟨f, hf⟩ : ∃ f, X.1 [] = f := ⟨_, rfl⟩
  rw [hf] at hL4 ⊢
  obtain ⟨w5, hw5⟩ : ∃ w5, w4.alloc (.cells #[.int .i64 (f.k : Int), .string f.s, .int .i64 (f.vk : Int), .bool f.vb, .int .i64 f.vn, .string f.vs, .slice none 0 0, .slice none 0 0, .slice kq f.n kd, .slice nq f.m nd] 28) = w5 := ⟨_, rfl⟩
  have hb5 : Below w4.heap.size w4 w5 := by rw [← hw5]; exact (Below.refl _ w4).alloc (Nat.le_refl _) _
  have hs5 : w5.heap.size = w4.heap.size + 1 := by rw [← hw5]; simp
  have rx5 := (hb5.block _ (by omega)).trans rx4
  have rz5 := (hb5.block _ (by omega)).trans rz4
  have ry5 : w5.heap[w4.heap.size]? = some (.cells #[.int .i64 (f.k : Int), .string f.s, .int .i64 (f.vk : Int), .bool f.vb, .int .i64 f.vn, .string f.vs, .slice none 0 0, .slice none 0 0, .slice kq f.n kd, .slice nq f.m nd] 28 (0, 0)) := by rw [← hw5]; exact heap_alloc_new _ _
  obtain ⟨w6, hw6⟩ : ∃ w6, w5.alloc (.cells #[.int .i64 ek, .string e.s, .int .i64 evk, .bool e.vb, .int .i64 e.vn, .string e.vs, .slice none 0 0, .slice none 0 0, .slice kp e.n kc, .slice np e.m nc, .int .i64 (f.k : Int), .string f.s, .int .i64 (f.vk : Int), .bool f.vb, .int .i64 f.vn, .string f.vs, .slice none 0 0, .slice none 0 0, .slice kq f.n kd, .slice nq f.m nd] 28) = w6 := ⟨_, rfl⟩
  have hb6 : Below w5.heap.size w5 w6 := by rw [← hw6]; exact (Below.refl _ w5).alloc (Nat.le_refl _) _
  have hs6 : w6.heap.size = w5.heap.size + 1 := by rw [← hw6]; simp
  have rz6 := (hb6.block _ (by omega)).trans rz5
  have rk6 : w6.heap[w4.heap.size + 1]? = some (.cells #[.int .i64 ek, .string e.s, .int .i64 evk, .bool e.vb, .int .i64 e.vn, .string e.vs, .slice none 0 0, .slice none 0 0, .slice kp e.n kc, .slice np e.m nc, .int .i64 (f.k : Int), .string f.s, .int .i64 (f.vk : Int), .bool f.vb, .int .i64 f.vn, .string f.vs, .slice none 0 0, .slice none 0 0, .slice kq f.n kd, .slice nq f.m nd] 28 (0, 0)) := by rw [← hw6, ← hs5]; exact heap_alloc_new _ _
  have hb46 : Below w4.heap.size w4 w6 := hb5.trans (hb6.mono (by omega))
  have kw := whole_any (hP4.later hb46) hex (nodeE 6 sg 2) (some ⟨w4.heap.size + 1, 0, none⟩) 2 none 0
  have kw' : Calls Tryz.prog 135 #[.pointer (some ⟨b, 0, none⟩), .agg #[.int .i64 6, .string sg, .int .i64 0, .bool false, .int .i64 0, .string ⟨#[]⟩, .slice none 0 0, .slice none 0 0, .slice (some ⟨w4.heap.size + 1, 0, none⟩) 2 2, .slice none 0 0]] w6 fun r w' => r = .returned (.agg #[.int .i64 6, .string sg, .int .i64 0, .bool false, .int .i64 0, .string ⟨#[]⟩, .slice none 0 0, .slice none 0 0, .slice (some ⟨w4.heap.size + 1, 0, none⟩) 2 2, .slice none 0 0]) ∧ Ps w' b p c ws (wholeP ws X.2) ∧ Onl b w6 w' := kw
  have H4 : Hid (LiesE w4 (fun k => w3.heap.size ≤ k) d4 X.1 (enV f kq kd nq nd) ∧ Ps w4 b p c ws X.2 ∧ Onl b w3 w4 ∧ Below w4.heap.size w4 w6 ∧ w6.heap[w4.heap.size + 1]? = some (.cells #[.int .i64 ek, .string e.s, .int .i64 evk, .bool e.vb, .int .i64 e.vn, .string e.vs, .slice none 0 0, .slice none 0 0, .slice kp e.n kc, .slice np e.m nc, .int .i64 (f.k : Int), .string f.s, .int .i64 (f.vk : Int), .bool f.vb, .int .i64 f.vn, .string f.vs, .slice none 0 0, .slice none 0 0, .slice kq f.n kd, .slice nq f.m nd] 28 (0, 0))) := ⟨hL4, hP4, hO4, hb46, rk6⟩
  clear hL4 hP4 hO4 hb5 hb6 hb46 rk6 kw kb3 rx3 rz3 rx4 rz4
  unfold enV
  obtain ⟨fk, hfk⟩ : ∃ ek, (f.k : Int) = ek := ⟨_, rfl⟩
  obtain ⟨fvk, hfvk⟩ : ∃ ek, (f.vk : Int) = ek := ⟨_, rfl⟩
  rw [hfk, hfvk] at hw5 ry5 hw6 ⊢
  have p0 := cell_of_row w5 _ 0 _ _ _ rx5
  have p1 := cell_of_row w5 _ 1 _ _ _ rx5
  have p2 := cell_of_row w5 _ 2 _ _ _ rx5
  have p3 := cell_of_row w5 _ 3 _ _ _ rx5
  have p4 := cell_of_row w5 _ 4 _ _ _ rx5
  have p5 := cell_of_row w5 _ 5 _ _ _ rx5
  have p6 := cell_of_row w5 _ 6 _ _ _ rx5
  have p7 := cell_of_row w5 _ 7 _ _ _ rx5
  have p8 := cell_of_row w5 _ 8 _ _ _ rx5
  have p9 := cell_of_row w5 _ 9 _ _ _ rx5
  have q0 := cell_of_row w5 _ 0 _ _ _ ry5
  have q1 := cell_of_row w5 _ 1 _ _ _ ry5
  have q2 := cell_of_row w5 _ 2 _ _ _ ry5
  have q3 := cell_of_row w5 _ 3 _ _ _ ry5
  have q4 := cell_of_row w5 _ 4 _ _ _ ry5
  have q5 := cell_of_row w5 _ 5 _ _ _ ry5
  have q6 := cell_of_row w5 _ 6 _ _ _ ry5
  have q7 := cell_of_row w5 _ 7 _ _ _ ry5
  have q8 := cell_of_row w5 _ 8 _ _ _ ry5
  have q9 := cell_of_row w5 _ 9 _ _ _ ry5

  have lx5 := lt_of_row rx5
  have ly5 := lt_of_row ry5
  clear rx5 ry5 rz5
  go_wp2_with fail
  refine kw'.mono ?_
  rintro r w7 ⟨rfl, hP7, hO7⟩
  have rz7 := (hO7.block _ (by omega) (by omega)).trans rz6
  have s7 := hO7.size
  clear p0 p1 p2 p3 p4 p5 p6 p7 p8 p9 q0 q1 q2 q3 q4 q5 q6 q7 q8 q9
  have q0 := cell_of_row w7 _ 0 _ _ _ rz7
  have g0 := frozen_of_row w7 _ 0 _ _ rz7
  have q1 := cell_of_row w7 _ 1 _ _ _ rz7
  have g1 := frozen_of_row w7 _ 1 _ _ rz7
  have q2 := cell_of_row w7 _ 2 _ _ _ rz7
  have g2 := frozen_of_row w7 _ 2 _ _ rz7
  have q3 := cell_of_row w7 _ 3 _ _ _ rz7
  have g3 := frozen_of_row w7 _ 3 _ _ rz7
  have q4 := cell_of_row w7 _ 4 _ _ _ rz7
  have g4 := frozen_of_row w7 _ 4 _ _ rz7
  have q5 := cell_of_row w7 _ 5 _ _ _ rz7
  have g5 := frozen_of_row w7 _ 5 _ _ rz7
  have q6 := cell_of_row w7 _ 6 _ _ _ rz7
  have g6 := frozen_of_row w7 _ 6 _ _ rz7
  have q7 := cell_of_row w7 _ 7 _ _ _ rz7
  have g7 := frozen_of_row w7 _ 7 _ _ rz7
  have q8 := cell_of_row w7 _ 8 _ _ _ rz7
  have g8 := frozen_of_row w7 _ 8 _ _ rz7
  have q9 := cell_of_row w7 _ 9 _ _ _ rz7
  have g9 := frozen_of_row w7 _ 9 _ _ rz7

  have lz := lt_of_row rz7
  have HP : Hid (Ps w7 b p c ws (wholeP ws X.2) ∧ Onl b w6 w7) := ⟨hP7, hO7⟩
  clear kw' hP7 hO7 hw5 hw6 rz6
  go_wp2
  refine bodyPost_ret (results_cell_row Tryz.results115 _ _ (w.heap.size + 1) 28 _ (0, 0) _ rfl (set10_row rz7 (.int .i64 6) (.string sg) (.int .i64 0) (.bool false) (.int .i64 0) (.string ⟨#[]⟩) (.slice none 0 0) (.slice none 0 0) (.slice (some ⟨w4.heap.size + 1, 0, none⟩) 2 2) (.slice none 0 0)) Tryz.underlying28 rfl (by kernel_rfl)) rfl ?_
  obtain ⟨H, L, hb2⟩ := HH.out
  obtain ⟨hL4, hP4, hO4, hb46, rk6⟩ := H4.out
  obtain ⟨hP7, hO7⟩ := HP.out
  have hS : Since (fun k => w3.heap.size ≤ k) w4 (set10 w7 (w.heap.size + 1) (.int .i64 6) (.string sg) (.int .i64 0) (.bool false) (.int .i64 0) (.string ⟨#[]⟩) (.slice none 0 0) (.slice none 0 0) (.slice (some ⟨w4.heap.size + 1, 0, none⟩) 2 2) (.slice none 0 0)) := ((Since.below hb46).trans (Since.onl hO7 (by omega))).trans ⟨Nat.le_of_eq (set10_size _ _ _ _ _ _ _ _ _ _ _ _).symm, fun k hk _ => set10_other (fun e => by omega) _ _ _ _ _ _ _ _ _ _⟩
  have hO : Onl b w (set10 w7 (w.heap.size + 1) (.int .i64 6) (.string sg) (.int .i64 0) (.bool false) (.int .i64 0) (.string ⟨#[]⟩) (.slice none 0 0) (.slice none 0 0) (.slice (some ⟨w4.heap.size + 1, 0, none⟩) 2 2) (.slice none 0 0)) := ((((Onl.of hb2).trans HO3.out).trans hO4).trans ((Onl.of hb46).trans hO7)).set10 _ (by omega) _ _ _ _ _ _ _ _ _ _
  refine ⟨max d d4 + 1, _, rfl, ?_, ?_, hO⟩
  · rw [← hek, ← hevk] at rk6
    refine LiesE.two (g := w4.heap.size + 1) (hB.2 _ (by omega)) ((set10_other (by omega) _ _ _ _ _ _ _ _ _ _).trans ((hO7.block _ (by omega) (by omega)).trans rk6)) ((L.since (Since.onl hO hB.1)).mono (by omega)) (((hL4.since hS).imp fun k hk _ => hB.2 k (by omega)).mono (by omega))
  · exact hP7.kept (z := w.heap.size + 1) (by omega) (fun g hg => by have := hold g hg; omega) (fun j hj => set10_other hj _ _ _ _ _ _ _ _ _ _) (Nat.le_of_eq (set10_size _ _ _ _ _ _ _ _ _ _ _ _).symm)
end Go.Proofs.YthgagldpjledgaaGreatDoor
