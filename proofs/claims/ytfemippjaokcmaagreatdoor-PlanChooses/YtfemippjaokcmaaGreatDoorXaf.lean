/- A sign and its sides (sides). What stands behind IS (isNull). A variable that holds an expression (x), and the result's box (z), while a function of the parser goes on. -/
import Derived.Test.YtfemippjaokcmaaGreatDoorXae
namespace Go.Proofs.YtfemippjaokcmaaGreatDoor
open Go.RowKit Go.Shelf
attribute [local go_sem] Oper.semAt_some fw0 fw1 fw2
/- What a function of an expression answers. -/
def Gives (ws : List Wd) (S : Nat → Prop) (w : World) (b : Nat) (p : Option Addr) (c : Nat) (x : Et × PS) (r : Ending) (w' : World) : Prop :=
  ∃ d v, r = .returned v ∧ LiesE w' S d x.1 v ∧ Ps w' b p c ws x.2 ∧ Onl b w w'
theorem LiesE.two {w : World} {S : Nat → Prop} {g : Nat} (hg : S g) {T : TypeId} {fr : Nat × Nat} {d : Nat} {sg : ByteArray} {t u : Et} {e : En} {kp : Option Addr} {kc : Nat} {np : Option Addr} {nc : Nat} {f : En} {kq : Option Addr} {kd : Nat} {nq : Option Addr} {nd : Nat}
    (h : w.heap[g]? = some (.cells #[.int .i64 (e.k : Int), .string e.s, .int .i64 (e.vk : Int), .bool e.vb, .int .i64 e.vn, .string e.vs, .slice none 0 0, .slice none 0 0, .slice kp e.n kc, .slice np e.m nc, .int .i64 (f.k : Int), .string f.s, .int .i64 (f.vk : Int), .bool f.vb, .int .i64 f.vn, .string f.vs, .slice none 0 0, .slice none 0 0, .slice kq f.n kd, .slice nq f.m nd] T fr)) (L : LiesE w S d t (enV e kp kc np nc)) (M : LiesE w S d u (enV f kq kd nq nd)) : LiesE w S (d + 1) (binT sg t u) (enV (nodeE 6 sg 2) (some ⟨g, 0, none⟩) 2 none 0) := by
  refine ⟨_, _, _, _, _, rfl, Nms.none _ _ _, Kds.ofRow (n := 2) (c := 2) hg h (by simp) (by decide), fun i hi => ?_⟩
  have hi' : i < 2 := hi
  rcases (by omega : i = 0 ∨ i = 1) with rfl | rfl
  · exact L
  · exact M
set_option maxRecDepth 100000 in
set_option maxHeartbeats 8000000 in
theorem sides_any {w : World} {b : Nat} {p : Option Addr} {c : Nat} {ws : List Wd} {s : PS} (H : Ps w b p c ws s) (h1 : s.at' + 1 < ws.length) (rank : Nat) (hr : rank < 7) (F : PS → Et × PS)
    (kb : ∀ W, Ps W b p c ws (takeP s) → Calls Tryz.prog 145 #[.pointer (some ⟨b, 0, none⟩), .int .i64 ((rank : Int) + 1)] W (Gives ws (fun k => W.heap.size ≤ k) W b p c (F (takeP s)))) (hex : (F (takeP s)).2.ex ≤ 1000000) {S : Nat → Prop} {d : Nat} (hB : ¬ S b ∧ ∀ k, w.heap.size ≤ k → S k) {t : Et} {v : Value} (L : LiesE w S d t v) :
    Calls Tryz.prog 166 #[.pointer (some ⟨b, 0, none⟩), v, .int .i64 (rank : Int)] w (Gives ws S w b p c (sidesF ws F t s)) := by
  obtain ⟨kp, kc, np, nc, rfl⟩ := L.form
  obtain ⟨e, he⟩ : ∃ e, t [] = e := ⟨_, rfl⟩
  rw [he] at L ⊢
  have hold := H.old
  have lb := lt_of_row H.row
  unfold sidesF
  obtain ⟨sg, hsg⟩ : ∃ sg, wdS (wAt ws s.at') = sg := ⟨_, rfl⟩
  obtain ⟨X, hX⟩ : ∃ X, F (takeP s) = X := ⟨_, rfl⟩
  rw [hX] at kb hex ⊢
  rw [hsg]
  obtain ⟨w2, hw2⟩ : ∃ w2, (w.alloc (.cells #[.int .i64 (e.k : Int), .string e.s, .int .i64 (e.vk : Int), .bool e.vb, .int .i64 e.vn, .string e.vs, .slice none 0 0, .slice none 0 0, .slice kp e.n kc, .slice np e.m nc] 28)).alloc (.cells #[.int .i64 0, .string ⟨#[]⟩, .int .i64 0, .bool false, .int .i64 0, .string ⟨#[]⟩, .slice none 0 0, .slice none 0 0, .slice none 0 0, .slice none 0 0] 28) = w2 := ⟨_, rfl⟩
  have hb2 : Below w.heap.size w w2 := by rw [← hw2]; exact ((Below.refl _ w).alloc (Nat.le_refl _) _).alloc (by simp) _
  have hs2 : w2.heap.size = w.heap.size + 1 + 1 := by rw [← hw2]; simp
  have rx2 : w2.heap[w.heap.size]? = some (.cells #[.int .i64 (e.k : Int), .string e.s, .int .i64 (e.vk : Int), .bool e.vb, .int .i64 e.vn, .string e.vs, .slice none 0 0, .slice none 0 0, .slice kp e.n kc, .slice np e.m nc] 28 (0, 0)) := by rw [← hw2, Below.heap_alloc _ _ _ (by simp)]; exact heap_alloc_new _ _
  have rz2 : w2.heap[w.heap.size + 1]? = some (.cells #[.int .i64 0, .string ⟨#[]⟩, .int .i64 0, .bool false, .int .i64 0, .string ⟨#[]⟩, .slice none 0 0, .slice none 0 0, .slice none 0 0, .slice none 0 0] 28 (0, 0)) := by
    rw [← hw2]
    have := heap_alloc_new (w.alloc (.cells #[.int .i64 (e.k : Int), .string e.s, .int .i64 (e.vk : Int), .bool e.vb, .int .i64 e.vn, .string e.vs, .slice none 0 0, .slice none 0 0, .slice kp e.n kc, .slice np e.m nc] 28)) (.cells #[.int .i64 0, .string ⟨#[]⟩, .int .i64 0, .bool false, .int .i64 0, .string ⟨#[]⟩, .slice none 0 0, .slice none 0 0, .slice none 0 0, .slice none 0 0] 28)
    simpa using this
  have kt := take_any (H.later hb2) h1
  rw [hsg] at kt
  have HH : Hid (Ps w b p c ws s ∧ LiesE w S d t (enV e kp kc np nc) ∧ Below w.heap.size w w2) := ⟨H, L, hb2⟩
  clear H L hb2 hsg
  unfold enV
  obtain ⟨ek, hek⟩ : ∃ ek, (e.k : Int) = ek := ⟨_, rfl⟩
  obtain ⟨evk, hevk⟩ : ∃ ek, (e.vk : Int) = ek := ⟨_, rfl⟩
  rw [hek, hevk] at hw2 rx2 ⊢
  have hwr : wrap64 ((rank : Int) + 1) = (rank : Int) + 1 := by unfold wrap64; omega
  clear hr
  go_enter Tryz.func166, Tryz.ntmps166
  go_wp2_with fail
  refine kt.mono ?_
  rintro q w3 ⟨rfl, hP3, hO3⟩
  have rx3 := (hO3.block _ (by omega) (by omega)).trans rx2
  have rz3 := (hO3.block _ (by omega) (by omega)).trans rz2
  have s3 := hO3.size
  have kb3 := kb w3 hP3
  have HO3 : Hid (Onl b w2 w3) := hO3
  clear kt kb hP3 hO3 hw2 rx2 rz2
  go_wp2_with fail
  refine kb3.mono ?_
  rintro q w4 ⟨d4, v4, rfl, hL4, hP4, hO4⟩
  have rx4 := (hO4.block _ (by omega) (by omega)).trans rx3
  have rz4 := (hO4.block _ (by omega) (by omega)).trans rz3
  have s4 := hO4.size
  obtain ⟨kq, kd, nq, nd, rfl⟩ := hL4.form
  obtain ⟨f, hf⟩ : ∃ f, X.1 [] = f := ⟨_, rfl⟩
  rw [hf] at hL4 ⊢
  obtain ⟨w5, hw5⟩ : ∃ w5, w4.alloc (.cells #[.int .i64 (f.k : Int), .string f.s, .int .i64 (f.vk : Int), .bool f.vb, .int .i64 f.vn, .string f.vs, .slice none 0 0, .slice none 0 0, .slice kq f.n kd, .slice nq f.m nd] 28) = w5 := ⟨_, rfl⟩
  have hb5 : Below w4.heap.size w4 w5 := by rw [← hw5]; exact (Below.refl _ w4).alloc (Nat.le_refl _) _
  have hs5 : w5.heap.size = w4.heap.size + 1 := by rw [← hw5]; simp
  have rx5 := (hb5.block _ (by omega)).trans rx4
  have rz5 := (hb5.block _ (by omega)).trans rz4
  have ry5 : w5.heap[w4.heap.size]? = some (.cells #[.int .i64 (f.k : Int), .string f.s, .int .i64 (f.vk : Int), .bool f.vb, .int .i64 f.vn, .string f.vs, .slice none 0 0, .slice none 0 0, .slice kq f.n kd, .slice nq f.m nd] 28 (0, 0)) := by rw [← hw5]; exact heap_alloc_new _ _
  obtain ⟨w6, hw6⟩ : ∃ w6, w5.alloc (.cells #[.int .i64 ek, .string e.s, .int .i64 evk, .bool e.vb, .int .i64 e.vn, .string e.vs, .slice none 0 0, .slice none 0 0, .slice kp e.n kc, .slice np e.m nc, .int .i64 (f.k : Int), .string f.s, .int .i64 (f.vk : Int), .bool f.vb, .int .i64 f.vn, .string f.vs, .slice none 0 0, .slice none 0 0, .slice kq f.n kd, .slice nq f.m nd] 28) = w6 := ⟨_, rfl⟩
  have hb6 : Below w5.heap.size w5 w6 := by rw [← hw6]; exact (Below.refl _ w5).alloc (Nat.le_refl _) _
  have hs6 : w6.heap.size = w5.heap.size + 1 := by rw [← hw6]; simp
  have rz6 := (hb6.block _ (by omega)).trans rz5
  have rk6 : w6.heap[w4.heap.size + 1]? = some (.cells #[.int .i64 ek, .string e.s, .int .i64 evk, .bool e.vb, .int .i64 e.vn, .string e.vs, .slice none 0 0, .slice none 0 0, .slice kp e.n kc, .slice np e.m nc, .int .i64 (f.k : Int), .string f.s, .int .i64 (f.vk : Int), .bool f.vb, .int .i64 f.vn, .string f.vs, .slice none 0 0, .slice none 0 0, .slice kq f.n kd, .slice nq f.m nd] 28 (0, 0)) := by rw [← hw6, ← hs5]; exact heap_alloc_new _ _
  have hb46 : Below w4.heap.size w4 w6 := hb5.trans (hb6.mono (by omega))
  have kw := whole_any (hP4.later hb46) hex (nodeE 6 sg 2) (some ⟨w4.heap.size + 1, 0, none⟩) 2 none 0
  have kw' : Calls Tryz.prog 182 #[.pointer (some ⟨b, 0, none⟩), .agg #[.int .i64 6, .string sg, .int .i64 0, .bool false, .int .i64 0, .string ⟨#[]⟩, .slice none 0 0, .slice none 0 0, .slice (some ⟨w4.heap.size + 1, 0, none⟩) 2 2, .slice none 0 0]] w6 fun r w' => r = .returned (.agg #[.int .i64 6, .string sg, .int .i64 0, .bool false, .int .i64 0, .string ⟨#[]⟩, .slice none 0 0, .slice none 0 0, .slice (some ⟨w4.heap.size + 1, 0, none⟩) 2 2, .slice none 0 0]) ∧ Ps w' b p c ws (wholeP ws X.2) ∧ Onl b w6 w' := kw
  have H4 : Hid (LiesE w4 (fun k => w3.heap.size ≤ k) d4 X.1 (enV f kq kd nq nd) ∧ Ps w4 b p c ws X.2 ∧ Onl b w3 w4 ∧ Below w4.heap.size w4 w6 ∧ w6.heap[w4.heap.size + 1]? = some (.cells #[.int .i64 ek, .string e.s, .int .i64 evk, .bool e.vb, .int .i64 e.vn, .string e.vs, .slice none 0 0, .slice none 0 0, .slice kp e.n kc, .slice np e.m nc, .int .i64 (f.k : Int), .string f.s, .int .i64 (f.vk : Int), .bool f.vb, .int .i64 f.vn, .string f.vs, .slice none 0 0, .slice none 0 0, .slice kq f.n kd, .slice nq f.m nd] 28 (0, 0))) := ⟨hL4, hP4, hO4, hb46, rk6⟩
  clear hL4 hP4 hO4 hb5 hb6 hb46 rk6 kw kb3 rx3 rz3 rx4 rz4
  unfold enV
  obtain ⟨fk, hfk⟩ : ∃ ek, (f.k : Int) = ek := ⟨_, rfl⟩
  obtain ⟨fvk, hfvk⟩ : ∃ ek, (f.vk : Int) = ek := ⟨_, rfl⟩
  rw [hfk, hfvk] at hw5 ry5 hw6 ⊢
  have p0 := cell_of_row w5 _ 0 _ _ _ rx5
  have p1 := cell_of_row w5 _ 1 _ _ _ rx5
  have p2 := cell_of_row w5 _ 2 _ _ _ rx5
  have p3 := cell_of_row w5 _ 3 _ _ _ rx5
  have p4 := cell_of_row w5 _ 4 _ _ _ rx5
  have p5 := cell_of_row w5 _ 5 _ _ _ rx5
  have p6 := cell_of_row w5 _ 6 _ _ _ rx5
  have p7 := cell_of_row w5 _ 7 _ _ _ rx5
  have p8 := cell_of_row w5 _ 8 _ _ _ rx5
  have p9 := cell_of_row w5 _ 9 _ _ _ rx5
  have q0 := cell_of_row w5 _ 0 _ _ _ ry5
  have q1 := cell_of_row w5 _ 1 _ _ _ ry5
  have q2 := cell_of_row w5 _ 2 _ _ _ ry5
  have q3 := cell_of_row w5 _ 3 _ _ _ ry5
  have q4 := cell_of_row w5 _ 4 _ _ _ ry5
  have q5 := cell_of_row w5 _ 5 _ _ _ ry5
  have q6 := cell_of_row w5 _ 6 _ _ _ ry5
  have q7 := cell_of_row w5 _ 7 _ _ _ ry5
  have q8 := cell_of_row w5 _ 8 _ _ _ ry5
  have q9 := cell_of_row w5 _ 9 _ _ _ ry5

  have lx5 := lt_of_row rx5
  have ly5 := lt_of_row ry5
  clear rx5 ry5 rz5
  go_wp2_with fail
  refine kw'.mono ?_
  rintro r w7 ⟨rfl, hP7, hO7⟩
  have rz7 := (hO7.block _ (by omega) (by omega)).trans rz6
  have s7 := hO7.size
  clear p0 p1 p2 p3 p4 p5 p6 p7 p8 p9 q0 q1 q2 q3 q4 q5 q6 q7 q8 q9
  have q0 := cell_of_row w7 _ 0 _ _ _ rz7
  have g0 := frozen_of_row w7 _ 0 _ _ rz7
  have q1 := cell_of_row w7 _ 1 _ _ _ rz7
  have g1 := frozen_of_row w7 _ 1 _ _ rz7
  have q2 := cell_of_row w7 _ 2 _ _ _ rz7
  have g2 := frozen_of_row w7 _ 2 _ _ rz7
  have q3 := cell_of_row w7 _ 3 _ _ _ rz7
  have g3 := frozen_of_row w7 _ 3 _ _ rz7
  have q4 := cell_of_row w7 _ 4 _ _ _ rz7
  have g4 := frozen_of_row w7 _ 4 _ _ rz7
  have q5 := cell_of_row w7 _ 5 _ _ _ rz7
  have g5 := frozen_of_row w7 _ 5 _ _ rz7
  have q6 := cell_of_row w7 _ 6 _ _ _ rz7
  have g6 := frozen_of_row w7 _ 6 _ _ rz7
  have q7 := cell_of_row w7 _ 7 _ _ _ rz7
  have g7 := frozen_of_row w7 _ 7 _ _ rz7
  have q8 := cell_of_row w7 _ 8 _ _ _ rz7
  have g8 := frozen_of_row w7 _ 8 _ _ rz7
  have q9 := cell_of_row w7 _ 9 _ _ _ rz7
  have g9 := frozen_of_row w7 _ 9 _ _ rz7

  have lz := lt_of_row rz7
  have HP : Hid (Ps w7 b p c ws (wholeP ws X.2) ∧ Onl b w6 w7) := ⟨hP7, hO7⟩
  clear kw' hP7 hO7 hw5 hw6 rz6
  go_wp2
  refine bodyPost_ret (results_cell_row Tryz.results166 _ _ (w.heap.size + 1) 28 _ (0, 0) _ rfl (set10_row rz7 (.int .i64 6) (.string sg) (.int .i64 0) (.bool false) (.int .i64 0) (.string ⟨#[]⟩) (.slice none 0 0) (.slice none 0 0) (.slice (some ⟨w4.heap.size + 1, 0, none⟩) 2 2) (.slice none 0 0)) Tryz.underlying28 rfl (by kernel_rfl)) rfl ?_
  obtain ⟨H, L, hb2⟩ := HH.out
  obtain ⟨hL4, hP4, hO4, hb46, rk6⟩ := H4.out
  obtain ⟨hP7, hO7⟩ := HP.out
  have hS : Since (fun k => w3.heap.size ≤ k) w4 (set10 w7 (w.heap.size + 1) (.int .i64 6) (.string sg) (.int .i64 0) (.bool false) (.int .i64 0) (.string ⟨#[]⟩) (.slice none 0 0) (.slice none 0 0) (.slice (some ⟨w4.heap.size + 1, 0, none⟩) 2 2) (.slice none 0 0)) := ((Since.below hb46).trans (Since.onl hO7 (by omega))).trans ⟨Nat.le_of_eq (set10_size _ _ _ _ _ _ _ _ _ _ _ _).symm, fun k hk _ => set10_other (fun e => by omega) _ _ _ _ _ _ _ _ _ _⟩
  have hO : Onl b w (set10 w7 (w.heap.size + 1) (.int .i64 6) (.string sg) (.int .i64 0) (.bool false) (.int .i64 0) (.string ⟨#[]⟩) (.slice none 0 0) (.slice none 0 0) (.slice (some ⟨w4.heap.size + 1, 0, none⟩) 2 2) (.slice none 0 0)) := ((((Onl.of hb2).trans HO3.out).trans hO4).trans ((Onl.of hb46).trans hO7)).set10 _ (by omega) _ _ _ _ _ _ _ _ _ _
  refine ⟨max d d4 + 1, _, rfl, ?_, ?_, hO⟩
  · rw [← hek, ← hevk] at rk6
    refine LiesE.two (g := w4.heap.size + 1) (hB.2 _ (by omega)) ((set10_other (by omega) _ _ _ _ _ _ _ _ _ _).trans ((hO7.block _ (by omega) (by omega)).trans rk6)) ((L.since (Since.onl hO hB.1)).mono (by omega)) (((hL4.since hS).imp fun k hk _ => hB.2 k (by omega)).mono (by omega))
  · exact hP7.kept (z := w.heap.size + 1) (by omega) (fun g hg => by have := hold g hg; omega) (fun j hj => set10_other hj _ _ _ _ _ _ _ _ _ _) (Nat.le_of_eq (set10_size _ _ _ _ _ _ _ _ _ _ _ _).symm)
end Go.Proofs.YtfemippjaokcmaaGreatDoor
namespace Go.Proofs.YtfemippjaokcmaaGreatDoor
open Go.RowKit Go.Shelf
attribute [local go_sem] Oper.semAt_some fw0 fw1 fw2
theorem Since.set10 {S : Nat → Prop} {z : Nat} (hz : ¬ S z) (w : World) (k0 k1 k2 k3 k4 k5 k6 k7 k8 k9 : Value) : Since S w (set10 w z k0 k1 k2 k3 k4 k5 k6 k7 k8 k9) :=
  ⟨Nat.le_of_eq (set10_size _ _ _ _ _ _ _ _ _ _ _ _).symm, fun k hk _ => set10_other (fun (e : k = z) => hz (e ▸ hk)) _ _ _ _ _ _ _ _ _ _⟩
theorem wholeP_ex (ws : List Wd) (s : PS) : (wholeP ws s).ex = s.ex + 1 := by
  unfold wholeP failP
  split
  · split
    · rfl
    · rfl
  · rfl
theorem mustP_ex (ws : List Wd) (s : PS) (k : Nat) (t : ByteArray) : (mustP ws s k t).ex = s.ex := by
  unfold mustP failP
  split
  · rfl
  · split
    · rfl
    · rfl
set_option maxRecDepth 100000 in
set_option maxHeartbeats 8000000 in
theorem isNull_any {w : World} {b : Nat} {p : Option Addr} {c : Nat} {ws : List Wd} {s : PS} (H : Ps w b p c ws s) (hz : Wz ws) (hex : s.ex ≤ 900000) {S : Nat → Prop} {d : Nat} (hB : ¬ S b ∧ ∀ k, w.heap.size ≤ k → S k) {t : Et} {v : Value} (L : LiesE w S d t v) :
    Calls Tryz.prog 181 #[.pointer (some ⟨b, 0, none⟩), v] w (Gives ws S w b p c (isNullF ws t s)) := by
  obtain ⟨kp, kc, np, nc, rfl⟩ := L.form
  obtain ⟨e, he⟩ : ∃ e, t [] = e := ⟨_, rfl⟩
  rw [he] at L ⊢
  have hold := H.old
  have lb := lt_of_row H.row
  obtain ⟨S', hS'⟩ : ∃ S', S' = fun k => S k ∧ k ≠ w.heap.size ∧ k ≠ w.heap.size + 1 := ⟨_, rfl⟩
  have nx : ¬ S' w.heap.size := by rw [hS']; intro h; exact h.2.1 rfl
  have nz : ¬ S' (w.heap.size + 1) := by rw [hS']; intro h; exact h.2.2 rfl
  have nb : ¬ S' b := by rw [hS']; intro h; exact hB.1 h.1
  have ny : ∀ k, w.heap.size + 1 + 1 ≤ k → S' k := by intro k hk; rw [hS']; exact ⟨hB.2 k (by omega), by omega, by omega⟩
  have nS : ∀ k, S' k → S k := by intro k hk; rw [hS'] at hk; exact hk.1
  have L' : LiesE w S' d t (enV e kp kc np nc) := L.imp fun k h1 h2 => by rw [hS']; exact ⟨h1, by omega, by omega⟩
  clear hS'
  obtain ⟨w2, hw2⟩ : ∃ w2, (w.alloc (.cells #[.int .i64 (e.k : Int), .string e.s, .int .i64 (e.vk : Int), .bool e.vb, .int .i64 e.vn, .string e.vs, .slice none 0 0, .slice none 0 0, .slice kp e.n kc, .slice np e.m nc] 28)).alloc (.cells #[.int .i64 0, .string ⟨#[]⟩, .int .i64 0, .bool false, .int .i64 0, .string ⟨#[]⟩, .slice none 0 0, .slice none 0 0, .slice none 0 0, .slice none 0 0] 28) = w2 := ⟨_, rfl⟩
  have hb2 : Below w.heap.size w w2 := by rw [← hw2]; exact ((Below.refl _ w).alloc (Nat.le_refl _) _).alloc (by simp) _
  have hs2 : w2.heap.size = w.heap.size + 1 + 1 := by rw [← hw2]; simp
  have rx2 : w2.heap[w.heap.size]? = some (.cells #[.int .i64 (e.k : Int), .string e.s, .int .i64 (e.vk : Int), .bool e.vb, .int .i64 e.vn, .string e.vs, .slice none 0 0, .slice none 0 0, .slice kp e.n kc, .slice np e.m nc] 28 (0, 0)) := by rw [← hw2, Below.heap_alloc _ _ _ (by simp)]; exact heap_alloc_new _ _
  have rz2 : w2.heap[w.heap.size + 1]? = some (.cells #[.int .i64 0, .string ⟨#[]⟩, .int .i64 0, .bool false, .int .i64 0, .string ⟨#[]⟩, .slice none 0 0, .slice none 0 0, .slice none 0 0, .slice none 0 0] 28 (0, 0)) := by
    rw [← hw2]
    have := heap_alloc_new (w.alloc (.cells #[.int .i64 (e.k : Int), .string e.s, .int .i64 (e.vk : Int), .bool e.vb, .int .i64 e.vn, .string e.vs, .slice none 0 0, .slice none 0 0, .slice kp e.n kc, .slice np e.m nc] 28)) (.cells #[.int .i64 0, .string ⟨#[]⟩, .int .i64 0, .bool false, .int .i64 0, .string ⟨#[]⟩, .slice none 0 0, .slice none 0 0, .slice none 0 0, .slice none 0 0] 28)
    simpa using this
  have kt := tookKey_any (H.later hb2) hz ⟨#[78, 79, 84]⟩
  unfold isNullF
  rw [← isW_isP]
  simp only [← mustP_mustQ]
  obtain ⟨R, hR⟩ : ∃ R, isW (wAt ws s.at') 2 ⟨([78, 79, 84] : List UInt8).toArray⟩ = R := ⟨_, rfl⟩
  have hR' : isW (wAt ws s.at') 2 ⟨#[78, 79, 84]⟩ = R := hR
  rw [hR]
  unfold tookP at kt
  rw [hR'] at kt
  clear hR hR'
  have HH : Hid (LiesE w S' d t (enV e kp kc np nc) ∧ Below w.heap.size w w2) := ⟨L', hb2⟩
  clear H L L' hb2
  obtain ⟨ek, hek⟩ : ∃ ek, (e.k : Int) = ek := ⟨_, rfl⟩
  obtain ⟨evk, hevk⟩ : ∃ ek, (e.vk : Int) = ek := ⟨_, rfl⟩
  rw [hek, hevk] at hw2 rx2
  have hV : enV e kp kc np nc = .agg #[.int .i64 ek, .string e.s, .int .i64 evk, .bool e.vb, .int .i64 e.vn, .string e.vs, .slice none 0 0, .slice none 0 0, .slice kp e.n kc, .slice np e.m nc] := by unfold enV; rw [hek, hevk]
  rw [hV] at HH ⊢
  clear hV
  cases R with
  | true =>
    rw [if_pos rfl] at kt ⊢
    have ex4 : (mustP ws (takeP s) 2 ⟨([78, 85, 76, 76] : List UInt8).toArray⟩).ex ≤ 900000 := by rw [mustP_ex]; exact hex
    obtain ⟨P4, hP4e⟩ : ∃ P4, (mustP ws (takeP s) 2 ⟨([78, 85, 76, 76] : List UInt8).toArray⟩) = P4 := ⟨_, rfl⟩
    rw [hP4e] at ex4 ⊢
    go_enter Tryz.func181, Tryz.ntmps181
    go_wp2_with fail
    refine kt.mono ?_
    rintro q w3 ⟨rfl, hP3, hO3⟩
    have rx3 := (hO3.block _ (by omega) (by omega)).trans rx2
    have rz3 := (hO3.block _ (by omega) (by omega)).trans rz2
    have s3 := hO3.size
    have kk := pkey_any hP3 hz ⟨#[78, 85, 76, 76]⟩
    have HO3 : Hid (Onl b w2 w3) := hO3
    clear kt hP3 hO3 hw2 rx2 rz2
    go_wp2_with fail
    refine kk.mono ?_
    rintro q w4 ⟨rfl, hP4, hO4⟩
    have hP4' : Ps w4 b p c ws P4 := by rw [← hP4e]; exact hP4
    have rx4 := (hO4.block _ (by omega) (by omega)).trans rx3
    have rz4 := (hO4.block _ (by omega) (by omega)).trans rz3
    have s4 := hO4.size
    have hb2 := HH.out.2
    have hS4 : Since S' w w4 := ((Since.below hb2).trans (Since.onl HO3.out nb)).trans (Since.onl hO4 nb)
    have ka := around_any hP4' (by omega) 5 (S := S') ⟨nb, fun k hk => ny k (by omega)⟩ (HH.out.1.since hS4)
    have HO4 : Hid (Onl b w3 w4) := hO4
    have HS : Hid (Below w.heap.size w w2) := hb2
    clear kk hP4 hP4' hO4 rx3 rz3 HH hb2 hS4
    have p0 := cell_of_row w4 _ 0 _ _ _ rx4
    have p1 := cell_of_row w4 _ 1 _ _ _ rx4
    have p2 := cell_of_row w4 _ 2 _ _ _ rx4
    have p3 := cell_of_row w4 _ 3 _ _ _ rx4
    have p4 := cell_of_row w4 _ 4 _ _ _ rx4
    have p5 := cell_of_row w4 _ 5 _ _ _ rx4
    have p6 := cell_of_row w4 _ 6 _ _ _ rx4
    have p7 := cell_of_row w4 _ 7 _ _ _ rx4
    have p8 := cell_of_row w4 _ 8 _ _ _ rx4
    have p9 := cell_of_row w4 _ 9 _ _ _ rx4

    go_wp2_with fail
    refine ka.mono ?_
    rintro q w5 ⟨v5, rfl, hL5, hP5, hO5⟩
    clear p0 p1 p2 p3 p4 p5 p6 p7 p8 p9
    have hb2 := HS.out
    have hO3 := HO3.out
    have hO4 := HO4.out
    obtain ⟨P5, hP5e⟩ : ∃ P5, wholeP ws P4 = P5 := ⟨_, rfl⟩
    have ex5 : P5.ex ≤ 900001 := by rw [← hP5e, wholeP_ex]; omega
    rw [hP5e] at hP5
    clear ka
    have rx5 := (hO5.block _ (by omega) (by omega)).trans rx4
    have rz5 := (hO5.block _ (by omega) (by omega)).trans rz4
    have s5 := hO5.size
    obtain ⟨kq, kd, nq, nd, rfl⟩ := hL5.form
    have e5 : enV (oneT 5 t []) kq kd nq nd = .agg #[.int .i64 5, .string ⟨#[]⟩, .int .i64 0, .bool false, .int .i64 0, .string ⟨#[]⟩, .slice none 0 0, .slice none 0 0, .slice kq 1 kd, .slice nq 0 nd] := rfl
    obtain ⟨w6, hw6⟩ : ∃ w6, set10 w5 w.heap.size (.int .i64 5) (.string ⟨#[]⟩) (.int .i64 0) (.bool false) (.int .i64 0) (.string ⟨#[]⟩) (.slice none 0 0) (.slice none 0 0) (.slice kq 1 kd) (.slice nq 0 nd) = w6 := ⟨_, rfl⟩
    have rx6 : w6.heap[w.heap.size]? = some (.cells #[.int .i64 5, .string ⟨#[]⟩, .int .i64 0, .bool false, .int .i64 0, .string ⟨#[]⟩, .slice none 0 0, .slice none 0 0, .slice kq 1 kd, .slice nq 0 nd] 28 (0, 0)) := by rw [← hw6]; exact set10_row rx5 _ _ _ _ _ _ _ _ _ _
    have rz6 : w6.heap[w.heap.size + 1]? = some (.cells #[.int .i64 0, .string ⟨#[]⟩, .int .i64 0, .bool false, .int .i64 0, .string ⟨#[]⟩, .slice none 0 0, .slice none 0 0, .slice none 0 0, .slice none 0 0] 28 (0, 0)) := by rw [← hw6, set10_other (by omega)]; exact rz5
    have hs6 : w6.heap.size = w5.heap.size := by rw [← hw6]; exact set10_size _ _ _ _ _ _ _ _ _ _ _ _
    have hO6 : Onl b w w6 := by rw [← hw6]; exact (((((Onl.of hb2).trans hO3).trans hO4).trans hO5)).set10 _ (by omega) _ _ _ _ _ _ _ _ _ _
    have hP6 : Ps w6 b p c ws P5 := by rw [← hw6]; exact hP5.kept (z := w.heap.size) lb hold (fun j hj => set10_other hj _ _ _ _ _ _ _ _ _ _) (Nat.le_of_eq (set10_size _ _ _ _ _ _ _ _ _ _ _ _).symm)
    have hL6 : LiesE w6 S' (d + 1) (oneT 5 t) (enV (oneT 5 t []) kq kd nq nd) := by rw [← hw6]; exact hL5.since (Since.set10 nx w5 _ _ _ _ _ _ _ _ _ _)
    have ka := around_any hP6 (by omega) 4 (S := S') ⟨nb, fun k hk => ny k (by omega)⟩ hL6
    rw [e5] at ka ⊢
    have q0 := cell_of_row w5 _ 0 _ _ _ rx5
    have g0 := frozen_of_row w5 _ 0 _ _ rx5
    have q1 := cell_of_row w5 _ 1 _ _ _ rx5
    have g1 := frozen_of_row w5 _ 1 _ _ rx5
    have q2 := cell_of_row w5 _ 2 _ _ _ rx5
    have g2 := frozen_of_row w5 _ 2 _ _ rx5
    have q3 := cell_of_row w5 _ 3 _ _ _ rx5
    have g3 := frozen_of_row w5 _ 3 _ _ rx5
    have q4 := cell_of_row w5 _ 4 _ _ _ rx5
    have g4 := frozen_of_row w5 _ 4 _ _ rx5
    have q5 := cell_of_row w5 _ 5 _ _ _ rx5
    have g5 := frozen_of_row w5 _ 5 _ _ rx5
    have q6 := cell_of_row w5 _ 6 _ _ _ rx5
    have g6 := frozen_of_row w5 _ 6 _ _ rx5
    have q7 := cell_of_row w5 _ 7 _ _ _ rx5
    have g7 := frozen_of_row w5 _ 7 _ _ rx5
    have q8 := cell_of_row w5 _ 8 _ _ _ rx5
    have g8 := frozen_of_row w5 _ 8 _ _ rx5
    have q9 := cell_of_row w5 _ 9 _ _ _ rx5
    have g9 := frozen_of_row w5 _ 9 _ _ rx5
    have p0 := cell_of_row w6 _ 0 _ _ _ rx6
    have p1 := cell_of_row w6 _ 1 _ _ _ rx6
    have p2 := cell_of_row w6 _ 2 _ _ _ rx6
    have p3 := cell_of_row w6 _ 3 _ _ _ rx6
    have p4 := cell_of_row w6 _ 4 _ _ _ rx6
    have p5 := cell_of_row w6 _ 5 _ _ _ rx6
    have p6 := cell_of_row w6 _ 6 _ _ _ rx6
    have p7 := cell_of_row w6 _ 7 _ _ _ rx6
    have p8 := cell_of_row w6 _ 8 _ _ _ rx6
    have p9 := cell_of_row w6 _ 9 _ _ _ rx6

    have H6 : Hid (Onl b w w6) := hO6
    clear rx4 rz4 rx5 rz5 hL5 hP5 hO5 hO3 hO4 hb2 HO3 HO4 HS hO6 hP6 hL6
    unfold set10 at hw6
    go_wp2_with fail
    refine ka.mono ?_
    rintro q w7 ⟨v7, rfl, hL7, hP7, hO7⟩
    clear p0 p1 p2 p3 p4 p5 p6 p7 p8 p9 q0 q1 q2 q3 q4 q5 q6 q7 q8 q9 g0 g1 g2 g3 g4 g5 g6 g7 g8 g9
    have rx7 := (hO7.block _ (by omega) (by omega)).trans rx6
    have rz7 := (hO7.block _ (by omega) (by omega)).trans rz6
    have s7 := hO7.size
    obtain ⟨kr, kf, nr, nf, rfl⟩ := hL7.form
    have e7 : enV (oneT 4 (oneT 5 t) []) kr kf nr nf = .agg #[.int .i64 4, .string ⟨#[]⟩, .int .i64 0, .bool false, .int .i64 0, .string ⟨#[]⟩, .slice none 0 0, .slice none 0 0, .slice kr 1 kf, .slice nr 0 nf] := rfl
    obtain ⟨w8, hw8⟩ : ∃ w8, set10 w7 w.heap.size (.int .i64 4) (.string ⟨#[]⟩) (.int .i64 0) (.bool false) (.int .i64 0) (.string ⟨#[]⟩) (.slice none 0 0) (.slice none 0 0) (.slice kr 1 kf) (.slice nr 0 nf) = w8 := ⟨_, rfl⟩
    have rx8 : w8.heap[w.heap.size]? = some (.cells #[.int .i64 4, .string ⟨#[]⟩, .int .i64 0, .bool false, .int .i64 0, .string ⟨#[]⟩, .slice none 0 0, .slice none 0 0, .slice kr 1 kf, .slice nr 0 nf] 28 (0, 0)) := by rw [← hw8]; exact set10_row rx7 _ _ _ _ _ _ _ _ _ _
    have rz8 : w8.heap[w.heap.size + 1]? = some (.cells #[.int .i64 0, .string ⟨#[]⟩, .int .i64 0, .bool false, .int .i64 0, .string ⟨#[]⟩, .slice none 0 0, .slice none 0 0, .slice none 0 0, .slice none 0 0] 28 (0, 0)) := by rw [← hw8, set10_other (by omega)]; exact rz7
    have hO8 : Onl b w w8 := by rw [← hw8]; exact (H6.out.trans hO7).set10 _ (by omega) _ _ _ _ _ _ _ _ _ _
    have hP8 : Ps w8 b p c ws (wholeP ws P5) := by rw [← hw8]; exact hP7.kept (z := w.heap.size) lb hold (fun j hj => set10_other hj _ _ _ _ _ _ _ _ _ _) (Nat.le_of_eq (set10_size _ _ _ _ _ _ _ _ _ _ _ _).symm)
    have hL8 : LiesE w8 S' (d + 1 + 1) (oneT 4 (oneT 5 t)) (enV (oneT 4 (oneT 5 t) []) kr kf nr nf) := by rw [← hw8]; exact hL7.since (Since.set10 nx w7 _ _ _ _ _ _ _ _ _ _)
    have H8 : Hid (Onl b w w8 ∧ Ps w8 b p c ws (wholeP ws P5) ∧ LiesE w8 S' (d + 1 + 1) (oneT 4 (oneT 5 t)) (enV (oneT 4 (oneT 5 t) []) kr kf nr nf)) := ⟨hO8, hP8, hL8⟩
    rw [e7]
    have q0 := cell_of_row w7 _ 0 _ _ _ rx7
    have g0 := frozen_of_row w7 _ 0 _ _ rx7
    have q1 := cell_of_row w7 _ 1 _ _ _ rx7
    have g1 := frozen_of_row w7 _ 1 _ _ rx7
    have q2 := cell_of_row w7 _ 2 _ _ _ rx7
    have g2 := frozen_of_row w7 _ 2 _ _ rx7
    have q3 := cell_of_row w7 _ 3 _ _ _ rx7
    have g3 := frozen_of_row w7 _ 3 _ _ rx7
    have q4 := cell_of_row w7 _ 4 _ _ _ rx7
    have g4 := frozen_of_row w7 _ 4 _ _ rx7
    have q5 := cell_of_row w7 _ 5 _ _ _ rx7
    have g5 := frozen_of_row w7 _ 5 _ _ rx7
    have q6 := cell_of_row w7 _ 6 _ _ _ rx7
    have g6 := frozen_of_row w7 _ 6 _ _ rx7
    have q7 := cell_of_row w7 _ 7 _ _ _ rx7
    have g7 := frozen_of_row w7 _ 7 _ _ rx7
    have q8 := cell_of_row w7 _ 8 _ _ _ rx7
    have g8 := frozen_of_row w7 _ 8 _ _ rx7
    have q9 := cell_of_row w7 _ 9 _ _ _ rx7
    have g9 := frozen_of_row w7 _ 9 _ _ rx7
    have p0 := cell_of_row w8 _ 0 _ _ _ rx8
    have p1 := cell_of_row w8 _ 1 _ _ _ rx8
    have p2 := cell_of_row w8 _ 2 _ _ _ rx8
    have p3 := cell_of_row w8 _ 3 _ _ _ rx8
    have p4 := cell_of_row w8 _ 4 _ _ _ rx8
    have p5 := cell_of_row w8 _ 5 _ _ _ rx8
    have p6 := cell_of_row w8 _ 6 _ _ _ rx8
    have p7 := cell_of_row w8 _ 7 _ _ _ rx8
    have p8 := cell_of_row w8 _ 8 _ _ _ rx8
    have p9 := cell_of_row w8 _ 9 _ _ _ rx8
    have r0 := cell_of_row w8 _ 0 _ _ _ rz8
    have h0 := frozen_of_row w8 _ 0 _ _ rz8
    have r1 := cell_of_row w8 _ 1 _ _ _ rz8
    have h1 := frozen_of_row w8 _ 1 _ _ rz8
    have r2 := cell_of_row w8 _ 2 _ _ _ rz8
    have h2 := frozen_of_row w8 _ 2 _ _ rz8
    have r3 := cell_of_row w8 _ 3 _ _ _ rz8
    have h3 := frozen_of_row w8 _ 3 _ _ rz8
    have r4 := cell_of_row w8 _ 4 _ _ _ rz8
    have h4 := frozen_of_row w8 _ 4 _ _ rz8
    have r5 := cell_of_row w8 _ 5 _ _ _ rz8
    have h5 := frozen_of_row w8 _ 5 _ _ rz8
    have r6 := cell_of_row w8 _ 6 _ _ _ rz8
    have h6 := frozen_of_row w8 _ 6 _ _ rz8
    have r7 := cell_of_row w8 _ 7 _ _ _ rz8
    have h7 := frozen_of_row w8 _ 7 _ _ rz8
    have r8 := cell_of_row w8 _ 8 _ _ _ rz8
    have h8 := frozen_of_row w8 _ 8 _ _ rz8
    have r9 := cell_of_row w8 _ 9 _ _ _ rz8
    have h9 := frozen_of_row w8 _ 9 _ _ rz8

    clear ka hw6 rx6 rz6 rx7 rz7 hL7 hP7 hO7 hO8 hP8 hL8 rx8 e5 e7
    unfold set10 at hw8
    go_wp2
    refine bodyPost_ret (results_cell_row Tryz.results181 _ _ (w.heap.size + 1) 28 _ (0, 0) _ rfl (set10_row rz8 (.int .i64 4) (.string ⟨#[]⟩) (.int .i64 0) (.bool false) (.int .i64 0) (.string ⟨#[]⟩) (.slice none 0 0) (.slice none 0 0) (.slice kr 1 kf) (.slice nr 0 nf)) Tryz.underlying28 rfl (by kernel_rfl)) rfl ?_
    obtain ⟨hO8, hP8, hL8⟩ := H8.out
    refine ⟨d + 1 + 1, _, rfl, (hL8.since (Since.set10 nz w8 _ _ _ _ _ _ _ _ _ _)).imp fun k hk _ => nS k hk, ?_, hO8.set10 _ (by omega) _ _ _ _ _ _ _ _ _ _⟩
    rw [← hP5e] at hP8
    exact hP8.kept (z := w.heap.size + 1) (by omega) (fun g hg => by have := hold g hg; omega) (fun j hj => set10_other hj _ _ _ _ _ _ _ _ _ _) (Nat.le_of_eq (set10_size _ _ _ _ _ _ _ _ _ _ _ _).symm)
  | false =>
    rw [if_neg (by decide)] at kt ⊢
    have ex4 : (mustP ws s 2 ⟨([78, 85, 76, 76] : List UInt8).toArray⟩).ex ≤ 900000 := by rw [mustP_ex]; exact hex
    obtain ⟨P4, hP4e⟩ : ∃ P4, (mustP ws s 2 ⟨([78, 85, 76, 76] : List UInt8).toArray⟩) = P4 := ⟨_, rfl⟩
    rw [hP4e] at ex4 ⊢
    go_enter Tryz.func181, Tryz.ntmps181
    go_wp2_with fail
    refine kt.mono ?_
    rintro q w3 ⟨rfl, hP3, hO3⟩
    have rx3 := (hO3.block _ (by omega) (by omega)).trans rx2
    have rz3 := (hO3.block _ (by omega) (by omega)).trans rz2
    have s3 := hO3.size
    have kk := pkey_any hP3 hz ⟨#[78, 85, 76, 76]⟩
    have HO3 : Hid (Onl b w2 w3) := hO3
    clear kt hP3 hO3 hw2 rx2 rz2
    go_wp2_with fail
    refine kk.mono ?_
    rintro q w4 ⟨rfl, hP4, hO4⟩
    have hP4' : Ps w4 b p c ws P4 := by rw [← hP4e]; exact hP4
    have rx4 := (hO4.block _ (by omega) (by omega)).trans rx3
    have rz4 := (hO4.block _ (by omega) (by omega)).trans rz3
    have s4 := hO4.size
    have hb2 := HH.out.2
    have hS4 : Since S' w w4 := ((Since.below hb2).trans (Since.onl HO3.out nb)).trans (Since.onl hO4 nb)
    have ka := around_any hP4' (by omega) 5 (S := S') ⟨nb, fun k hk => ny k (by omega)⟩ (HH.out.1.since hS4)
    have HO4 : Hid (Onl b w3 w4) := hO4
    have HS : Hid (Below w.heap.size w w2) := hb2
    clear kk hP4 hP4' hO4 rx3 rz3 HH hb2 hS4
    have p0 := cell_of_row w4 _ 0 _ _ _ rx4
    have p1 := cell_of_row w4 _ 1 _ _ _ rx4
    have p2 := cell_of_row w4 _ 2 _ _ _ rx4
    have p3 := cell_of_row w4 _ 3 _ _ _ rx4
    have p4 := cell_of_row w4 _ 4 _ _ _ rx4
    have p5 := cell_of_row w4 _ 5 _ _ _ rx4
    have p6 := cell_of_row w4 _ 6 _ _ _ rx4
    have p7 := cell_of_row w4 _ 7 _ _ _ rx4
    have p8 := cell_of_row w4 _ 8 _ _ _ rx4
    have p9 := cell_of_row w4 _ 9 _ _ _ rx4

    go_wp2_with fail
    refine ka.mono ?_
    rintro q w5 ⟨v5, rfl, hL5, hP5, hO5⟩
    clear p0 p1 p2 p3 p4 p5 p6 p7 p8 p9
    have hb2 := HS.out
    have hO3 := HO3.out
    have hO4 := HO4.out
    obtain ⟨P5, hP5e⟩ : ∃ P5, wholeP ws P4 = P5 := ⟨_, rfl⟩
    have ex5 : P5.ex ≤ 900001 := by rw [← hP5e, wholeP_ex]; omega
    rw [hP5e] at hP5
    clear ka
    have rx5 := (hO5.block _ (by omega) (by omega)).trans rx4
    have rz5 := (hO5.block _ (by omega) (by omega)).trans rz4
    have s5 := hO5.size
    obtain ⟨kq, kd, nq, nd, rfl⟩ := hL5.form
    have e5 : enV (oneT 5 t []) kq kd nq nd = .agg #[.int .i64 5, .string ⟨#[]⟩, .int .i64 0, .bool false, .int .i64 0, .string ⟨#[]⟩, .slice none 0 0, .slice none 0 0, .slice kq 1 kd, .slice nq 0 nd] := rfl
    obtain ⟨w6, hw6⟩ : ∃ w6, set10 w5 w.heap.size (.int .i64 5) (.string ⟨#[]⟩) (.int .i64 0) (.bool false) (.int .i64 0) (.string ⟨#[]⟩) (.slice none 0 0) (.slice none 0 0) (.slice kq 1 kd) (.slice nq 0 nd) = w6 := ⟨_, rfl⟩
    have rx6 : w6.heap[w.heap.size]? = some (.cells #[.int .i64 5, .string ⟨#[]⟩, .int .i64 0, .bool false, .int .i64 0, .string ⟨#[]⟩, .slice none 0 0, .slice none 0 0, .slice kq 1 kd, .slice nq 0 nd] 28 (0, 0)) := by rw [← hw6]; exact set10_row rx5 _ _ _ _ _ _ _ _ _ _
    have rz6 : w6.heap[w.heap.size + 1]? = some (.cells #[.int .i64 0, .string ⟨#[]⟩, .int .i64 0, .bool false, .int .i64 0, .string ⟨#[]⟩, .slice none 0 0, .slice none 0 0, .slice none 0 0, .slice none 0 0] 28 (0, 0)) := by rw [← hw6, set10_other (by omega)]; exact rz5
    have hs6 : w6.heap.size = w5.heap.size := by rw [← hw6]; exact set10_size _ _ _ _ _ _ _ _ _ _ _ _
    have hO6 : Onl b w w6 := by rw [← hw6]; exact (((((Onl.of hb2).trans hO3).trans hO4).trans hO5)).set10 _ (by omega) _ _ _ _ _ _ _ _ _ _
    have hP6 : Ps w6 b p c ws P5 := by rw [← hw6]; exact hP5.kept (z := w.heap.size) lb hold (fun j hj => set10_other hj _ _ _ _ _ _ _ _ _ _) (Nat.le_of_eq (set10_size _ _ _ _ _ _ _ _ _ _ _ _).symm)
    have hL6 : LiesE w6 S' (d + 1) (oneT 5 t) (enV (oneT 5 t []) kq kd nq nd) := by rw [← hw6]; exact hL5.since (Since.set10 nx w5 _ _ _ _ _ _ _ _ _ _)
    have H6 : Hid (Onl b w w6 ∧ Ps w6 b p c ws P5 ∧ LiesE w6 S' (d + 1) (oneT 5 t) (enV (oneT 5 t []) kq kd nq nd)) := ⟨hO6, hP6, hL6⟩
    rw [e5]
    have q0 := cell_of_row w5 _ 0 _ _ _ rx5
    have g0 := frozen_of_row w5 _ 0 _ _ rx5
    have q1 := cell_of_row w5 _ 1 _ _ _ rx5
    have g1 := frozen_of_row w5 _ 1 _ _ rx5
    have q2 := cell_of_row w5 _ 2 _ _ _ rx5
    have g2 := frozen_of_row w5 _ 2 _ _ rx5
    have q3 := cell_of_row w5 _ 3 _ _ _ rx5
    have g3 := frozen_of_row w5 _ 3 _ _ rx5
    have q4 := cell_of_row w5 _ 4 _ _ _ rx5
    have g4 := frozen_of_row w5 _ 4 _ _ rx5
    have q5 := cell_of_row w5 _ 5 _ _ _ rx5
    have g5 := frozen_of_row w5 _ 5 _ _ rx5
    have q6 := cell_of_row w5 _ 6 _ _ _ rx5
    have g6 := frozen_of_row w5 _ 6 _ _ rx5
    have q7 := cell_of_row w5 _ 7 _ _ _ rx5
    have g7 := frozen_of_row w5 _ 7 _ _ rx5
    have q8 := cell_of_row w5 _ 8 _ _ _ rx5
    have g8 := frozen_of_row w5 _ 8 _ _ rx5
    have q9 := cell_of_row w5 _ 9 _ _ _ rx5
    have g9 := frozen_of_row w5 _ 9 _ _ rx5
    have p0 := cell_of_row w6 _ 0 _ _ _ rx6
    have p1 := cell_of_row w6 _ 1 _ _ _ rx6
    have p2 := cell_of_row w6 _ 2 _ _ _ rx6
    have p3 := cell_of_row w6 _ 3 _ _ _ rx6
    have p4 := cell_of_row w6 _ 4 _ _ _ rx6
    have p5 := cell_of_row w6 _ 5 _ _ _ rx6
    have p6 := cell_of_row w6 _ 6 _ _ _ rx6
    have p7 := cell_of_row w6 _ 7 _ _ _ rx6
    have p8 := cell_of_row w6 _ 8 _ _ _ rx6
    have p9 := cell_of_row w6 _ 9 _ _ _ rx6
    have r0 := cell_of_row w6 _ 0 _ _ _ rz6
    have h0 := frozen_of_row w6 _ 0 _ _ rz6
    have r1 := cell_of_row w6 _ 1 _ _ _ rz6
    have h1 := frozen_of_row w6 _ 1 _ _ rz6
    have r2 := cell_of_row w6 _ 2 _ _ _ rz6
    have h2 := frozen_of_row w6 _ 2 _ _ rz6
    have r3 := cell_of_row w6 _ 3 _ _ _ rz6
    have h3 := frozen_of_row w6 _ 3 _ _ rz6
    have r4 := cell_of_row w6 _ 4 _ _ _ rz6
    have h4 := frozen_of_row w6 _ 4 _ _ rz6
    have r5 := cell_of_row w6 _ 5 _ _ _ rz6
    have h5 := frozen_of_row w6 _ 5 _ _ rz6
    have r6 := cell_of_row w6 _ 6 _ _ _ rz6
    have h6 := frozen_of_row w6 _ 6 _ _ rz6
    have r7 := cell_of_row w6 _ 7 _ _ _ rz6
    have h7 := frozen_of_row w6 _ 7 _ _ rz6
    have r8 := cell_of_row w6 _ 8 _ _ _ rz6
    have h8 := frozen_of_row w6 _ 8 _ _ rz6
    have r9 := cell_of_row w6 _ 9 _ _ _ rz6
    have h9 := frozen_of_row w6 _ 9 _ _ rz6

    clear rx4 rz4 rx5 rz5 hL5 hP5 hO5 hO3 hO4 hb2 HO3 HO4 HS hO6 hP6 hL6 rx6 e5
    unfold set10 at hw6
    go_wp2
    refine bodyPost_ret (results_cell_row Tryz.results181 _ _ (w.heap.size + 1) 28 _ (0, 0) _ rfl (set10_row rz6 (.int .i64 5) (.string ⟨#[]⟩) (.int .i64 0) (.bool false) (.int .i64 0) (.string ⟨#[]⟩) (.slice none 0 0) (.slice none 0 0) (.slice kq 1 kd) (.slice nq 0 nd)) Tryz.underlying28 rfl (by kernel_rfl)) rfl ?_
    obtain ⟨hO6, hP6, hL6⟩ := H6.out
    refine ⟨d + 1, _, rfl, (hL6.since (Since.set10 nz w6 _ _ _ _ _ _ _ _ _ _)).imp fun k hk _ => nS k hk, ?_, hO6.set10 _ (by omega) _ _ _ _ _ _ _ _ _ _⟩
    rw [hP5e]
    exact hP6.kept (z := w.heap.size + 1) (by omega) (fun g hg => by have := hold g hg; omega) (fun j hj => set10_other hj _ _ _ _ _ _ _ _ _ _) (Nat.le_of_eq (set10_size _ _ _ _ _ _ _ _ _ _ _ _).symm)
end Go.Proofs.YtfemippjaokcmaaGreatDoor
namespace Go.Proofs.YtfemippjaokcmaaGreatDoor
open Go.RowKit Go.Shelf
/- The ten cells of an expression. -/
structure XR where
  k : Int
  s : ByteArray
  vk : Int
  vb : Bool
  vn : Int
  vs : ByteArray
  kp : Option Addr
  n : Nat
  kc : Nat
  np : Option Addr
  m : Nat
  nc : Nat
def arrX (R : XR) : Array Value := #[.int .i64 R.k, .string R.s, .int .i64 R.vk, .bool R.vb, .int .i64 R.vn, .string R.vs, .slice none 0 0, .slice none 0 0, .slice R.kp R.n R.kc, .slice R.np R.m R.nc]
def rowX (R : XR) : Value := .agg #[.int .i64 R.k, .string R.s, .int .i64 R.vk, .bool R.vb, .int .i64 R.vn, .string R.vs, .slice none 0 0, .slice none 0 0, .slice R.kp R.n R.kc, .slice R.np R.m R.nc]
theorem LiesE.row {w : World} {S : Nat → Prop} {d : Nat} {t : Et} {v : Value} (h : LiesE w S d t v) : ∃ R, v = rowX R := by
  obtain ⟨kp, kc, np, nc, rfl⟩ := h.form
  exact ⟨⟨((t []).k : Int), (t []).s, ((t []).vk : Int), (t []).vb, (t []).vn, (t []).vs, kp, (t []).n, kc, np, (t []).m, nc⟩, rfl⟩
def setR (w : World) (z : Nat) (R : XR) : World := set10 w z (.int .i64 R.k) (.string R.s) (.int .i64 R.vk) (.bool R.vb) (.int .i64 R.vn) (.string R.vs) (.slice none 0 0) (.slice none 0 0) (.slice R.kp R.n R.kc) (.slice R.np R.m R.nc)
structure Bx (w0 W : World) (b : Nat) (p : Option Addr) (c : Nat) (ws : List Wd) (z x : Nat) (S : Nat → Prop) (P : PS) (T : Et) (R : XR) : Prop where
  rx : W.heap[x]? = some (.cells (arrX R) 28 (0, 0))
  rz : W.heap[z]? = some (.cells zero10 28 (0, 0))
  onl : Onl b w0 W
  ps : Ps W b p c ws P
  lies : ∃ d, LiesE W S d T (rowX R)
  new : b < w0.heap.size ∧ w0.heap.size ≤ x ∧ w0.heap.size ≤ z ∧ x ≠ z
  old : ∀ g, p = some ⟨g, 0, none⟩ → g < w0.heap.size
  no : ¬ S x ∧ ¬ S z ∧ ¬ S b
theorem Bx.calls {w0 W W2 : World} {b : Nat} {p : Option Addr} {c : Nat} {ws : List Wd} {z x : Nat} {S : Nat → Prop} {P P2 : PS} {T : Et} {R : XR} (h : Bx w0 W b p c ws z x S P T R) (hO : Onl b W W2) (hP : Ps W2 b p c ws P2) : Bx w0 W2 b p c ws z x S P2 T R := by
  obtain ⟨n1, n2, n3, n4⟩ := h.new
  obtain ⟨d, hd⟩ := h.lies
  exact ⟨(hO.block x (lt_of_row h.rx) (by omega)).trans h.rx, (hO.block z (lt_of_row h.rz) (by omega)).trans h.rz, h.onl.trans hO, hP, ⟨d, hd.since (Since.onl hO h.no.2.2)⟩, h.new, h.old, h.no⟩
theorem Bx.quiet {w0 W W2 : World} {b : Nat} {p : Option Addr} {c : Nat} {ws : List Wd} {z x : Nat} {S : Nat → Prop} {P : PS} {T : Et} {R : XR} (h : Bx w0 W b p c ws z x S P T R) (hb : Below W.heap.size W W2) : Bx w0 W2 b p c ws z x S P T R := h.calls (Onl.of hb) (h.ps.later hb)
theorem setR_row {w : World} {z : Nat} {t : TypeId} {cs : Array Value} (h : w.heap[z]? = some (.cells cs t (0, 0))) (hs : cs.size = 10) (R : XR) : (setR w z R).heap[z]? = some (.cells (arrX R) t (0, 0)) := by
  obtain ⟨l⟩ := cs
  match l, hs with
  | [a0, a1, a2, a3, a4, a5, a6, a7, a8, a9], _ => exact set10_row h _ _ _ _ _ _ _ _ _ _
/- What a call made of x is stored in x. -/
theorem Bx.store {w0 W W2 : World} {b : Nat} {p : Option Addr} {c : Nat} {ws : List Wd} {z x : Nat} {S : Nat → Prop} {P P2 : PS} {T T2 : Et} {R R2 : XR} (h : Bx w0 W b p c ws z x S P T R) (hO : Onl b W W2) (hP : Ps W2 b p c ws P2) {d : Nat} (hL : LiesE W2 S d T2 (rowX R2)) : Bx w0 (setR W2 x R2) b p c ws z x S P2 T2 R2 := by
  have h2 := h.calls hO hP
  obtain ⟨n1, n2, n3, n4⟩ := h.new
  refine ⟨setR_row h2.rx rfl R2, ?_, ?_, ?_, ⟨d, hL.since (Since.set10 h.no.1 W2 _ _ _ _ _ _ _ _ _ _)⟩, h.new, h.old, h.no⟩
  · unfold setR; rw [set10_other (by omega)]; exact h2.rz
  · exact h2.onl.set10 _ n2 _ _ _ _ _ _ _ _ _ _
  · exact hP.kept (z := x) (by omega) (fun g hg => by have := h.old g hg; omega) (fun j hj => set10_other hj _ _ _ _ _ _ _ _ _ _) (Nat.le_of_eq (set10_size _ _ _ _ _ _ _ _ _ _ _ _).symm)
/- x is the result. -/
theorem Bx.done {w0 W : World} {b : Nat} {p : Option Addr} {c : Nat} {ws : List Wd} {z x : Nat} {S S0 : Nat → Prop} {P : PS} {T : Et} {R : XR} (h : Bx w0 W b p c ws z x S P T R) (hS : ∀ k, S k → S0 k) : Gives ws S0 w0 b p c (T, P) (.returned (rowX R)) (setR W z R) := by
  obtain ⟨n1, n2, n3, n4⟩ := h.new
  obtain ⟨d, hd⟩ := h.lies
  refine ⟨d, _, rfl, (hd.since (Since.set10 h.no.2.1 W _ _ _ _ _ _ _ _ _ _)).imp fun k hk _ => hS k hk, ?_, h.onl.set10 _ n3 _ _ _ _ _ _ _ _ _ _⟩
  exact h.ps.kept (z := z) (by omega) (fun g hg => by have := h.old g hg; omega) (fun j hj => set10_other hj _ _ _ _ _ _ _ _ _ _) (Nat.le_of_eq (set10_size _ _ _ _ _ _ _ _ _ _ _ _).symm)
end Go.Proofs.YtfemippjaokcmaaGreatDoor
