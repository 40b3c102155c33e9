/- An expression of one kid (around). -/
import Derived.Test.YthgagldpjledgaaGreatDoorDpr
namespace Go.Proofs.YthgagldpjledgaaGreatDoor
open Go.RowKit Go.Shelf
attribute [local go_sem] Oper.semAt_some fw0 fw1 fw2
def nodeE (k : Nat) (s : ByteArray) (n : Nat) : En := ⟨k, s, 0, false, 0, ⟨#[]⟩, n, 0, fun _ => ⟨#[]⟩⟩
def oneT (k : Nat) (t : Et) : Et := Et.node (nodeE k ⟨#[]⟩ 1) fun _ => t
theorem Kds.ofRow {w : World} {S : Nat → Prop} {g : Nat} (hg : S g) {cs : Array Value} {T : TypeId} {fr : Nat × Nat} (h : w.heap[g]? = some (.cells cs T fr)) {n c : Nat} (hn : n * 10 ≤ cs.size) (hc : n ≤ c ∧ c ≤ maxLen) : Kds w S (some ⟨g, 0, Option.none⟩) n c fun i j => cs.getD (i * 10 + j) undef := by
  refine ⟨hc, fun _ => ⟨g, 0, rfl, hg, lt_of_row h, fun i hi j hj => ?_⟩⟩
  rw [cell_of_row w g _ cs T fr h]
  have hl : i * 10 + j < cs.size := by omega
  simp [hl]
theorem LiesE.one {w : World} {S : Nat → Prop} {g : Nat} (hg : S g) {T : TypeId} {fr : Nat × Nat} {k d : Nat} {t : Et} {e : En} {kp : Option Addr} {kc : Nat} {np : Option Addr} {nc : Nat} (h : w.heap[g]? = some (.cells #[.int .i64 (e.k : Int), .string e.s, .int .i64 (e.vk : Int), .bool e.vb, .int .i64 e.vn, .string e.vs, .slice none 0 0, .slice none 0 0, .slice kp e.n kc, .slice np e.m nc] T fr)) (L : LiesE w S d t (enV e kp kc np nc)) : LiesE w S (d + 1) (oneT k t) (enV (nodeE k ⟨#[]⟩ 1) (some ⟨g, 0, none⟩) 1 none 0) := by
  refine ⟨_, _, _, _, _, rfl, Nms.none _ _ _, Kds.ofRow (n := 1) (c := 1) hg h (by simp) (by decide), fun i hi => ?_⟩
  have hi' : i < 1 := hi
  obtain rfl : i = 0 := by omega
  exact L
set_option maxRecDepth 100000 in
set_option maxHeartbeats 8000000 in
theorem around_any {w : World} {b : Nat} {p : Option Addr} {c : Nat} {ws : List Wd} {s : PS} (H : Ps w b p c ws s) (hex : s.ex ≤ 1000000) (k : Nat) {S : Nat → Prop} {d : Nat} (hB : ¬ S b ∧ ∀ k, w.heap.size ≤ k → S k) {t : Et} {v : Value} (L : LiesE w S d t v) :
    Calls Tryz.prog 133 #[.pointer (some ⟨b, 0, none⟩), .int .i64 (k : Int), v] w fun r w' => ∃ v', r = .returned v' ∧ LiesE w' S (d + 1) (oneT k t) v' ∧ Ps w' b p c ws (wholeP ws s) ∧ Onl b w w' := by
  obtain ⟨kp, kc, np, nc, rfl⟩ := L.form
  obtain ⟨e, he⟩ : ∃ e, t [] = e := ⟨_, rfl⟩
  rw [he] at L ⊢
  have hold := H.old
  have lb := lt_of_row H.row
  obtain ⟨w3, hw3⟩ : ∃ w3, ((w.alloc (.cells #[.int .i64 (e.k : Int), .string e.s, .int .i64 (e.vk : Int), .bool e.vb, .int .i64 e.vn, .string e.vs, .slice none 0 0, .slice none 0 0, .slice kp e.n kc, .slice np e.m nc] 28)).alloc (.cells #[.int .i64 0, .string ⟨#[]⟩, .int .i64 0, .bool false, .int .i64 0, .string ⟨#[]⟩, .slice none 0 0, .slice none 0 0, .slice none 0 0, .slice none 0 0] 28)).alloc (.cells #[.int .i64 (e.k : Int), .string e.s, .int .i64 (e.vk : Int), .bool e.vb, .int .i64 e.vn, .string e.vs, .slice none 0 0, .slice none 0 0, .slice kp e.n kc, .slice np e.m nc] 28) = w3 := ⟨_, rfl⟩
  have hb3 : Below w.heap.size w w3 := by rw [← hw3]; exact (((Below.refl _ w).alloc (Nat.le_refl _) _).alloc (by simp) _).alloc (by simp; omega) _
  have hs3 : w3.heap.size = w.heap.size + 1 + 1 + 1 := by rw [← hw3]; simp
  have rk3 : w3.heap[w.heap.size + 1 + 1]? = some (.cells #[.int .i64 (e.k : Int), .string e.s, .int .i64 (e.vk : Int), .bool e.vb, .int .i64 e.vn, .string e.vs, .slice none 0 0, .slice none 0 0, .slice kp e.n kc, .slice np e.m nc] 28 (0, 0)) := by
    rw [← hw3]
    have := heap_alloc_new ((w.alloc (.cells #[.int .i64 (e.k : Int), .string e.s, .int .i64 (e.vk : Int), .bool e.vb, .int .i64 e.vn, .string e.vs, .slice none 0 0, .slice none 0 0, .slice kp e.n kc, .slice np e.m nc] 28)).alloc (.cells #[.int .i64 0, .string ⟨#[]⟩, .int .i64 0, .bool false, .int .i64 0, .string ⟨#[]⟩, .slice none 0 0, .slice none 0 0, .slice none 0 0, .slice none 0 0] 28)) (.cells #[.int .i64 (e.k : Int), .string e.s, .int .i64 (e.vk : Int), .bool e.vb, .int .i64 e.vn, .string e.vs, .slice none 0 0, .slice none 0 0, .slice kp e.n kc, .slice np e.m nc] 28)
    simpa using this
  have rz3 : w3.heap[w.heap.size + 1]? = some (.cells #[.int .i64 0, .string ⟨#[]⟩, .int .i64 0, .bool false, .int .i64 0, .string ⟨#[]⟩, .slice none 0 0, .slice none 0 0, .slice none 0 0, .slice none 0 0] 28 (0, 0)) := by
    rw [← hw3, Below.heap_alloc _ _ _ (by simp)]
    have := heap_alloc_new (w.alloc (.cells #[.int .i64 (e.k : Int), .string e.s, .int .i64 (e.vk : Int), .bool e.vb, .int .i64 e.vn, .string e.vs, .slice none 0 0, .slice none 0 0, .slice kp e.n kc, .slice np e.m nc] 28)) (.cells #[.int .i64 0, .string ⟨#[]⟩, .int .i64 0, .bool false, .int .i64 0, .string ⟨#[]⟩, .slice none 0 0, .slice none 0 0, .slice none 0 0, .slice none 0 0] 28)
    simpa using this
  have kw := whole_any (H.later hb3) hex (nodeE k ⟨#[]⟩ 1) (some ⟨w.heap.size + 1 + 1, 0, none⟩) 1 none 0
  have HH : Hid (Ps w b p c ws s ∧ LiesE w S d t (enV e kp kc np nc) ∧ Below w.heap.size w w3 ∧ w3.heap[w.heap.size + 1 + 1]? = some (.cells #[.int .i64 (e.k : Int), .string e.s, .int .i64 (e.vk : Int), .bool e.vb, .int .i64 e.vn, .string e.vs, .slice none 0 0, .slice none 0 0, .slice kp e.n kc, .slice np e.m nc] 28 (0, 0))) := ⟨H, L, hb3, rk3⟩
  clear H L hb3 rk3
  unfold enV
  obtain ⟨ek, hek⟩ : ∃ ek, (e.k : Int) = ek := ⟨_, rfl⟩
  obtain ⟨evk, hevk⟩ : ∃ ek, (e.vk : Int) = ek := ⟨_, rfl⟩
  obtain ⟨kk, hkk⟩ : ∃ ek, (k : Int) = ek := ⟨_, rfl⟩
  have kw' : Calls Tryz.prog 135 #[.pointer (some ⟨b, 0, none⟩), .agg #[.int .i64 kk, .string ⟨#[]⟩, .int .i64 0, .bool false, .int .i64 0, .string ⟨#[]⟩, .slice none 0 0, .slice none 0 0, .slice (some ⟨w.heap.size + 1 + 1, 0, none⟩) 1 1, .slice none 0 0]] w3 fun r w' => r = .returned (.agg #[.int .i64 kk, .string ⟨#[]⟩, .int .i64 0, .bool false, .int .i64 0, .string ⟨#[]⟩, .slice none 0 0, .slice none 0 0, .slice (some ⟨w.heap.size + 1 + 1, 0, none⟩) 1 1, .slice none 0 0]) ∧ Ps w' b p c ws (wholeP ws s) ∧ Onl b w3 w' := by rw [← hkk]; exact kw
  rw [hek, hevk] at hw3 ⊢
  rw [hkk]
  clear kw
  go_enter Tryz.func133, Tryz.ntmps133
  go_wp2_with fail
  refine kw'.mono ?_
  rintro r w4 ⟨rfl, hP4, hO4⟩
  have rz4 := (hO4.block _ (by omega) (by omega)).trans rz3
  have q0 := cell_of_row w4 _ 0 _ _ _ rz4
  have g0 := frozen_of_row w4 _ 0 _ _ rz4
  have q1 := cell_of_row w4 _ 1 _ _ _ rz4
  have g1 := frozen_of_row w4 _ 1 _ _ rz4
  have q2 := cell_of_row w4 _ 2 _ _ _ rz4
  have g2 := frozen_of_row w4 _ 2 _ _ rz4
  have q3 := cell_of_row w4 _ 3 _ _ _ rz4
  have g3 := frozen_of_row w4 _ 3 _ _ rz4
  have q4 := cell_of_row w4 _ 4 _ _ _ rz4
  have g4 := frozen_of_row w4 _ 4 _ _ rz4
  have q5 := cell_of_row w4 _ 5 _ _ _ rz4
  have g5 := frozen_of_row w4 _ 5 _ _ rz4
  have q6 := cell_of_row w4 _ 6 _ _ _ rz4
  have g6 := frozen_of_row w4 _ 6 _ _ rz4
  have q7 := cell_of_row w4 _ 7 _ _ _ rz4
  have g7 := frozen_of_row w4 _ 7 _ _ rz4
  have q8 := cell_of_row w4 _ 8 _ _ _ rz4
  have g8 := frozen_of_row w4 _ 8 _ _ rz4
  have q9 := cell_of_row w4 _ 9 _ _ _ rz4
  have g9 := frozen_of_row w4 _ 9 _ _ rz4
  have lz := lt_of_row rz4
  have HP : Hid (Ps w4 b p c ws (wholeP ws s) ∧ Onl b w3 w4) := ⟨hP4, hO4⟩
  clear kw' hP4 hO4 hw3 rz3
  go_wp2
  refine bodyPost_ret (results_cell_row Tryz.results133 _ _ (w.heap.size + 1) 28 _ (0, 0) _ rfl (set10_row rz4 (.int .i64 kk) (.string ⟨#[]⟩) (.int .i64 0) (.bool false) (.int .i64 0) (.string ⟨#[]⟩) (.slice none 0 0) (.slice none 0 0) (.slice (some ⟨w.heap.size + 1 + 1, 0, none⟩) 1 1) (.slice none 0 0)) Tryz.underlying28 rfl (by kernel_rfl)) rfl ?_
  obtain ⟨H, L, hb3, rk3⟩ := HH.out
  obtain ⟨hP4, hO4⟩ := HP.out
  have hO : Onl b w (set10 w4 (w.heap.size + 1) (.int .i64 kk) (.string ⟨#[]⟩) (.int .i64 0) (.bool false) (.int .i64 0) (.string ⟨#[]⟩) (.slice none 0 0) (.slice none 0 0) (.slice (some ⟨w.heap.size + 1 + 1, 0, none⟩) 1 1) (.slice none 0 0)) := ((Onl.of hb3).trans hO4).set10 _ (by omega) _ _ _ _ _ _ _ _ _ _
  refine ⟨_, rfl, ?_, ?_, hO⟩
  · rw [← hkk] at hO ⊢
    refine LiesE.one (g := w.heap.size + 1 + 1) (hB.2 _ (by omega)) ((set10_other (by omega) _ _ _ _ _ _ _ _ _ _).trans ((hO4.block _ (by omega) (by omega)).trans rk3)) (L.since (Since.onl hO hB.1))
  · exact hP4.kept (z := w.heap.size + 1) (by omega) (fun g hg => by have := hold g hg; omega) (fun j hj => set10_other hj _ _ _ _ _ _ _ _ _ _) (Nat.le_of_eq (set10_size _ _ _ _ _ _ _ _ _ _ _ _).symm)
end Go.Proofs.YthgagldpjledgaaGreatDoor
