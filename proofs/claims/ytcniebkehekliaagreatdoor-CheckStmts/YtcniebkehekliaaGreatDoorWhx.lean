/- Where an expression more is whole (whole), one more and one less within one another (deeper, back). One more within those that are being parsed (deeper), and back. An expression of one kid (around). -/
import Derived.Test.YtcniebkehekliaaGreatDoorExt
import Derived.Defers
namespace Go.Proofs.YtcniebkehekliaaGreatDoor
open Go.RowKit Go.Shelf
attribute [local go_sem] Oper.semAt_some fw0 fw1 fw2
def set10 (w : World) (z : Nat) (k0 k1 k2 k3 k4 k5 k6 k7 k8 k9 : Value) : World := (((((((((w.setCell ⟨z, 0, none⟩ k0).setCell ⟨z, 1, none⟩ k1).setCell ⟨z, 2, none⟩ k2).setCell ⟨z, 3, none⟩ k3).setCell ⟨z, 4, none⟩ k4).setCell ⟨z, 5, none⟩ k5).setCell ⟨z, 6, none⟩ k6).setCell ⟨z, 7, none⟩ k7).setCell ⟨z, 8, none⟩ k8).setCell ⟨z, 9, none⟩ k9
theorem set10_row {w : World} {z : Nat} {t : TypeId} {a0 a1 a2 a3 a4 a5 a6 a7 a8 a9 : Value} (h : w.heap[z]? = some (.cells #[a0, a1, a2, a3, a4, a5, a6, a7, a8, a9] t (0, 0))) (k0 k1 k2 k3 k4 k5 k6 k7 k8 k9 : Value) : (set10 w z k0 k1 k2 k3 k4 k5 k6 k7 k8 k9).heap[z]? = some (.cells #[k0, k1, k2, k3, k4, k5, k6, k7, k8, k9] t (0, 0)) := by
  have s0 := row_setCell (k := 0) h k0
  simp only [List.setIfInBounds_toArray, List.set_cons_zero] at s0
  have s1 := row_setCell (k := 1) s0 k1
  simp only [List.setIfInBounds_toArray, List.set_cons_zero, List.set_cons_succ] at s1
  have s2 := row_setCell (k := 2) s1 k2
  simp only [List.setIfInBounds_toArray, List.set_cons_zero, List.set_cons_succ] at s2
  have s3 := row_setCell (k := 3) s2 k3
  simp only [List.setIfInBounds_toArray, List.set_cons_zero, List.set_cons_succ] at s3
  have s4 := row_setCell (k := 4) s3 k4
  simp only [List.setIfInBounds_toArray, List.set_cons_zero, List.set_cons_succ] at s4
  have s5 := row_setCell (k := 5) s4 k5
  simp only [List.setIfInBounds_toArray, List.set_cons_zero, List.set_cons_succ] at s5
  have s6 := row_setCell (k := 6) s5 k6
  simp only [List.setIfInBounds_toArray, List.set_cons_zero, List.set_cons_succ] at s6
  have s7 := row_setCell (k := 7) s6 k7
  simp only [List.setIfInBounds_toArray, List.set_cons_zero, List.set_cons_succ] at s7
  have s8 := row_setCell (k := 8) s7 k8
  simp only [List.setIfInBounds_toArray, List.set_cons_zero, List.set_cons_succ] at s8
  have s9 := row_setCell (k := 9) s8 k9
  simp only [List.setIfInBounds_toArray, List.set_cons_zero, List.set_cons_succ] at s9
  exact s9
theorem set10_other {w : World} {z j : Nat} (hj : j ≠ z) (k0 k1 k2 k3 k4 k5 k6 k7 k8 k9 : Value) : (set10 w z k0 k1 k2 k3 k4 k5 k6 k7 k8 k9).heap[j]? = w.heap[j]? := by
  unfold set10
  rw [Below.heap_setCell _ _ _ j hj, Below.heap_setCell _ _ _ j hj, Below.heap_setCell _ _ _ j hj, Below.heap_setCell _ _ _ j hj, Below.heap_setCell _ _ _ j hj, Below.heap_setCell _ _ _ j hj, Below.heap_setCell _ _ _ j hj, Below.heap_setCell _ _ _ j hj, Below.heap_setCell _ _ _ j hj, Below.heap_setCell _ _ _ j hj]
theorem set10_size (w : World) (z : Nat) (k0 k1 k2 k3 k4 k5 k6 k7 k8 k9 : Value) : (set10 w z k0 k1 k2 k3 k4 k5 k6 k7 k8 k9).heap.size = w.heap.size := by
  unfold set10
  simp [World.setCell]
theorem set10_below {B : Nat} {a w : World} (hb : Below B a w) (z : Nat) (hz : B ≤ z) (k0 k1 k2 k3 k4 k5 k6 k7 k8 k9 : Value) : Below B a (set10 w z k0 k1 k2 k3 k4 k5 k6 k7 k8 k9) := by
  have t0 := hb.setCell (p := ⟨z, 0, none⟩) hz k0
  have t1 := t0.setCell (p := ⟨z, 1, none⟩) hz k1
  have t2 := t1.setCell (p := ⟨z, 2, none⟩) hz k2
  have t3 := t2.setCell (p := ⟨z, 3, none⟩) hz k3
  have t4 := t3.setCell (p := ⟨z, 4, none⟩) hz k4
  have t5 := t4.setCell (p := ⟨z, 5, none⟩) hz k5
  have t6 := t5.setCell (p := ⟨z, 6, none⟩) hz k6
  have t7 := t6.setCell (p := ⟨z, 7, none⟩) hz k7
  have t8 := t7.setCell (p := ⟨z, 8, none⟩) hz k8
  have t9 := t8.setCell (p := ⟨z, 9, none⟩) hz k9
  exact t9
theorem Onl.set10 {b : Nat} {a w : World} (h : Onl b a w) (z : Nat) (hz : a.heap.size ≤ z) (k0 k1 k2 k3 k4 k5 k6 k7 k8 k9 : Value) : Onl b a (set10 w z k0 k1 k2 k3 k4 k5 k6 k7 k8 k9) := by
  have hb0 := set10_below (Below.refl 0 w) z (Nat.zero_le _) k0 k1 k2 k3 k4 k5 k6 k7 k8 k9
  refine ⟨hb0.os.trans h.os, hb0.tape.trans h.tape, hb0.output.trans h.output, ?_, fun j hj hb => ?_⟩
  · rw [set10_size]; exact h.size
  · rw [set10_other (by omega)]; exact h.block j hj hb
def zero10 : Array Value := #[.int .i64 0, .string ⟨#[]⟩, .int .i64 0, .bool false, .int .i64 0, .string ⟨#[]⟩, .slice none 0 0, .slice none 0 0, .slice none 0 0, .slice none 0 0]
def wholeP (ws : List Wd) (s : PS) : PS := if 200 < s.ex + 1 then failP ws { s with ex := s.ex + 1 } 3 else { s with ex := s.ex + 1 }
theorem Ps.kept {w w' : World} {b : Nat} {p : Option Addr} {c : Nat} {ws : List Wd} {s : PS} (H : Ps w b p c ws s) {z : Nat} (hbz : b < z) (hgz : ∀ g, p = some ⟨g, 0, none⟩ → g < z) (ho : ∀ j, j ≠ z → w'.heap[j]? = w.heap[j]?) (hs : w.heap.size ≤ w'.heap.size) : Ps w' b p c ws s := by
  refine ⟨(ho b (by omega)).trans H.row, ⟨H.sl.cap, H.sl.len, fun h0 => ?_⟩, H.lt, H.few⟩
  obtain ⟨g, h1, h2, h3⟩ := H.sl.lies h0
  have hg := hgz g h1
  exact ⟨g, h1, by omega, fun j u hu => (World.cell?_of_block (a := ⟨g, j, none⟩) (ho g (by omega))).trans (h3 j u hu)⟩
theorem Ps.old {w : World} {b : Nat} {p : Option Addr} {c : Nat} {ws : List Wd} {s : PS} (H : Ps w b p c ws s) : ∀ g, p = some ⟨g, 0, none⟩ → g < w.heap.size := by
  intro g hg
  obtain ⟨g', e, h2, -⟩ := H.word_at
  rw [hg] at e
  injection e with e
  injection e with e
  omega
set_option maxRecDepth 100000 in
set_option maxHeartbeats 8000000 in
theorem whole_any {w : World} {b : Nat} {p : Option Addr} {c : Nat} {ws : List Wd} {s : PS} (H : Ps w b p c ws s) (hex : s.ex ≤ 1000000) (e : En) (kp : Option Addr) (kc : Nat) (np : Option Addr) (nc : Nat) :
    Calls Tryz.prog 148 #[.pointer (some ⟨b, 0, none⟩), enV e kp kc np nc] w fun r w' => r = .returned (enV e kp kc np nc) ∧ Ps w' b p c ws (wholeP ws s) ∧ Onl b w w' := by
  unfold enV
  obtain ⟨ek, hek⟩ : ∃ ek, (e.k : Int) = ek := ⟨_, rfl⟩
  obtain ⟨evk, hevk⟩ : ∃ ek, (e.vk : Int) = ek := ⟨_, rfl⟩
  rw [hek, hevk]
  obtain ⟨R, hR⟩ : ∃ R, R = (#[.int .i64 ek, .string e.s, .int .i64 evk, .bool e.vb, .int .i64 e.vn, .string e.vs, .slice none 0 0, .slice none 0 0, .slice kp e.n kc, .slice np e.m nc] : Array Value) := ⟨_, rfl⟩
  obtain ⟨w2, hw2⟩ : ∃ w2, (w.alloc (.cells #[.int .i64 ek, .string e.s, .int .i64 evk, .bool e.vb, .int .i64 e.vn, .string e.vs, .slice none 0 0, .slice none 0 0, .slice kp e.n kc, .slice np e.m nc] 28)).alloc (.cells #[.int .i64 0, .string ⟨#[]⟩, .int .i64 0, .bool false, .int .i64 0, .string ⟨#[]⟩, .slice none 0 0, .slice none 0 0, .slice none 0 0, .slice none 0 0] 28) = w2 := ⟨_, rfl⟩
  have hb2 : Below w.heap.size w w2 := by rw [← hw2]; exact ((Below.refl _ w).alloc (Nat.le_refl _) _).alloc (by simp) _
  have hs2 : w2.heap.size = w.heap.size + 1 + 1 := by rw [← hw2]; simp
  have rx : w2.heap[w.heap.size]? = some (.cells R 28 (0, 0)) := by rw [← hw2, Below.heap_alloc _ _ _ (by simp), hR]; exact heap_alloc_new _ _
  have rz : w2.heap[w.heap.size + 1]? = some (.cells zero10 28 (0, 0)) := by
    rw [← hw2]
    have := heap_alloc_new (w.alloc (.cells #[.int .i64 ek, .string e.s, .int .i64 evk, .bool e.vb, .int .i64 e.vn, .string e.vs, .slice none 0 0, .slice none 0 0, .slice kp e.n kc, .slice np e.m nc] 28)) (.cells zero10 28)
    simpa [zero10] using this
  have H2 := H.later hb2
  have lb := lt_of_row H.row
  have hold := H.old
  have r0 := H2.row
  unfold psRow at r0
  obtain ⟨x, hx⟩ : ∃ x, s.ex = x := ⟨_, rfl⟩
  rw [hx] at r0 hex
  have c2 := cell_of_row w2 _ 2 _ _ _ r0
  have f2 := frozen_of_row w2 _ 2 _ _ r0
  have hw1 : wrap64 ((x : Int) + 1) = (x : Int) + 1 := by unfold wrap64; omega
  obtain ⟨w3, hw3⟩ : ∃ w3, w2.setCell ⟨b, 2, none⟩ (.int .i64 ((x : Int) + 1)) = w3 := ⟨_, rfl⟩
  have r3 : w3.heap[b]? = some (.cells #[.slice p ws.length c, .int .i64 (s.at' : Int), .int .i64 ((x : Int) + 1), .int .i64 (s.ne : Int), .int .i64 (s.er : Int), .int .i64 (s.pl : Int)] 87 (0, 0)) := by rw [← hw3]; exact heap_setCell_same _ _ 2 _ _ _ r0
  have ho3 : Onl b w2 w3 := by rw [← hw3]; exact (Onl.of (Below.refl _ _)).setCell 2 _
  have P3 : Ps w3 b p c ws { s with ex := s.ex + 1 } := H2.upd ho3 (by rw [r3]; unfold psRow; rw [hx]; rfl) H.lt
  have d2 := cell_of_row w3 _ 2 _ _ _ r3
  have oth : ∀ k, k ≠ b → w3.heap[k]? = w2.heap[k]? := fun k hk => by rw [← hw3]; exact heap_setCell_other _ _ _ _ hk
  have rx3 := (oth _ (by omega)).trans rx
  have rz3 := (oth _ (by omega)).trans rz
  have hO3 : Onl b w w3 := (Onl.of hb2).trans ho3
  have hs3 : w3.heap.size = w.heap.size + 1 + 1 := by rw [← hw3]; simpa [World.setCell] using hs2
  have HP3 : Hid (Ps w3 b p c ws { s with ex := s.ex + 1 }) := P3
  have HO3 : Hid (Onl b w w3) := hO3
  unfold wholeP
  rw [hx]
  rw [hx] at HP3
  by_cases hm : 200 < x + 1
  · rw [if_pos hm]
    have hm' : (200 : Int) < (x : Int) + 1 := by omega
    have kf := fail_any HP3.out 3
    clear H H2 P3 hO3 ho3 r0 rx rz hm
    go_enter Tryz.func148, Tryz.ntmps148
    go_wp2_with fail
    refine kf.mono ?_
    rintro q w4 ⟨rfl, hP4, hO4⟩
    have rx4 := (hO4.block _ (by omega) (by omega)).trans rx3
    have rz4 := (hO4.block _ (by omega) (by omega)).trans rz3
    rw [hR] at rx4
    unfold zero10 at rz4
    have p0 := cell_of_row w4 _ 0 _ _ _ rx4
    have q0 := cell_of_row w4 _ 0 _ _ _ rz4
    have g0 := frozen_of_row w4 _ 0 _ _ rz4
    have p1 := cell_of_row w4 _ 1 _ _ _ rx4
    have q1 := cell_of_row w4 _ 1 _ _ _ rz4
    have g1 := frozen_of_row w4 _ 1 _ _ rz4
    have p2 := cell_of_row w4 _ 2 _ _ _ rx4
    have q2 := cell_of_row w4 _ 2 _ _ _ rz4
    have g2 := frozen_of_row w4 _ 2 _ _ rz4
    have p3 := cell_of_row w4 _ 3 _ _ _ rx4
    have q3 := cell_of_row w4 _ 3 _ _ _ rz4
    have g3 := frozen_of_row w4 _ 3 _ _ rz4
    have p4 := cell_of_row w4 _ 4 _ _ _ rx4
    have q4 := cell_of_row w4 _ 4 _ _ _ rz4
    have g4 := frozen_of_row w4 _ 4 _ _ rz4
    have p5 := cell_of_row w4 _ 5 _ _ _ rx4
    have q5 := cell_of_row w4 _ 5 _ _ _ rz4
    have g5 := frozen_of_row w4 _ 5 _ _ rz4
    have p6 := cell_of_row w4 _ 6 _ _ _ rx4
    have q6 := cell_of_row w4 _ 6 _ _ _ rz4
    have g6 := frozen_of_row w4 _ 6 _ _ rz4
    have p7 := cell_of_row w4 _ 7 _ _ _ rx4
    have q7 := cell_of_row w4 _ 7 _ _ _ rz4
    have g7 := frozen_of_row w4 _ 7 _ _ rz4
    have p8 := cell_of_row w4 _ 8 _ _ _ rx4
    have q8 := cell_of_row w4 _ 8 _ _ _ rz4
    have g8 := frozen_of_row w4 _ 8 _ _ rz4
    have p9 := cell_of_row w4 _ 9 _ _ _ rx4
    have q9 := cell_of_row w4 _ 9 _ _ _ rz4
    have g9 := frozen_of_row w4 _ 9 _ _ rz4
    have HP4 : Hid (Ps w4 b p c ws (failP ws { s with ex := x + 1 } 3)) := hP4
    have HO4 : Hid (Onl b w w4) := HO3.out.trans hO4
    have lz := lt_of_row rz4
    have hz4 : w.heap.size + 1 < w4.heap.size := lz
    clear kf hP4 hO4 hw2 hw3 rx3 rz3 r3 d2 c2 f2 rx4
    go_wp2
    refine bodyPost_ret (results_cell_row Tryz.results148 _ _ (w.heap.size + 1) 28 _ (0, 0) _ rfl (set10_row rz4 (.int .i64 ek) (.string e.s) (.int .i64 evk) (.bool e.vb) (.int .i64 e.vn) (.string e.vs) (.slice none 0 0) (.slice none 0 0) (.slice kp e.n kc) (.slice np e.m nc)) Tryz.underlying28 rfl (by kernel_rfl)) rfl ⟨rfl, ?_, ?_⟩
    · exact HP4.out.kept (z := w.heap.size + 1) (by omega) (fun g hg => by have := hold g hg; omega) (fun j hj => set10_other hj _ _ _ _ _ _ _ _ _ _) (Nat.le_of_eq (set10_size _ _ _ _ _ _ _ _ _ _ _ _).symm)
    · exact HO4.out.set10 _ (by omega) _ _ _ _ _ _ _ _ _ _
  · rw [if_neg hm]
    have hm' : ¬ (200 : Int) < (x : Int) + 1 := by omega
    clear H H2 P3 hO3 ho3 r0 rx rz hm
    obtain ⟨w4, hw4⟩ : ∃ w4, w3 = w4 := ⟨_, rfl⟩
    have rx4 := rx3
    have rz4 := rz3
    rw [hR] at rx4
    unfold zero10 at rz4
    rw [hw4] at rx4 rz4 HP3 HO3 hw3 d2
    have p0 := cell_of_row w4 _ 0 _ _ _ rx4
    have q0 := cell_of_row w4 _ 0 _ _ _ rz4
    have g0 := frozen_of_row w4 _ 0 _ _ rz4
    have p1 := cell_of_row w4 _ 1 _ _ _ rx4
    have q1 := cell_of_row w4 _ 1 _ _ _ rz4
    have g1 := frozen_of_row w4 _ 1 _ _ rz4
    have p2 := cell_of_row w4 _ 2 _ _ _ rx4
    have q2 := cell_of_row w4 _ 2 _ _ _ rz4
    have g2 := frozen_of_row w4 _ 2 _ _ rz4
    have p3 := cell_of_row w4 _ 3 _ _ _ rx4
    have q3 := cell_of_row w4 _ 3 _ _ _ rz4
    have g3 := frozen_of_row w4 _ 3 _ _ rz4
    have p4 := cell_of_row w4 _ 4 _ _ _ rx4
    have q4 := cell_of_row w4 _ 4 _ _ _ rz4
    have g4 := frozen_of_row w4 _ 4 _ _ rz4
    have p5 := cell_of_row w4 _ 5 _ _ _ rx4
    have q5 := cell_of_row w4 _ 5 _ _ _ rz4
    have g5 := frozen_of_row w4 _ 5 _ _ rz4
    have p6 := cell_of_row w4 _ 6 _ _ _ rx4
    have q6 := cell_of_row w4 _ 6 _ _ _ rz4
    have g6 := frozen_of_row w4 _ 6 _ _ rz4
    have p7 := cell_of_row w4 _ 7 _ _ _ rx4
    have q7 := cell_of_row w4 _ 7 _ _ _ rz4
    have g7 := frozen_of_row w4 _ 7 _ _ rz4
    have p8 := cell_of_row w4 _ 8 _ _ _ rx4
    have q8 := cell_of_row w4 _ 8 _ _ _ rz4
    have g8 := frozen_of_row w4 _ 8 _ _ rz4
    have p9 := cell_of_row w4 _ 9 _ _ _ rx4
    have q9 := cell_of_row w4 _ 9 _ _ _ rz4
    have g9 := frozen_of_row w4 _ 9 _ _ rz4
    have HP4 := HP3
    have HO4 := HO3
    have lz := lt_of_row rz4
    clear rx3 rz3 r3 rx4 oth hs3
    subst hw4
    go_enter Tryz.func148, Tryz.ntmps148
    go_wp2
    refine bodyPost_ret (results_cell_row Tryz.results148 _ _ (w.heap.size + 1) 28 _ (0, 0) _ rfl (set10_row rz4 (.int .i64 ek) (.string e.s) (.int .i64 evk) (.bool e.vb) (.int .i64 e.vn) (.string e.vs) (.slice none 0 0) (.slice none 0 0) (.slice kp e.n kc) (.slice np e.m nc)) Tryz.underlying28 rfl (by kernel_rfl)) rfl ⟨rfl, ?_, ?_⟩
    · exact HP4.out.kept (z := w.heap.size + 1) (by omega) (fun g hg => by have := hold g hg; omega) (fun j hj => set10_other hj _ _ _ _ _ _ _ _ _ _) (Nat.le_of_eq (set10_size _ _ _ _ _ _ _ _ _ _ _ _).symm)
    · exact HO4.out.set10 _ (by omega) _ _ _ _ _ _ _ _ _ _
end Go.Proofs.YtcniebkehekliaaGreatDoor
namespace Go.Proofs.YtcniebkehekliaaGreatDoor
open Go.RowKit Go.Shelf
attribute [local go_sem] Oper.semAt_some fw0 fw1 fw2
def deepP (ws : List Wd) (s : PS) : PS := if 24 < s.ne + 1 then failP ws { s with ne := s.ne + 1 } 3 else { s with ne := s.ne + 1 }
def backP (s : PS) : PS := { s with ne := s.ne - 1 }
set_option maxRecDepth 100000 in
set_option maxHeartbeats 4000000 in
theorem deeper_any {w : World} {b : Nat} {p : Option Addr} {c : Nat} {ws : List Wd} {s : PS} (H : Ps w b p c ws s) (hne : s.ne ≤ 1000000) :
    Calls Tryz.prog 145 #[.pointer (some ⟨b, 0, none⟩)] w fun r w' => r = .returned (.func (.func 163) #[.pointer (some ⟨b, 0, none⟩)] #[]) ∧ Ps w' b p c ws (deepP ws s) ∧ Onl b w w' := by
  have hmf : ∀ (fn : Fn) (first cap : Array Value) (w : World), (Instr.makeFunc fn first cap).run Tryz.prog w = .ok (.func fn first cap) w := fun _ _ _ _ => rfl
  have r0 := H.row
  unfold psRow at r0
  obtain ⟨x, hx⟩ : ∃ x, s.ne = x := ⟨_, rfl⟩
  rw [hx] at r0 hne
  have c3 := cell_of_row w _ 3 _ _ _ r0
  have f3 := frozen_of_row w _ 3 _ _ r0
  have hw1 : wrap64 ((x : Int) + 1) = (x : Int) + 1 := by unfold wrap64; omega
  obtain ⟨w3, hw3⟩ : ∃ w3, w.setCell ⟨b, 3, none⟩ (.int .i64 ((x : Int) + 1)) = w3 := ⟨_, rfl⟩
  have r3 : w3.heap[b]? = some (.cells #[.slice p ws.length c, .int .i64 (s.at' : Int), .int .i64 (s.ex : Int), .int .i64 ((x : Int) + 1), .int .i64 (s.er : Int), .int .i64 (s.pl : Int)] 87 (0, 0)) := by rw [← hw3]; exact heap_setCell_same _ _ 3 _ _ _ r0
  have ho3 : Onl b w w3 := by rw [← hw3]; exact (Onl.of (Below.refl _ _)).setCell 3 _
  have P3 : Ps w3 b p c ws { s with ne := s.ne + 1 } := H.upd ho3 (by rw [r3]; unfold psRow; rw [hx]; rfl) H.lt
  have d3 := cell_of_row w3 _ 3 _ _ _ r3
  have HP3 : Hid (Ps w3 b p c ws { s with ne := s.ne + 1 }) := P3
  have HO3 : Hid (Onl b w w3) := ho3
  unfold deepP
  rw [hx]
  rw [hx] at HP3
  by_cases hm : 24 < x + 1
  · rw [if_pos hm]
    have hm' : (24 : Int) < (x : Int) + 1 := by omega
    have kf := fail_any HP3.out 3
    clear H P3 ho3 r0 hm
    go_enter Tryz.func145, Tryz.ntmps145
    go_wp2_with fail
    refine kf.mono ?_
    rintro q w4 ⟨rfl, hP4, hO4⟩
    have HP : Hid (Ps w4 b p c ws (failP ws { s with ne := x + 1 } 3) ∧ Onl b w w4) := ⟨hP4, HO3.out.trans hO4⟩
    clear kf hP4 hO4 hw3 r3 d3 c3 f3
    go_wp2
    go_ret
    exact ⟨rfl, HP.out.1, HP.out.2⟩
  · rw [if_neg hm]
    have hm' : ¬ (24 : Int) < (x : Int) + 1 := by omega
    clear H P3 ho3 r0 hm
    go_enter Tryz.func145, Tryz.ntmps145
    go_wp2
    go_ret
    exact ⟨rfl, HP3.out, HO3.out⟩
set_option maxRecDepth 100000 in
set_option maxHeartbeats 4000000 in
theorem back_d {w : World} {b : Nat} {p : Option Addr} {c : Nat} {ws : List Wd} {s : PS} (H : Ps w b p c ws s) (h0 : 0 < s.ne) (hne : s.ne ≤ 1000000) (u : FrameMode) :
    CallsD Tryz.prog 163 #[.pointer (some ⟨b, 0, none⟩)] u w fun e u' w' => u' = u ∧ (e = .returned (.tuple #[]) ∧ Ps w' b p c ws (backP s) ∧ Onl b w w') := by
  have r0 := H.row
  unfold psRow at r0
  obtain ⟨x, hx⟩ : ∃ x, s.ne = x := ⟨_, rfl⟩
  rw [hx] at r0 hne h0
  have c3 := cell_of_row w _ 3 _ _ _ r0
  have f3 := frozen_of_row w _ 3 _ _ r0
  have hw1 : wrap64 ((x : Int) - 1) = (x : Int) - 1 := by unfold wrap64; omega
  obtain ⟨w3, hw3⟩ : ∃ w3, w.setCell ⟨b, 3, none⟩ (.int .i64 ((x : Int) - 1)) = w3 := ⟨_, rfl⟩
  have r3 : w3.heap[b]? = some (.cells #[.slice p ws.length c, .int .i64 (s.at' : Int), .int .i64 (s.ex : Int), .int .i64 ((x : Int) - 1), .int .i64 (s.er : Int), .int .i64 (s.pl : Int)] 87 (0, 0)) := by rw [← hw3]; exact heap_setCell_same _ _ 3 _ _ _ r0
  have ho3 : Onl b w w3 := by rw [← hw3]; exact (Onl.of (Below.refl _ _)).setCell 3 _
  have P3 : Ps w3 b p c ws (backP s) := H.upd ho3 (by rw [r3]; unfold psRow backP; rw [hx]; simp only [Int.natCast_sub (show 1 ≤ x by omega)]; rfl) H.lt
  have HP3 : Hid (Ps w3 b p c ws (backP s)) := P3
  have HO3 : Hid (Onl b w w3) := ho3
  clear H P3 ho3 r0
  go_enter_d Tryz.func163, Tryz.ntmps163
  go_wp2
  go_end0
  exact ⟨rfl, HP3.out, HO3.out⟩
end Go.Proofs.YtcniebkehekliaaGreatDoor
namespace Go.Proofs.YtcniebkehekliaaGreatDoor
open Go.RowKit Go.Shelf
attribute [local go_sem] Oper.semAt_some fw0 fw1 fw2
def nodeE (k : Nat) (s : ByteArray) (n : Nat) : En := ⟨k, s, 0, false, 0, ⟨#[]⟩, n, 0, fun _ => ⟨#[]⟩⟩
def oneT (k : Nat) (t : Et) : Et := Et.node (nodeE k ⟨#[]⟩ 1) fun _ => t
theorem Kds.ofRow {w : World} {S : Nat → Prop} {g : Nat} (hg : S g) {cs : Array Value} {T : TypeId} {fr : Nat × Nat} (h : w.heap[g]? = some (.cells cs T fr)) {n c : Nat} (hn : n * 10 ≤ cs.size) (hc : n ≤ c ∧ c ≤ maxLen) : Kds w S (some ⟨g, 0, Option.none⟩) n c fun i j => cs.getD (i * 10 + j) undef := by
  refine ⟨hc, fun _ => ⟨g, 0, rfl, hg, lt_of_row h, fun i hi j hj => ?_⟩⟩
  rw [cell_of_row w g _ cs T fr h]
  have hl : i * 10 + j < cs.size := by omega
  simp [hl]
theorem LiesE.one {w : World} {S : Nat → Prop} {g : Nat} (hg : S g) {T : TypeId} {fr : Nat × Nat} {k d : Nat} {t : Et} {e : En} {kp : Option Addr} {kc : Nat} {np : Option Addr} {nc : Nat} (h : w.heap[g]? = some (.cells #[.int .i64 (e.k : Int), .string e.s, .int .i64 (e.vk : Int), .bool e.vb, .int .i64 e.vn, .string e.vs, .slice none 0 0, .slice none 0 0, .slice kp e.n kc, .slice np e.m nc] T fr)) (L : LiesE w S d t (enV e kp kc np nc)) : LiesE w S (d + 1) (oneT k t) (enV (nodeE k ⟨#[]⟩ 1) (some ⟨g, 0, none⟩) 1 none 0) := by
  refine ⟨_, _, _, _, _, rfl, Nms.none _ _ _, Kds.ofRow (n := 1) (c := 1) hg h (by simp) (by decide), fun i hi => ?_⟩
  have hi' : i < 1 := hi
  obtain rfl : i = 0 := by omega
  exact L
set_option maxRecDepth 100000 in
set_option maxHeartbeats 8000000 in
theorem around_any {w : World} {b : Nat} {p : Option Addr} {c : Nat} {ws : List Wd} {s : PS} (H : Ps w b p c ws s) (hex : s.ex ≤ 1000000) (k : Nat) {S : Nat → Prop} {d : Nat} (hB : ¬ S b ∧ ∀ k, w.heap.size ≤ k → S k) {t : Et} {v : Value} (L : LiesE w S d t v) :
    Calls Tryz.prog 146 #[.pointer (some ⟨b, 0, none⟩), .int .i64 (k : Int), v] w fun r w' => ∃ v', r = .returned v' ∧ LiesE w' S (d + 1) (oneT k t) v' ∧ Ps w' b p c ws (wholeP ws s) ∧ Onl b w w' := by
  obtain ⟨kp, kc, np, nc, rfl⟩ := L.form
  obtain ⟨e, he⟩ : ∃ e, t [] = e := ⟨_, rfl⟩
  rw [he] at L ⊢
  have hold := H.old
  have lb := lt_of_row H.row
  obtain ⟨w3, hw3⟩ : ∃ w3, ((w.alloc (.cells #[.int .i64 (e.k : Int), .string e.s, .int .i64 (e.vk : Int), .bool e.vb, .int .i64 e.vn, .string e.vs, .slice none 0 0, .slice none 0 0, .slice kp e.n kc, .slice np e.m nc] 28)).alloc (.cells #[.int .i64 0, .string ⟨#[]⟩, .int .i64 0, .bool false, .int .i64 0, .string ⟨#[]⟩, .slice none 0 0, .slice none 0 0, .slice none 0 0, .slice none 0 0] 28)).alloc (.cells #[.int .i64 (e.k : Int), .string e.s, .int .i64 (e.vk : Int), .bool e.vb, .int .i64 e.vn, .string e.vs, .slice none 0 0, .slice none 0 0, .slice kp e.n kc, .slice np e.m nc] 28) = w3 := ⟨_, rfl⟩
  have hb3 : Below w.heap.size w w3 := by rw [← hw3]; exact (((Below.refl _ w).alloc (Nat.le_refl _) _).alloc (by simp) _).alloc (by simp; omega) _
  have hs3 : w3.heap.size = w.heap.size + 1 + 1 + 1 := by rw [← hw3]; simp
  have rk3 : w3.heap[w.heap.size + 1 + 1]? = some (.cells #[.int .i64 (e.k : Int), .string e.s, .int .i64 (e.vk : Int), .bool e.vb, .int .i64 e.vn, .string e.vs, .slice none 0 0, .slice none 0 0, .slice kp e.n kc, .slice np e.m nc] 28 (0, 0)) := by
    rw [← hw3]
    have := heap_alloc_new ((w.alloc (.cells #[.int .i64 (e.k : Int), .string e.s, .int .i64 (e.vk : Int), .bool e.vb, .int .i64 e.vn, .string e.vs, .slice none 0 0, .slice none 0 0, .slice kp e.n kc, .slice np e.m nc] 28)).alloc (.cells #[.int .i64 0, .string ⟨#[]⟩, .int .i64 0, .bool false, .int .i64 0, .string ⟨#[]⟩, .slice none 0 0, .slice none 0 0, .slice none 0 0, .slice none 0 0] 28)) (.cells #[.int .i64 (e.k : Int), .string e.s, .int .i64 (e.vk : Int), .bool e.vb, .int .i64 e.vn, .string e.vs, .slice none 0 0, .slice none 0 0, .slice kp e.n kc, .slice np e.m nc] 28)
    simpa using this
  have rz3 : w3.heap[w.heap.size + 1]? = some (.cells #[.int .i64 0, .string ⟨#[]⟩, .int .i64 0, .bool false, .int .i64 0, .string ⟨#[]⟩, .slice none 0 0, .slice none 0 0, .slice none 0 0, .slice none 0 0] 28 (0, 0)) := by
    rw [← hw3, Below.heap_alloc _ _ _ (by simp)]
    have := heap_alloc_new (w.alloc (.cells #[.int .i64 (e.k : Int), .string e.s, .int .i64 (e.vk : Int), .bool e.vb, .int .i64 e.vn, .string e.vs, .slice none 0 0, .slice none 0 0, .slice kp e.n kc, .slice np e.m nc] 28)) (.cells #[.int .i64 0, .string ⟨#[]⟩, .int .i64 0, .bool false, .int .i64 0, .string ⟨#[]⟩, .slice none 0 0, .slice none 0 0, .slice none 0 0, .slice none 0 0] 28)
    simpa using this
  have kw := whole_any (H.later hb3) hex (nodeE k ⟨#[]⟩ 1) (some ⟨w.heap.size + 1 + 1, 0, none⟩) 1 none 0
  have HH : Hid (Ps w b p c ws s ∧ LiesE w S d t (enV e kp kc np nc) ∧ Below w.heap.size w w3 ∧ w3.heap[w.heap.size + 1 + 1]? = some (.cells #[.int .i64 (e.k : Int), .string e.s, .int .i64 (e.vk : Int), .bool e.vb, .int .i64 e.vn, .string e.vs, .slice none 0 0, .slice none 0 0, .slice kp e.n kc, .slice np e.m nc] 28 (0, 0))) := ⟨H, L, hb3, rk3⟩
  clear H L hb3 rk3
  unfold enV
  obtain ⟨ek, hek⟩ : ∃ ek, (e.k : Int) = ek := ⟨_, rfl⟩
  obtain ⟨evk, hevk⟩ : ∃ ek, (e.vk : Int) = ek := ⟨_, rfl⟩
  obtain ⟨kk, hkk⟩ : ∃ ek, (k : Int) = ek := ⟨_, rfl⟩
  have kw' : Calls Tryz.prog 148 #[.pointer (some ⟨b, 0, none⟩), .agg #[.int .i64 kk, .string ⟨#[]⟩, .int .i64 0, .bool false, .int .i64 0, .string ⟨#[]⟩, .slice none 0 0, .slice none 0 0, .slice (some ⟨w.heap.size + 1 + 1, 0, none⟩) 1 1, .slice none 0 0]] w3 fun r w' => r = .returned (.agg #[.int .i64 kk, .string ⟨#[]⟩, .int .i64 0, .bool false, .int .i64 0, .string ⟨#[]⟩, .slice none 0 0, .slice none 0 0, .slice (some ⟨w.heap.size + 1 + 1, 0, none⟩) 1 1, .slice none 0 0]) ∧ Ps w' b p c ws (wholeP ws s) ∧ Onl b w3 w' := by rw [← hkk]; exact kw
  rw [hek, hevk] at hw3 ⊢
  rw [hkk]
  clear kw
  go_enter Tryz.func146, Tryz.ntmps146
  go_wp2_with fail
  refine kw'.mono ?_
  rintro r w4 ⟨rfl, hP4, hO4⟩
  have rz4 := (hO4.block _ (by omega) (by omega)).trans rz3
  have q0 := cell_of_row w4 _ 0 _ _ _ rz4
  have g0 := frozen_of_row w4 _ 0 _ _ rz4
  have q1 := cell_of_row w4 _ 1 _ _ _ rz4
  have g1 := frozen_of_row w4 _ 1 _ _ rz4
  have q2 := cell_of_row w4 _ 2 _ _ _ rz4
  have g2 := frozen_of_row w4 _ 2 _ _ rz4
  have q3 := cell_of_row w4 _ 3 _ _ _ rz4
  have g3 := frozen_of_row w4 _ 3 _ _ rz4
  have q4 := cell_of_row w4 _ 4 _ _ _ rz4
  have g4 := frozen_of_row w4 _ 4 _ _ rz4
  have q5 := cell_of_row w4 _ 5 _ _ _ rz4
  have g5 := frozen_of_row w4 _ 5 _ _ rz4
  have q6 := cell_of_row w4 _ 6 _ _ _ rz4
  have g6 := frozen_of_row w4 _ 6 _ _ rz4
  have q7 := cell_of_row w4 _ 7 _ _ _ rz4
  have g7 := frozen_of_row w4 _ 7 _ _ rz4
  have q8 := cell_of_row w4 _ 8 _ _ _ rz4
  have g8 := frozen_of_row w4 _ 8 _ _ rz4
  have q9 := cell_of_row w4 _ 9 _ _ _ rz4
  have g9 := frozen_of_row w4 _ 9 _ _ rz4
  have lz := lt_of_row rz4
  have HP : Hid (Ps w4 b p c ws (wholeP ws s) ∧ Onl b w3 w4) := ⟨hP4, hO4⟩
  clear kw' hP4 hO4 hw3 rz3
  go_wp2
  refine bodyPost_ret (results_cell_row Tryz.results146 _ _ (w.heap.size + 1) 28 _ (0, 0) _ rfl (set10_row rz4 (.int .i64 kk) (.string ⟨#[]⟩) (.int .i64 0) (.bool false) (.int .i64 0) (.string ⟨#[]⟩) (.slice none 0 0) (.slice none 0 0) (.slice (some ⟨w.heap.size + 1 + 1, 0, none⟩) 1 1) (.slice none 0 0)) Tryz.underlying28 rfl (by kernel_rfl)) rfl ?_
  obtain ⟨H, L, hb3, rk3⟩ := HH.out
  obtain ⟨hP4, hO4⟩ := HP.out
  have hO : Onl b w (set10 w4 (w.heap.size + 1) (.int .i64 kk) (.string ⟨#[]⟩) (.int .i64 0) (.bool false) (.int .i64 0) (.string ⟨#[]⟩) (.slice none 0 0) (.slice none 0 0) (.slice (some ⟨w.heap.size + 1 + 1, 0, none⟩) 1 1) (.slice none 0 0)) := ((Onl.of hb3).trans hO4).set10 _ (by omega) _ _ _ _ _ _ _ _ _ _
  refine ⟨_, rfl, ?_, ?_, hO⟩
  · rw [← hkk] at hO ⊢
    refine LiesE.one (g := w.heap.size + 1 + 1) (hB.2 _ (by omega)) ((set10_other (by omega) _ _ _ _ _ _ _ _ _ _).trans ((hO4.block _ (by omega) (by omega)).trans rk3)) (L.since (Since.onl hO hB.1))
  · exact hP4.kept (z := w.heap.size + 1) (by omega) (fun g hg => by have := hold g hg; omega) (fun j hj => set10_other hj _ _ _ _ _ _ _ _ _ _) (Nat.le_of_eq (set10_size _ _ _ _ _ _ _ _ _ _ _ _).symm)
end Go.Proofs.YtcniebkehekliaaGreatDoor
