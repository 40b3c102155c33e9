/- A statement that Parse answered, opened: its expression and the expression's kids; and awake. -/
import Derived.Test.YthgagldpjledgaaGreatDoorPar
namespace Go.Proofs.YthgagldpjledgaaGreatDoor
open Go.RowKit Go.Shelf
attribute [local go_sem] Oper.semAt_some fw0 fw1 fw2
theorem LiesE.top {w : World} {S : Nat → Prop} {d : Nat} {t : Et} {R : XR} (h : LiesE w S d t (rowX R)) : R.k = ((t []).k : Int) ∧ R.s = (t []).s ∧ R.n = (t []).n := by
  obtain ⟨kp, kc, np, nc, e⟩ := h.form
  unfold rowX enV at e
  injection e with e
  have e' := congrArg Array.toList e
  simp only [List.cons.injEq, Value.int.injEq, Value.string.injEq, Value.slice.injEq] at e'
  obtain ⟨h1, h2, h3, h4, h5, h6, h7, h8, h9, h10⟩ := e'
  exact ⟨h1.2, h2, h9.2.1⟩
theorem LiesE.kids {w : World} {S : Nat → Prop} {d : Nat} {t : Et} {R : XR} (h : LiesE w S d t (rowX R)) (hn : (t []).n = 2) : ∃ g o, R.kp = some ⟨g, o, none⟩ ∧ g < w.heap.size ∧ 2 ≤ R.kc ∧
    w.cell? ⟨g, o + 1, none⟩ = some (.string (t [0]).s) ∧ (∃ q c, w.cell? ⟨g, o + 8, none⟩ = some (.slice q (t [0]).n c)) ∧
    w.cell? ⟨g, o + 10 + 1, none⟩ = some (.string (t [1]).s) ∧ (∃ q c, w.cell? ⟨g, o + 10 + 8, none⟩ = some (.slice q (t [1]).n c)) := by
  cases d with
  | zero => exact h.elim
  | succ d =>
    obtain ⟨kp, kc, np, nc, K, e, -, hK, hk⟩ := h
    unfold rowX enV at e
    injection e with e
    have e' := congrArg Array.toList e
    simp only [List.cons.injEq, Value.int.injEq, Value.string.injEq, Value.slice.injEq] at e'
    obtain ⟨h1, h2, h3, h4, h5, h6, h7, h8, h9, h10⟩ := e'
    obtain ⟨g, o, hp, -, hg, hc⟩ := hK.lies (by omega)
    have hcap := hK.cap.1
    have k0 := hk 0 (by omega)
    have k1 := hk 1 (by omega)
    obtain ⟨a0, b0, c0, d0, f0⟩ := k0.form
    obtain ⟨a1, b1, c1, d1, f1⟩ := k1.form
    unfold row10 enV at f0 f1
    injection f0 with f0
    injection f1 with f1
    have f0' := congrArg Array.toList f0
    have f1' := congrArg Array.toList f1
    simp only [List.cons.injEq] at f0' f1'
    refine ⟨g, o, by rw [h9.1, hp], hg, by rw [h9.2.2]; omega, ?_, ⟨a0, b0, ?_⟩, ?_, ⟨a1, b1, ?_⟩⟩
    · have := hc 0 (by omega) 1 (by omega)
      rw [f0'.2.1] at this
      simpa [Et.sub] using this
    · have := hc 0 (by omega) 8 (by omega)
      rw [f0'.2.2.2.2.2.2.2.2.1] at this
      simpa [Et.sub] using this
    · have := hc 1 (by omega) 1 (by omega)
      rw [f1'.2.1] at this
      simpa [Et.sub] using this
    · have := hc 1 (by omega) 8 (by omega)
      rw [f1'.2.2.2.2.2.2.2.2.1] at this
      simpa [Et.sub] using this
/- What Parse answered, kept in a variable. -/
theorem box30 {w w1 : World} {X : Sm × Nat × Nat} {R : SR} (hx : Sx w1 (fun k => w.heap.size ≤ k) R X.1) : ∃ w2, put (w1.alloc (.cells #[.int .i64 0, .string ⟨#[]⟩, .string ⟨#[]⟩, .int .i64 0, .string ⟨#[]⟩, .int .i64 0, .bool false, .int .i64 0, .string ⟨#[]⟩, .slice none 0 0, .slice none 0 0, .slice none 0 0, .slice none 0 0, .slice none 0 0, .slice none 0 0, .int .i64 0, .string ⟨#[]⟩, .int .i64 0, .bool false, .int .i64 0, .string ⟨#[]⟩, .slice none 0 0, .slice none 0 0, .slice none 0 0, .slice none 0 0, .slice none 0 0, .bool false, .bool false, .string ⟨#[]⟩, .bool false, .int .i64 (0)] 30)) w1.heap.size (stA R) = w2 ∧ (w1.alloc (.cells #[.int .i64 0, .string ⟨#[]⟩, .string ⟨#[]⟩, .int .i64 0, .string ⟨#[]⟩, .int .i64 0, .bool false, .int .i64 0, .string ⟨#[]⟩, .slice none 0 0, .slice none 0 0, .slice none 0 0, .slice none 0 0, .slice none 0 0, .slice none 0 0, .int .i64 0, .string ⟨#[]⟩, .int .i64 0, .bool false, .int .i64 0, .string ⟨#[]⟩, .slice none 0 0, .slice none 0 0, .slice none 0 0, .slice none 0 0, .slice none 0 0, .bool false, .bool false, .string ⟨#[]⟩, .bool false, .int .i64 (0)] 30)).heap[w1.heap.size]? = some (.cells zero31 30 (0, 0)) ∧ w2.heap[w1.heap.size]? = some (.cells (stA R) 30 (0, 0)) ∧ Below w1.heap.size w1 w2 ∧ Sx w2 (fun k => w.heap.size ≤ k) R X.1 := by
  refine ⟨_, rfl, heap_alloc_new _ _, put_row _ (heap_alloc_new _ _) rfl, put_below ((Below.refl _ w1).alloc (Nat.le_refl _) _) _ (Nat.le_refl _) _, ?_⟩
  exact hx.since (Since.below (put_below ((Below.refl _ w1).alloc (Nat.le_refl _) _) _ (Nat.le_refl _) _))
def awkL : List UInt8 := [68, 69, 76, 69, 84, 69, 32, 70, 82, 79, 77, 32, 116, 32, 87, 72, 69, 82, 69, 32, 97, 32, 61, 32, 49, 32, 79, 82, 32, 98, 32, 61, 32, 50, 32, 65, 78, 68, 32, 78, 79, 84, 32, 99]
theorem awk0 : (parF awkL).2.2 = 0 := by decide +kernel
theorem awk1 : (parF awkL).1.k = 5 := by decide +kernel
theorem awk2 : ((parF awkL).1.wh []).s.data.toList = [79, 82] := by decide +kernel
theorem awk3 : ((parF awkL).1.wh []).n = 2 := by decide +kernel
theorem awk4 : ((parF awkL).1.wh [1]).s.data.toList = [65, 78, 68] := by decide +kernel
set_option maxRecDepth 100000 in
set_option maxHeartbeats 4000000 in
theorem awake_any (w : World) (he : Ev w) : Calls Tryz.prog 10 #[] w fun r w' => r = .returned (.bool true) ∧ Below w.heap.size w w' := by
  have k1 := parse_text ⟨awkL.toArray⟩ (by decide) w he
  have e0 : (⟨awkL.toArray⟩ : ByteArray).data.toList = awkL := rfl
  rw [e0] at k1
  have a0 := awk0
  have a1 := awk1
  have a2 := awk2
  have a3 := awk3
  have a4 := awk4
  obtain ⟨X, hX⟩ : ∃ X, parF awkL = X := ⟨_, rfl⟩
  rw [hX] at k1 a0 a1 a2 a3 a4
  have HX : Hid (X.1.k = 5 ∧ ((X.1.wh []).s = ⟨#[79, 82]⟩) ∧ (X.1.wh []).n = 2 ∧ (X.1.wh [1]).s = ⟨#[65, 78, 68]⟩) := ⟨a1, ba_of a2, a3, ba_of a4⟩
  unfold awkL at k1
  clear hX a1 a2 a3 a4 e0 he
  go_enter Tryz.func10, Tryz.ntmps10
  go_wp2_with fail
  refine k1.mono ?_
  rintro q w1 ⟨R, rfl, hx, hb1⟩
  rw [a0]
  obtain ⟨w2, hw2, ra, r2, hb2, hx2⟩ := box30 (w := w) hx
  obtain ⟨d, hd⟩ := hx2.wh
  obtain ⟨b1, b2, b3, b4⟩ := HX.out
  obtain ⟨t1, t2, t3⟩ := hd.top
  obtain ⟨g, o, hp, hg, hc, c1, -, c3, -⟩ := hd.kids b3
  have tk := hx2.k
  rw [b1] at tk
  rw [b2] at t2
  rw [b3] at t3
  rw [b4] at c3
  have q0 : w2.cell? ⟨w1.heap.size, 0, none⟩ = some (.int .i64 5) := by rw [cell_of_row w2 _ 0 _ _ _ r2]; show some (Value.int .i64 R.k) = _; rw [tk]; rfl
  have q16 : w2.cell? ⟨w1.heap.size, 16, none⟩ = some (.string ⟨#[79, 82]⟩) := by rw [cell_of_row w2 _ 16 _ _ _ r2]; show some (Value.string R.wh.s) = _; rw [t2]
  have q23 : w2.cell? ⟨w1.heap.size, 23, none⟩ = some (.slice (some ⟨g, o, none⟩) 2 R.wh.kc) := by rw [cell_of_row w2 _ 23 _ _ _ r2]; show some (Value.slice R.wh.kp R.wh.n R.wh.kc) = _; rw [hp, t3]
  have HB : Hid (Below w.heap.size w w2 ∧ (w1.alloc (.cells #[.int .i64 0, .string ⟨#[]⟩, .string ⟨#[]⟩, .int .i64 0, .string ⟨#[]⟩, .int .i64 0, .bool false, .int .i64 0, .string ⟨#[]⟩, .slice none 0 0, .slice none 0 0, .slice none 0 0, .slice none 0 0, .slice none 0 0, .slice none 0 0, .int .i64 0, .string ⟨#[]⟩, .int .i64 0, .bool false, .int .i64 0, .string ⟨#[]⟩, .slice none 0 0, .slice none 0 0, .slice none 0 0, .slice none 0 0, .slice none 0 0, .bool false, .bool false, .string ⟨#[]⟩, .bool false, .int .i64 (0)] 30)).heap[w1.heap.size]? = some (.cells zero31 30 (0, 0)) ∧ (stA R).all (·.oneCell') = true) := ⟨hb1.trans (hb2.mono hb1.size), ra, hx.ones⟩
  obtain ⟨A, hA⟩ : ∃ A, stA R = A := ⟨_, rfl⟩
  have h31 : Hid (A.size = 31) := by
    have h : A.size = 31 := by rw [← hA]; rfl
    exact h
  rw [hA] at HB hw2 ⊢
  clear k1 hx hb1 ra r2 hb2 hx2 hd b1 b2 b3 b4 t1 t2 t3 tk hp hA
  go_wp2_with (first | (refine wpList_put rfl 30 (.tmp 1) (.tmp 6) rfl rfl rfl rfl HB.out.2.1 h31.out (info30.trans (congrArg some h31.out.symm)) HB.out.2.2 ?_; rw [hw2]) | fail)
  go_ret
  exact ⟨rfl, HB.out.1⟩
end Go.Proofs.YthgagldpjledgaaGreatDoor
