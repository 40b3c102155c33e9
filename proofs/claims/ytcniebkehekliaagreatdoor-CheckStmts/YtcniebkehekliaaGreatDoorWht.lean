/- A statement that Parse answered, opened: its expression and the expression's kids; and awake. -/
import Derived.Test.YtcniebkehekliaaGreatDoorPar
namespace Go.Proofs.YtcniebkehekliaaGreatDoor
open Go.RowKit Go.Shelf
attribute [local go_sem] Oper.semAt_some fw0 fw1 fw2
theorem LiesE.top {w : World} {S : Nat → Prop} {d : Nat} {t : Et} {R : XR} (h : LiesE w S d t (rowX R)) : R.k = ((t []).k : Int) ∧ R.s = (t []).s ∧ R.n = (t []).n := by
  obtain ⟨kp, kc, np, nc, e⟩ := h.form
  unfold rowX enV at e
  injection e with e
  have e' := congrArg Array.toList e
  simp only [List.cons.injEq, Value.int.injEq, Value.string.injEq, Value.slice.injEq] at e'
  obtain ⟨h1, h2, h3, h4, h5, h6, h7, h8, h9, h10⟩ := e'
  exact ⟨h1.2, h2, h9.2.1⟩
theorem LiesE.kids {w : World} {S : Nat → Prop} {d : Nat} {t : Et} {R : XR} (h : LiesE w S d t (rowX R)) (hn : (t []).n = 2) : ∃ g o, R.kp = some ⟨g, o, none⟩ ∧ g < w.heap.size ∧ 2 ≤ R.kc ∧
    w.cell? ⟨g, o + 1, none⟩ = some (.string (t [0]).s) ∧ (∃ q c, w.cell? ⟨g, o + 8, none⟩ = some (.slice q (t [0]).n c)) ∧
    w.cell? ⟨g, o + 10 + 1, none⟩ = some (.string (t [1]).s) ∧ (∃ q c, w.cell? ⟨g, o + 10 + 8, none⟩ = some (.slice q (t [1]).n c)) := by
  cases d with
  | zero => exact h.elim
  | succ d =>
    obtain ⟨kp, kc, np, nc, K, e, -, hK, hk⟩ := h
    unfold rowX enV at e
    injection e with e
    have e' := congrArg Array.toList e
    simp only [List.cons.injEq, Value.int.injEq, Value.string.injEq, Value.slice.injEq] at e'
    obtain ⟨h1, h2, h3, h4, h5, h6, h7, h8, h9, h10⟩ := e'
    obtain ⟨g, o, hp, -, hg, hc⟩ := hK.lies (by omega)
    have hcap := hK.cap.1
    have k0 := hk 0 (by omega)
    have k1 := hk 1 (by omega)
    obtain ⟨a0, b0, c0, d0, f0⟩ := k0.form
    obtain ⟨a1, b1, c1, d1, f1⟩ := k1.form
    unfold row10 enV at f0 f1
    injection f0 with f0
    injection f1 with f1
    have f0' := congrArg Array.toList f0
    have f1' := congrArg Array.toList f1
    simp only [List.cons.injEq] at f0' f1'
    refine ⟨g, o, by rw [h9.1, hp], hg, by rw [h9.2.2]; omega, ?_, ⟨a0, b0, ?_⟩, ?_, ⟨a1, b1, ?_⟩⟩
    · have := hc 0 (by omega) 1 (by omega)
      rw [f0'.2.1] at this
      simpa [Et.sub] using this
    · have := hc 0 (by omega) 8 (by omega)
      rw [f0'.2.2.2.2.2.2.2.2.1] at this
      simpa [Et.sub] using this
    · have := hc 1 (by omega) 1 (by omega)
      rw [f1'.2.1] at this
      simpa [Et.sub] using this
    · have := hc 1 (by omega) 8 (by omega)
      rw [f1'.2.2.2.2.2.2.2.2.1] at this
      simpa [Et.sub] using this
/- What Parse answered, kept in a variable. -/
theorem box30 {w w1 : World} {X : Sm × Nat × Nat} {R : SR} (hx : Sx w1 (fun k => w.heap.size ≤ k) R X.1) : ∃ w2, put (w1.alloc (.cells #[.int .i64 0, .string ⟨#[]⟩, .string ⟨#[]⟩, .int .i64 0, .string ⟨#[]⟩, .int .i64 0, .bool false, .int .i64 0, .string ⟨#[]⟩, .slice none 0 0, .slice none 0 0, .slice none 0 0, .slice none 0 0, .slice none 0 0, .slice none 0 0, .int .i64 0, .string ⟨#[]⟩, .int .i64 0, .bool false, .int .i64 0, .string ⟨#[]⟩, .slice none 0 0, .slice none 0 0, .slice none 0 0, .slice none 0 0, .slice none 0 0, .bool false, .bool false, .string ⟨#[]⟩, .bool false, .int .i64 (0)] 30)) w1.heap.size (stA R) = w2 ∧ (w1.alloc (.cells #[.int .i64 0, .string ⟨#[]⟩, .string ⟨#[]⟩, .int .i64 0, .string ⟨#[]⟩, .int .i64 0, .bool false, .int .i64 0, .string ⟨#[]⟩, .slice none 0 0, .slice none 0 0, .slice none 0 0, .slice none 0 0, .slice none 0 0, .slice none 0 0, .int .i64 0, .string ⟨#[]⟩, .int .i64 0, .bool false, .int .i64 0, .string ⟨#[]⟩, .slice none 0 0, .slice none 0 0, .slice none 0 0, .slice none 0 0, .slice none 0 0, .bool false, .bool false, .string ⟨#[]⟩, .bool false, .int .i64 (0)] 30)).heap[w1.heap.size]? = some (.cells zero31 30 (0, 0)) ∧ w2.heap[w1.heap.size]? = some (.cells (stA R) 30 (0, 0)) ∧ Below w1.heap.size w1 w2 ∧ Sx w2 (fun k => w.heap.size ≤ k) R X.1 := by
  refine ⟨_, rfl, heap_alloc_new _ _, put_row _ (heap_alloc_new _ _) rfl, put_below ((Below.refl _ w1).alloc (Nat.le_refl _) _) _ (Nat.le_refl _) _, ?_⟩
  exact hx.since (Since.below (put_below ((Below.refl _ w1).alloc (Nat.le_refl _) _) _ (Nat.le_refl _) _))
def awkL : List UInt8 := [68, 69, 76, 69, 84, 69, 32, 70, 82, 79, 77, 32, 116, 32, 87, 72, 69, 82, 69, 32, 97, 32, 61, 32, 49, 32, 79, 82, 32, 98, 32, 61, 32, 50, 32, 65, 78, 68, 32, 78, 79, 84, 32, 99]
theorem awk0 : (parF awkL).2.2 = 0 := by decide +kernel
theorem awk1 : (parF awkL).1.k = 5 := by decide +kernel
theorem awk2 : ((parF awkL).1.wh []).s.data.toList = [79, 82] := by decide +kernel
theorem awk3 : ((parF awkL).1.wh []).n = 2 := by decide +kernel
theorem awk4 : ((parF awkL).1.wh [1]).s.data.toList = [65, 78, 68] := by decide +kernel
end Go.Proofs.YtcniebkehekliaaGreatDoor
