/- How a slice of pairs of numbers, handed in, is read: its length, and of each place the two numbers. -/
import Derived.Test.YtmijbflgfbfbiaaRows
import Derived.WalkKit
import Derived.ProofKit
import Derived.OpenShut
import Derived.ShutString
import Derived.Deep.SlicePairs
namespace Go.Proofs.Ytmijbflgfbfbiaa
open Go.ChangeShapes Go.WideShapes Go.ChangeAt Go.RowKit Go.Deep
theorem laidOut : laidOutB Try.prog = true := by kernel_rfl
theorem cells_slice {W : World} {r : Reach} {b0 : Nat} {v : Value} {a : Option Addr} {n c : Nat} (hv : Value.okWide Try.prog W r b0 41 v) (h : v.cells.toList = [.slice a n c]) : v = .slice a n c := by
  simp only [Value.okWide, Try.underlying41, Cell.okWide] at hv
  cases v <;> simp_all [Value.cells, Cell.ok, Try.underlying41]
theorem block_lt {W : World} {x : Addr} {v : Value} (h : W.cell? x = some v) : x.block < W.heap.size := by
  rcases Nat.lt_or_ge x.block W.heap.size with k | k
  · exact k
  · unfold World.cell? at h
    rw [Array.getElem?_eq_none k] at h
    cases h
theorem open_acts {H : Type} {enc : TypeId × Value → H} {W : World} {r : Reach} {b0 : Nat} {v : Value} {d : DataW H} {p : List MemPlace}
    (hv : Value.okWide Try.prog W r b0 41 v) (h : DataW.Trod enc Try.prog W 0 (fun _ => true) true 41 v d p) :
    (∃ (a : Option Addr) (cap : Nat), v = .slice a 0 cap) ∨
    ∃ (g q len cap : Nat) (K N : Nat → Int), v = .slice (some ⟨g, q, none⟩) len cap ∧ len ≤ cap ∧ cap ≤ maxLen ∧ g < W.heap.size ∧
      (∀ i, i < len → W.cell? ⟨g, q + i * 2, none⟩ = some (.int .i64 (K i))) ∧ (∀ i, i < len → W.cell? ⟨g, q + i * 2 + 1, none⟩ = some (.int .i64 (N i))) ∧ (∀ i, i < len → N i < 9223372036854775808) := by
  obtain ⟨fuel, hf⟩ := h
  rcases open_slice_pairs (P := Try.prog) Try.underlying41 Try.underlying43 (by kernel_rfl) rfl rfl (by kernel_rfl) (by kernel_rfl) hf with ⟨hc, hx⟩ | ⟨a, len, cap, m, k, V0, V1, D0, D1, P0, P1, hc, _, hl, hm, hmm, hx, hall⟩
  · exact Or.inl ⟨none, 0, cells_slice hv hc⟩
  · have hv' := cells_slice hv hc
    simp only [if_true] at hmm
    subst hmm
    cases len with
    | zero => exact Or.inl ⟨some a, m, hv'⟩
    | succ len =>
      right
      obtain ⟨g, q, spot⟩ := a
      have hspot : spot = none := by simpa [Addr.add] using World.cell?_spot (hall 0 (by omega)).1
      subst hspot
      have hadd : ∀ n, (⟨g, q, none⟩ : Addr).add n = ⟨g, q + n, none⟩ := fun n => by unfold Addr.add; split <;> simp_all
      have h0 : ∀ i, i < m → ∃ x, V0 i = .int .i64 x := fun i hi => by
        obtain ⟨x, h1, _, _⟩ := DataW.trod_int Try.underlying3 (hall i hi).2.2.1
        simp only [List.cons.injEq, and_true] at h1
        exact ⟨x, h1⟩
      have h1 : ∀ i, i < m → ∃ x, V1 i = .int .i64 x ∧ x < 9223372036854775808 := fun i hi => by
        obtain ⟨x, h1, _, h3⟩ := DataW.trod_int Try.underlying3 (hall i hi).2.2.2
        simp only [List.cons.injEq, and_true] at h1
        have := bounds_i64 h3
        exact ⟨x, h1, by omega⟩
      refine ⟨g, q, len + 1, m, fun i => intOf (V0 i), fun i => intOf (V1 i), hv', hl, hm, ?_, ?_, ?_, ?_⟩
      · have := block_lt (hall 0 (by omega)).1
        rw [hadd] at this
        exact this
      · intro i hi
        have := (hall i (by omega)).1
        obtain ⟨x, hx0⟩ := h0 i (by omega)
        rw [hadd, hx0] at this
        show _ = some (Value.int .i64 (intOf (V0 i)))
        rw [this, hx0]
        rfl
      · intro i hi
        have := (hall i (by omega)).2.1
        obtain ⟨x, hx1, _⟩ := h1 i (by omega)
        rw [hadd, hx1] at this
        show _ = some (Value.int .i64 (intOf (V1 i)))
        rw [Nat.add_assoc, this, hx1]
        rfl
      · intro i hi
        obtain ⟨x, hx1, hb⟩ := h1 i (by omega)
        show intOf (V1 i) < _
        rw [hx1]
        exact hb
end Go.Proofs.Ytmijbflgfbfbiaa
