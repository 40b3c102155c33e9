/- How three numbers that are handed in are read. -/
import Derived.Test.YtfcenidepkjdcaaDoorXau
namespace Go.Proofs.YtfcenidepkjdcaaDoor
open Go.ChangeShapes Go.WideShapes Go.ChangeAt Go.RowKit Go.Deep
theorem three_of {l : List Value} (h : l.length = 3) : ∃ c0 c1 c2, l = [c0, c1, c2] := by
  match l, h with
  | [c0, c1, c2], _ => exact ⟨c0, c1, c2, rfl⟩
set_option maxRecDepth 100000 in
theorem open_three {H : Type} {enc : TypeId × Value → H} {W : World} {r : Reach} {b0 : Nat} {v : Value} {d : DataW H} {p : List MemPlace}
    (hv : Value.okWide Tryd.prog W r b0 46 v) (h : DataW.Trod enc Tryd.prog W 0 (fun _ => true) true 46 v d p) : ∃ na nb nc, v = .agg #[.int .i64 na, .int .i64 nb, .int .i64 nc] ∧ (-9223372036854775808 ≤ na ∧ na < 9223372036854775808) ∧ (-9223372036854775808 ≤ nb ∧ nb < 9223372036854775808) ∧ (-9223372036854775808 ≤ nc ∧ nc < 9223372036854775808) := by
  simp only [Value.okWide, Tryd.underlying46] at hv
  obtain ⟨cs, rfl, hsz, _⟩ := hv
  obtain ⟨fuel, hf⟩ := h
  obtain ⟨xs, m, rfl, _, hlen, hxs, hel⟩ := DataW.trod_array Tryd.underlying46 hf
  have c2 : Tryd.prog.cellsOf 2 = 1 := by kernel_rfl
  have c46 : Tryd.prog.cellsOf 46 = 3 := by kernel_rfl
  rw [c46] at hsz
  obtain ⟨x0, x1, x2, hl⟩ := three_of (l := cs.toList) (by simpa using hsz)
  obtain rfl : cs = #[x0, x1, x2] := Array.ext' hl
  have one : ∀ i, i < 3 → ∃ k : Int, List.take 1 (List.drop (i * 1) [x0, x1, x2]) = [.int .i64 k] ∧ -9223372036854775808 ≤ k ∧ k < 9223372036854775808 := by
    intro i hi
    have h1 := hel i hi
    rw [c2] at h1
    have hx : ∃ y, xs[i]? = some y := ⟨_, List.getElem?_eq_getElem (by omega)⟩
    obtain ⟨y, hy⟩ := hx
    rw [hy] at h1
    obtain ⟨k, e1, _, e3⟩ := DataW.trod_int Tryd.underlying2 h1
    have := bounds_i64 e3
    exact ⟨k, e1, by omega, by omega⟩
  obtain ⟨k0, e0, b0⟩ := one 0 (by omega)
  obtain ⟨k1, e1, b1⟩ := one 1 (by omega)
  obtain ⟨k2, e2, b2⟩ := one 2 (by omega)
  simp at e0 e1 e2
  subst e0 e1 e2
  exact ⟨k0, k1, k2, rfl, b0, b1, b2⟩
end Go.Proofs.YtfcenidepkjdcaaDoor
