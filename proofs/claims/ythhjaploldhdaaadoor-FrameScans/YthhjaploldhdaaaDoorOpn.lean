/- How a slice of strings, and an array of two numbers, that are handed in are read. -/
import Derived.Test.YthhjaploldhdaaaDoorShr
import Derived.Deep.Strs
namespace Go.Proofs.YthhjaploldhdaaaDoor
open Go.ChangeShapes Go.WideShapes Go.ChangeAt Go.WideMaps Go.WideElems Go.RowKit Go.Deep
theorem cells_slice {W : World} {r : Reach} {b0 : Nat} {v : Value} {a : Option Addr} {n c : Nat} (hv : Value.okWide Tryd.prog W r b0 27 v) (h : v.cells.toList = [.slice a n c]) : v = .slice a n c := by
  simp only [Value.okWide, Tryd.underlying27, Cell.okWide] at hv
  cases v <;> simp_all [Value.cells, Cell.ok, Tryd.underlying27]
theorem open_list {H : Type} {enc : TypeId × Value → H} {W : World} {r : Reach} {b0 : Nat} {v : Value} {d : DataW H} {p : List MemPlace}
    (hv : Value.okWide Tryd.prog W r b0 27 v) (h : DataW.Trod enc Tryd.prog W 0 (fun _ => true) true 27 v d p) :
    ∃ (a : Option Addr) (cap : Nat) (xs : List ByteArray), v = .slice a xs.length cap ∧ xs.length ≤ maxLen ∧
      (0 < xs.length → ∃ g q, a = some ⟨g, q, none⟩ ∧ ∀ i, i < xs.length → W.cell? ⟨g, q + i, none⟩ = some (.string (xs.getD i ByteArray.empty))) := by
  obtain ⟨fuel, hf⟩ := h
  rcases open_strs (P := Tryd.prog) Tryd.underlying27 Tryd.underlying9 (by kernel_rfl) hf with ⟨hc, _⟩ | ⟨a, len, cap, m, S, hc, _, hl, hm, hmm, _, hall⟩
  · exact ⟨none, 0, [], cells_slice hv hc, by simp, fun h => absurd h (by simp)⟩
  · have hv' := cells_slice hv hc
    simp only [if_true] at hmm
    subst hmm
    refine ⟨some a, m, (List.range len).map S, by simpa using hv', by simp; omega, fun h0 => ?_⟩
    have h0' : 0 < len := by simpa using h0
    obtain ⟨g, q, spot⟩ := a
    have hspot : spot = none := by simpa [Addr.add] using World.cell?_spot (hall 0 (by omega)).1
    subst hspot
    refine ⟨g, q, rfl, fun i hi => ?_⟩
    have hi' : i < len := by simpa using hi
    have hadd : (⟨g, q, none⟩ : Addr).add i = ⟨g, q + i, none⟩ := by unfold Addr.add; split <;> simp_all
    have h1 := (hall i (by omega)).1
    rw [hadd] at h1
    rw [h1]
    simp [List.getD_eq_getElem?_getD, hi']
theorem open_two {H : Type} {enc : TypeId × Value → H} {W : World} {r : Reach} {b0 base : Nat} {spare : Nat → Bool} {held : Bool} {v : Value} {d : DataW H} {p : List MemPlace}
    (hv : Value.okWide Tryd.prog W r b0 28 v) (h : DataW.Trod enc Tryd.prog W base spare held 28 v d p) :
    ∃ x y : Int, v = .agg #[.int .i64 x, .int .i64 y] ∧ (-9223372036854775808 ≤ x ∧ x ≤ 9223372036854775807) ∧ (-9223372036854775808 ≤ y ∧ y ≤ 9223372036854775807) := by
  simp only [Value.okWide, Tryd.underlying28] at hv
  obtain ⟨cs, rfl, hsz, _⟩ := hv
  obtain ⟨fuel, hf⟩ := h
  obtain ⟨xs, m, rfl, _, hlen, hxs, hel⟩ := DataW.trod_array Tryd.underlying28 hf
  have c3 : Tryd.prog.cellsOf 3 = 1 := by kernel_rfl
  have c28 : Tryd.prog.cellsOf 28 = 2 := by kernel_rfl
  rw [c28] at hsz
  have one : ∀ i, i < 2 → ∃ x : Int, cs[i]? = some (.int .i64 x) ∧ (-9223372036854775808 ≤ x ∧ x ≤ 9223372036854775807) := by
    intro i hi
    have h1 := hel i hi
    rw [c3] at h1
    obtain ⟨y, hy⟩ : ∃ y, xs[i]? = some y := ⟨_, List.getElem?_eq_getElem (by omega)⟩
    rw [hy] at h1
    obtain ⟨k, e1, _, e3⟩ := DataW.trod_int Tryd.underlying3 h1
    have hb := bounds_i64 e3
    refine ⟨k, ?_, by omega⟩
    have e2 : (Value.agg cs).cells.toList[i]? = some (.int .i64 k) := by
      have := congrArg (·[0]?) e1
      simpa [List.getElem?_take, List.getElem?_drop] using this
    simpa [Value.cells] using e2
  obtain ⟨x, hx, bx⟩ := one 0 (by omega)
  obtain ⟨y, hy, by_⟩ := one 1 (by omega)
  refine ⟨x, y, ?_, bx, by_⟩
  congr 1
  apply Array.ext_getElem?
  intro i
  by_cases hi : i < 2
  · rcases (show i = 0 ∨ i = 1 by omega) with rfl | rfl
    · rw [hx]; rfl
    · rw [hy]; rfl
  · rw [Array.getElem?_eq_none (by omega), Array.getElem?_eq_none (by simp; omega)]
end Go.Proofs.YthhjaploldhdaaaDoor
