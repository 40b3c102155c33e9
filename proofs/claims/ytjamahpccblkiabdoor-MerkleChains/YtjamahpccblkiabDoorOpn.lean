/- How a slice of strings, and a way, that are handed in are read. -/
import Derived.Test.YtjamahpccblkiabDoorShr
import Derived.Deep.Strs
import Derived.Deep.Fields
namespace Go.Proofs.YtjamahpccblkiabDoor
open Go.ChangeShapes Go.WideShapes Go.ChangeAt Go.WideMaps Go.WideElems Go.RowKit Go.Deep
theorem add_at (g q n : Nat) : (⟨g, q, none⟩ : Addr).add n = ⟨g, q + n, none⟩ := by unfold Addr.add; split <;> simp_all
theorem open_cells {H : Type} {enc : TypeId × Value → H} {W : World} {fuel : Nat} {cs : List Value} {x : DataW H × List MemPlace}
    (h : DataW.trod enc Tryd.prog W 0 (fun _ => true) true fuel 22 cs = some x) :
    ∃ (p : Option Addr) (n c : Nat) (g : Nat → ByteArray), cs = [.slice p n c] ∧ Strs W p n c g ∧ ∀ i, i < n → (g i).size ≤ maxLen := by
  rcases open_strs (P := Tryd.prog) Tryd.underlying22 Tryd.underlying9 (by kernel_rfl) h with ⟨rfl, _⟩ | ⟨a, len, cap, m, S, rfl, _, hl, hm, hmm, _, hall⟩
  · exact ⟨none, 0, 0, fun _ => ⟨#[]⟩, rfl, ⟨by unfold maxLen; omega, fun h0 => absurd h0 (Nat.lt_irrefl _)⟩, fun i hi => absurd hi (Nat.not_lt_zero _)⟩
  · simp only [if_true] at hmm
    subst hmm
    refine ⟨some a, len, m, S, rfl, ⟨⟨hl, hm⟩, fun h0 => ?_⟩, fun i hi => (hall i (by omega)).2⟩
    obtain ⟨g, q, spot⟩ := a
    have hspot : spot = none := by simpa [Addr.add] using World.cell?_spot (hall 0 (by omega)).1
    subst hspot
    refine ⟨g, q, rfl, ?_, fun i hi => ?_⟩
    · have := World.block_lt_of_cell? W _ (hall 0 (by omega)).1
      rw [add_at] at this
      exact this
    · have := (hall i (by omega)).1
      rw [add_at] at this
      exact this
theorem cells_slice {W : World} {r : Reach} {b0 : Nat} {v : Value} {a : Option Addr} {n c : Nat} (hv : Value.okWide Tryd.prog W r b0 22 v) (h : v.cells.toList = [.slice a n c]) : v = .slice a n c := by
  simp only [Value.okWide, Tryd.underlying22, Cell.okWide] at hv
  cases v <;> simp_all [Value.cells, Cell.ok, Tryd.underlying22]
theorem open_list {H : Type} {enc : TypeId × Value → H} {W : World} {r : Reach} {b0 : Nat} {v : Value} {d : DataW H} {p : List MemPlace}
    (hv : Value.okWide Tryd.prog W r b0 22 v) (h : DataW.Trod enc Tryd.prog W 0 (fun _ => true) true 22 v d p) :
    ∃ (a : Option Addr) (n c : Nat) (g : Nat → ByteArray), v = .slice a n c ∧ Strs W a n c g ∧ ∀ i, i < n → (g i).size ≤ maxLen := by
  obtain ⟨fuel, hf⟩ := h
  obtain ⟨a, n, c, g, h1, h2, h3⟩ := open_cells hf
  exact ⟨a, n, c, g, cells_slice hv h1, h2, h3⟩
theorem some_of {α : Type} {l : List α} {i : Nat} (h : i < l.length) : ∃ x, l[i]? = some x := ⟨l[i], List.getElem?_eq_getElem h⟩
theorem five_of {l : List Value} (h : l.length = 5) : ∃ a b c d e, l = [a, b, c, d, e] := by
  match l, h with
  | [a, b, c, d, e], _ => exact ⟨a, b, c, d, e, rfl⟩
end Go.Proofs.YtjamahpccblkiabDoor
