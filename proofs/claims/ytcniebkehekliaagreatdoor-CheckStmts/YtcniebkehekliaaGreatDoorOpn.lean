/- How a slice of strings that is handed in is read. -/
import Derived.Test.YtcniebkehekliaaGreatDoorShr
import Derived.Test.YtcniebkehekliaaGreatDoorExt
import Derived.Deep.Strs
namespace Go.Proofs.YtcniebkehekliaaGreatDoor
open Go.ChangeShapes Go.WideShapes Go.ChangeAt Go.WideMaps Go.WideElems Go.RowKit Go.Deep
theorem laidOut : laidOutB Tryz.prog = true := by kernel_rfl
theorem cell_lt {w : World} {b o : Nat} {v : Value} (h : w.cell? ⟨b, o, none⟩ = some v) : b < w.heap.size := by
  apply Classical.byContradiction
  intro hn
  have h0 : w.heap[b]? = none := Array.getElem?_eq_none (by omega)
  simp [World.cell?, h0] at h
set_option maxRecDepth 100000 in
theorem cells_slice {W : World} {r : Reach} {b0 : Nat} {v : Value} {a : Option Addr} {n c : Nat} (hv : Value.okWide Tryz.prog W r b0 23 v) (h : v.cells.toList = [.slice a n c]) : v = .slice a n c := by
  simp only [Value.okWide, Tryz.underlying23, Cell.okWide] at hv
  cases v <;> simp_all [Value.cells, Cell.ok, Tryz.underlying23]
set_option maxRecDepth 100000 in
theorem open_list {H : Type} {enc : TypeId × Value → H} {W : World} {r : Reach} {b0 : Nat} {v : Value} {d : DataW H} {p : List MemPlace}
    (hv : Value.okWide Tryz.prog W r b0 23 v) (h : DataW.Trod enc Tryz.prog W 0 (fun _ => true) true 23 v d p) :
    ∃ (a : Option Addr) (n cap : Nat) (g : Nat → ByteArray), v = .slice a n cap ∧ (∀ i, i < n → (g i).size ≤ maxLen) ∧ Nms W (fun _ => True) a n cap g := by
  obtain ⟨fuel, hf⟩ := h
  rcases open_strs (P := Tryz.prog) Tryz.underlying23 Tryz.underlying9 (by kernel_rfl) hf with ⟨hc, _⟩ | ⟨a, len, cap, m, S, hc, _, hl, hm, hmm, _, hall⟩
  · exact ⟨none, 0, 0, fun _ => ⟨#[]⟩, cells_slice hv hc, fun i hi => absurd hi (Nat.not_lt_zero _), Nms.none _ _ _⟩
  · have hv' := cells_slice hv hc
    simp only [if_true] at hmm
    subst hmm
    refine ⟨some a, len, m, S, hv', fun i hi => (hall i (by omega)).2, ⟨by omega, by omega⟩, fun h0 => ?_⟩
    obtain ⟨g, q, spot⟩ := a
    have hspot : spot = none := by simpa [Addr.add] using World.cell?_spot (hall 0 (by omega)).1
    subst hspot
    have hcell : ∀ i, i < len → W.cell? ⟨g, q + i, none⟩ = some (.string (S i)) := fun i hi => by
      have hadd : (⟨g, q, none⟩ : Addr).add i = ⟨g, q + i, none⟩ := by unfold Addr.add; split <;> simp_all
      have h1 := (hall i (by omega)).1
      rw [hadd] at h1
      exact h1
    refine ⟨g, q, rfl, trivial, ?_, hcell⟩
    have h1 := hcell 0 h0
    exact cell_lt h1
end Go.Proofs.YtcniebkehekliaaGreatDoor
