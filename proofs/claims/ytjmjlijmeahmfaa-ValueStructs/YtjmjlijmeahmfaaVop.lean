/- How a list of texts, and one of values, that is handed in is read. -/
import Derived.Test.YtjmjlijmeahmfaaOpenv
namespace Go.Proofs.Ytjmjlijmeahmfaa
open Go.ChangeShapes Go.WideShapes Go.ChangeAt Go.RowKit Go.Deep
set_option maxRecDepth 100000 in
theorem open_texts {H : Type} {enc : TypeId × Value → H} {W : World} {r : Reach} {b0 : Nat} {v : Value} {d : DataW H} {p : List MemPlace}
    (hv : Value.okWide Try.prog W r b0 23 v) (h : DataW.Trod enc Try.prog W 0 (fun _ => true) true 23 v d p) :
    ∃ (na : Option Addr) (q nc : Nat) (g : Nat → ByteArray), v = .slice na q nc ∧ Names W.heap.size W q g na nc := by
  have hsl : ∀ {a : Option Addr} {n c : Nat}, v.cells.toList = [.slice a n c] → v = .slice a n c := by
    intro a n c h
    simp only [Value.okWide, Try.underlying23, Cell.okWide] at hv
    cases v <;> simp_all [Value.cells, Cell.ok, Try.underlying23]
  obtain ⟨fuel, hf⟩ := h
  obtain ⟨na, q, nc, g, e, hN⟩ := open_names hf
  exact ⟨na, q, nc, g, hsl e, hN⟩
set_option maxRecDepth 100000 in
theorem open_values {H : Type} {enc : TypeId × Value → H} {W : World} {r : Reach} {b0 : Nat} {v : Value} {d : DataW H} {p : List MemPlace}
    (hv : Value.okWide Try.prog W r b0 22 v) (h : DataW.Trod enc Try.prog W 0 (fun _ => true) true 22 v d p) :
    ∃ (pa : Option Addr) (m pc : Nat) (F : Nat → Tr) (X : Nat → Ad), v = .slice pa m pc ∧ (m ≤ pc ∧ pc ≤ maxLen) ∧ (0 < m → ∃ b o, pa = some ⟨b, o, none⟩ ∧ b < W.heap.size ∧ ∀ i, i < m → At6 W b (o + i * 6) (F i) (X i)) ∧ ∀ i, i < m → Lies W.heap.size W (F i) (X i) := by
  have hsl : ∀ {a : Option Addr} {n c : Nat}, v.cells.toList = [.slice a n c] → v = .slice a n c := by
    intro a n c h
    simp only [Value.okWide, Try.underlying22, Cell.okWide] at hv
    cases v <;> simp_all [Value.cells, Cell.ok, Try.underlying22]
  obtain ⟨fuel, hf⟩ := h
  have hc25 : Try.prog.cellsOf 25 = 6 := by kernel_rfl
  rcases DataW.trod_slice Try.underlying22 hf with ⟨e, _⟩ | ⟨a, len, cap, elems, rest, n', _, e, _, _, hle, hcap, hel, hall, _, _⟩
  · exact ⟨none, 0, 0, fun _ => .no, fun _ => ⟨none, 0, none, 0⟩, hsl e, ⟨Nat.le_refl _, Nat.zero_le _⟩, fun h0 => absurd h0 (Nat.lt_irrefl _), fun i hi => absurd hi (Nat.not_lt_zero i)⟩
  · rw [hc25] at hall
    have each : ∀ i, i < len → ∃ y : Tr × Ad, W.cells? 0 (a.add (i * 6)) 6 = some (y.1.cs y.2) ∧ Lies W.heap.size W y.1 y.2 := by
      intro i hi
      have hi' := hall i hi
      rw [List.getElem?_eq_getElem (by omega)] at hi'
      obtain ⟨cs', h1, h2⟩ := Option.bind_eq_some_iff.1 hi'
      obtain ⟨t, A, rfl, hL⟩ := open_tree n' h2
      exact ⟨(t, A), h1, hL⟩
    haveI : Inhabited (Tr × Ad) := ⟨(.no, ⟨none, 0, none, 0⟩)⟩
    obtain ⟨F, hF⟩ := choose_lt each
    refine ⟨some a, len, cap, fun i => (F i).1, fun i => (F i).2, hsl e, ⟨hle, hcap⟩, fun h0 => ?_, fun i hi => (hF i hi).2⟩
    obtain ⟨gb, go, spot⟩ := a
    have hce := fun i hi => World.cells?_some (hF i hi).1
    have hspot : spot = none := by
      have := (hce 0 h0).2.2 0 (by omega)
      simpa [Addr.add] using World.cell?_spot this
    subst hspot
    have hcell : ∀ i, i < len → ∀ j, j < 6 → W.cell? ⟨gb, go + i * 6 + j, none⟩ = ((F i).1.cs (F i).2)[j]? := fun i hi j hj => by
      have := (hce i hi).2.2 j hj
      rw [add_at, add_at] at this
      exact this
    exact ⟨gb, go, rfl, block_lt ((hcell 0 h0 0 (by omega)).trans rfl), fun i hi => ⟨hcell i hi 0 (by omega), hcell i hi 1 (by omega), hcell i hi 2 (by omega), hcell i hi 3 (by omega), hcell i hi 4 (by omega), hcell i hi 5 (by omega)⟩⟩
end Go.Proofs.Ytjmjlijmeahmfaa
