/- How a slice of strings, and a way, that are handed in are read. -/
import Derived.Test.YtjamahpccblkiaaDoorShr
import Derived.Deep.Strs
import Derived.Deep.Fields
namespace Go.Proofs.YtjamahpccblkiaaDoor
open Go.ChangeShapes Go.WideShapes Go.ChangeAt Go.WideMaps Go.WideElems Go.RowKit Go.Deep
theorem add_at (g q n : Nat) : (⟨g, q, none⟩ : Addr).add n = ⟨g, q + n, none⟩ := by unfold Addr.add; split <;> simp_all
theorem open_cells {H : Type} {enc : TypeId × Value → H} {W : World} {fuel : Nat} {cs : List Value} {x : DataW H × List MemPlace}
    (h : DataW.trod enc Tryd.prog W 0 (fun _ => true) true fuel 22 cs = some x) :
    ∃ (p : Option Addr) (n c : Nat) (g : Nat → ByteArray), cs = [.slice p n c] ∧ Strs W p n c g ∧ ∀ i, i < n → (g i).size ≤ maxLen := by
  rcases open_strs (P := Tryd.prog) Tryd.underlying22 Tryd.underlying9 (by kernel_rfl) h with ⟨rfl, _⟩ | ⟨a, len, cap, m, S, rfl, _, hl, hm, hmm, _, hall⟩
  · exact ⟨none, 0, 0, fun _ => ⟨#[]⟩, rfl, ⟨by unfold maxLen; omega, fun h0 => absurd h0 (Nat.lt_irrefl _)⟩, fun i hi => absurd hi (Nat.not_lt_zero _)⟩
  · simp only [if_true] at hmm
    subst hmm
    refine ⟨some a, len, m, S, rfl, ⟨⟨hl, hm⟩, fun h0 => ?_⟩, fun i hi => (hall i (by omega)).2⟩
    obtain ⟨g, q, spot⟩ := a
    have hspot : spot = none := by simpa [Addr.add] using World.cell?_spot (hall 0 (by omega)).1
    subst hspot
    refine ⟨g, q, rfl, ?_, fun i hi => ?_⟩
    · have := World.block_lt_of_cell? W _ (hall 0 (by omega)).1
      rw [add_at] at this
      exact this
    · have := (hall i (by omega)).1
      rw [add_at] at this
      exact this
theorem cells_slice {W : World} {r : Reach} {b0 : Nat} {v : Value} {a : Option Addr} {n c : Nat} (hv : Value.okWide Tryd.prog W r b0 22 v) (h : v.cells.toList = [.slice a n c]) : v = .slice a n c := by
  simp only [Value.okWide, Tryd.underlying22, Cell.okWide] at hv
  cases v <;> simp_all [Value.cells, Cell.ok, Tryd.underlying22]
theorem open_list {H : Type} {enc : TypeId × Value → H} {W : World} {r : Reach} {b0 : Nat} {v : Value} {d : DataW H} {p : List MemPlace}
    (hv : Value.okWide Tryd.prog W r b0 22 v) (h : DataW.Trod enc Tryd.prog W 0 (fun _ => true) true 22 v d p) :
    ∃ (a : Option Addr) (n c : Nat) (g : Nat → ByteArray), v = .slice a n c ∧ Strs W a n c g ∧ ∀ i, i < n → (g i).size ≤ maxLen := by
  obtain ⟨fuel, hf⟩ := h
  obtain ⟨a, n, c, g, h1, h2, h3⟩ := open_cells hf
  exact ⟨a, n, c, g, cells_slice hv h1, h2, h3⟩
theorem some_of {α : Type} {l : List α} {i : Nat} (h : i < l.length) : ∃ x, l[i]? = some x := ⟨l[i], List.getElem?_eq_getElem h⟩
theorem five_of {l : List Value} (h : l.length = 5) : ∃ a b c d e, l = [a, b, c, d, e] := by
  match l, h with
  | [a, b, c, d, e], _ => exact ⟨a, b, c, d, e, rfl⟩
theorem open_way {H : Type} {enc : TypeId × Value → H} {W : World} {r : Reach} {b0 : Nat} {v : Value} {d : DataW H} {p : List MemPlace}
    (hv : Value.okWide Tryd.prog W r b0 44 v) (h : DataW.Trod enc Tryd.prog W 0 (fun _ => true) true 44 v d p) :
    ∃ (root leaf : ByteArray) (m N : Int) (a : Option Addr) (n c : Nat) (g : Nat → ByteArray), v = .agg #[.string root, .string leaf, .int .i64 m, .int .i64 N, .slice a n c] ∧ Strs W a n c g ∧
      (-9223372036854775808 ≤ m ∧ m ≤ 9223372036854775807) ∧ (-9223372036854775808 ≤ N ∧ N ≤ 9223372036854775807) ∧ root.size ≤ maxLen ∧ leaf.size ≤ maxLen := by
  simp only [Value.okWide, Tryd.underlying44] at hv
  obtain ⟨cs, rfl, hsz, _⟩ := hv
  obtain ⟨fuel, hf⟩ := h
  obtain ⟨xs, n, rfl, _, hl, hxl, hff⟩ := DataW.trod_struct Tryd.underlying44 hf
  have hc44 : Tryd.prog.cellsOf 44 = 5 := by kernel_rfl
  rw [hc44] at hl
  obtain ⟨c0, c1, c2, c3, c4, hcs⟩ := five_of hl
  have hcs' : cs = #[c0, c1, c2, c3, c4] := by
    have : cs.toList = [c0, c1, c2, c3, c4] := by simpa [Value.cells] using hcs
    rw [← Array.toList_inj]
    exact this
  rw [hcs] at hff
  have hxl' : xs.length = 5 := hxl
  have hc3 : Tryd.prog.cellsOf 3 = 1 := by kernel_rfl
  have hc9 : Tryd.prog.cellsOf 9 = 1 := by kernel_rfl
  have hc22 : Tryd.prog.cellsOf 22 = 1 := by kernel_rfl
  obtain ⟨y0, e0⟩ := some_of (l := xs) (i := 0) (by omega)
  obtain ⟨y1, e1⟩ := some_of (l := xs) (i := 1) (by omega)
  obtain ⟨y2, e2⟩ := some_of (l := xs) (i := 2) (by omega)
  obtain ⟨y3, e3⟩ := some_of (l := xs) (i := 3) (by omega)
  obtain ⟨y4, e4⟩ := some_of (l := xs) (i := 4) (by omega)
  have f0 : DataW.trod enc Tryd.prog W 0 (fun _ => true) true n 9 [c0] = some y0 := by
    have g : (List.take (Tryd.prog.cellsOf 9) (List.drop 0 [c0, c1, c2, c3, c4])) = [c0] := by rw [hc9]; rfl
    rw [← g, ← e0]
    exact hff 0 _ rfl
  have f1 : DataW.trod enc Tryd.prog W 0 (fun _ => true) true n 9 [c1] = some y1 := by
    have g : (List.take (Tryd.prog.cellsOf 9) (List.drop 1 [c0, c1, c2, c3, c4])) = [c1] := by rw [hc9]; rfl
    rw [← g, ← e1]
    exact hff 1 _ rfl
  have f2 : DataW.trod enc Tryd.prog W 0 (fun _ => true) true n 3 [c2] = some y2 := by
    have g : (List.take (Tryd.prog.cellsOf 3) (List.drop 2 [c0, c1, c2, c3, c4])) = [c2] := by rw [hc3]; rfl
    rw [← g, ← e2]
    exact hff 2 _ rfl
  have f3 : DataW.trod enc Tryd.prog W 0 (fun _ => true) true n 3 [c3] = some y3 := by
    have g : (List.take (Tryd.prog.cellsOf 3) (List.drop 3 [c0, c1, c2, c3, c4])) = [c3] := by rw [hc3]; rfl
    rw [← g, ← e3]
    exact hff 3 _ rfl
  have f4 : DataW.trod enc Tryd.prog W 0 (fun _ => true) true n 22 [c4] = some y4 := by
    have g : (List.take (Tryd.prog.cellsOf 22) (List.drop 4 [c0, c1, c2, c3, c4])) = [c4] := by rw [hc22]; rfl
    rw [← g, ← e4]
    exact hff 4 _ rfl
  obtain ⟨s0, g0, _, z0⟩ := DataW.trod_string Tryd.underlying9 f0
  obtain ⟨s1, g1, _, z1⟩ := DataW.trod_string Tryd.underlying9 f1
  obtain ⟨i2, g2, _, b2⟩ := DataW.trod_int Tryd.underlying3 f2
  obtain ⟨i3, g3, _, b3⟩ := DataW.trod_int Tryd.underlying3 f3
  obtain ⟨a, k, c, g, g4, hS, _⟩ := open_cells f4
  have B2 := bounds_i64 b2
  have B3 := bounds_i64 b3
  injection g0 with g0 _
  injection g1 with g1 _
  injection g2 with g2 _
  injection g3 with g3 _
  injection g4 with g4 _
  exact ⟨s0, s1, i2, i3, a, k, c, g, by rw [hcs', g0, g1, g2, g3, g4], hS, by omega, by omega, z0, z1⟩
end Go.Proofs.YtjamahpccblkiaaDoor
