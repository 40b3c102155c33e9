/- How a span that is handed in is read: its two texts. -/
import Derived.Test.YtaacbcnpagpdnaaDoorOpenv
namespace Go.Proofs.YtaacbcnpagpdnaaDoor
open Go.ChangeShapes Go.WideShapes Go.ChangeAt Go.RowKit Go.Deep
theorem two_of {l : List Value} (h : l.length = 2) : ∃ a b, l = [a, b] := by
  match l, h with
  | [a, b], _ => exact ⟨a, b, rfl⟩
set_option maxRecDepth 100000 in
theorem open_span {H : Type} {enc : TypeId × Value → H} {W : World} {r : Reach} {b0 : Nat} {v : Value} {d : DataW H} {p : List MemPlace}
    (hv : Value.okWide Tryd.prog W r b0 45 v) (h : DataW.Trod enc Tryd.prog W 0 (fun _ => true) true 45 v d p) : ∃ lo hi, v = .agg #[.string lo, .string hi] ∧ lo.size ≤ maxLen ∧ hi.size ≤ maxLen := by
  obtain ⟨fuel, hf⟩ := h
  simp only [Value.okWide, Tryd.underlying45] at hv
  obtain ⟨cs, rfl, _, _⟩ := hv
  obtain ⟨xs, n, rfl, _, hl, hxl, hf⟩ := DataW.trod_struct Tryd.underlying45 hf
  have hc45 : Tryd.prog.cellsOf 45 = 2 := by kernel_rfl
  have hc9 : Tryd.prog.cellsOf 9 = 1 := by kernel_rfl
  rw [hc45] at hl
  obtain ⟨c0, c1, hc⟩ := two_of hl
  have hcs : cs = #[c0, c1] := by
    have : cs.toList = [c0, c1] := hc
    exact Array.ext' this
  subst hcs
  have hxl' : xs.length = 2 := hxl
  obtain ⟨y0, e0⟩ := some_of (l := xs) (i := 0) (by omega)
  obtain ⟨y1, e1⟩ := some_of (l := xs) (i := 1) (by omega)
  have f0 : DataW.trod enc Tryd.prog W 0 (fun _ => true) true n 9 [c0] = some y0 := by
    have g : (List.take (Tryd.prog.cellsOf 9) (List.drop 0 [c0, c1])) = [c0] := by rw [hc9]; rfl
    rw [← g, ← e0]
    exact hf 0 _ rfl
  have f1 : DataW.trod enc Tryd.prog W 0 (fun _ => true) true n 9 [c1] = some y1 := by
    have g : (List.take (Tryd.prog.cellsOf 9) (List.drop 1 [c0, c1])) = [c1] := by rw [hc9]; rfl
    rw [← g, ← e1]
    exact hf 1 _ rfl
  obtain ⟨lo, hlo, _, wlo⟩ := DataW.trod_string Tryd.underlying9 f0
  obtain ⟨hi, hhi, _, whi⟩ := DataW.trod_string Tryd.underlying9 f1
  simp only [List.cons.injEq, and_true] at hlo hhi
  subst hlo hhi
  exact ⟨lo, hi, rfl, wlo, whi⟩
end Go.Proofs.YtaacbcnpagpdnaaDoor
