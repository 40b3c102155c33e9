/- How a slice of strings, and a span, that are handed in are read. How a slice of acts that is handed in is read. -/
import Derived.Test.YtiplmlalhmldbaaSpw
import Derived.ProofKit
import Derived.OpenShut
import Derived.ShutString
import Derived.Deep.Strs
import Derived.Deep.Fields
import Derived.Carry
import Derived.Test.YtiplmlalhmldbaaPlw
namespace Go.Proofs.Ytiplmlalhmldbaa
open Go.ChangeShapes Go.WideShapes Go.ChangeAt Go.WideMaps Go.WideElems Go.RowKit Go.Deep
theorem laidOut : laidOutB Try.prog = true := by kernel_rfl
theorem add_at (g q n : Nat) : (⟨g, q, none⟩ : Addr).add n = ⟨g, q + n, none⟩ := by unfold Addr.add; split <;> simp_all
theorem open_cells {H : Type} {enc : TypeId × Value → H} {W : World} {fuel : Nat} {cs : List Value} {x : DataW H × List MemPlace}
    (h : DataW.trod enc Try.prog W 0 (fun _ => true) true fuel 53 cs = some x) :
    ∃ (p : Option Addr) (n c : Nat) (g : Nat → ByteArray), cs = [.slice p n c] ∧ Strs W p n c g ∧ ∀ i, i < n → (g i).size ≤ maxLen := by
  rcases open_strs (P := Try.prog) Try.underlying53 Try.underlying9 (by kernel_rfl) h with ⟨rfl, _⟩ | ⟨a, len, cap, m, S, rfl, _, hl, hm, hmm, _, hall⟩
  · exact ⟨none, 0, 0, fun _ => ⟨#[]⟩, rfl, ⟨by unfold maxLen; omega, fun h0 => absurd h0 (Nat.lt_irrefl _)⟩, fun i hi => absurd hi (Nat.not_lt_zero _)⟩
  · simp only [if_true] at hmm
    subst hmm
    refine ⟨some a, len, m, S, rfl, ⟨⟨hl, hm⟩, fun h0 => ?_⟩, fun i hi => (hall i (by omega)).2⟩
    obtain ⟨g, q, spot⟩ := a
    have hspot : spot = none := by simpa [Addr.add] using World.cell?_spot (hall 0 (by omega)).1
    subst hspot
    refine ⟨g, q, rfl, ?_, fun i hi => ?_⟩
    · have := World.block_lt_of_cell? W _ (hall 0 (by omega)).1
      rw [add_at] at this
      exact this
    · have := (hall i (by omega)).1
      rw [add_at] at this
      exact this
theorem cells_slice {W : World} {r : Reach} {b0 : Nat} {v : Value} {a : Option Addr} {n c : Nat} (hv : Value.okWide Try.prog W r b0 53 v) (h : v.cells.toList = [.slice a n c]) : v = .slice a n c := by
  simp only [Value.okWide, Try.underlying53, Cell.okWide] at hv
  cases v <;> simp_all [Value.cells, Cell.ok, Try.underlying53]
theorem open_list {H : Type} {enc : TypeId × Value → H} {W : World} {r : Reach} {b0 : Nat} {v : Value} {d : DataW H} {p : List MemPlace}
    (hv : Value.okWide Try.prog W r b0 53 v) (h : DataW.Trod enc Try.prog W 0 (fun _ => true) true 53 v d p) :
    ∃ (a : Option Addr) (n c : Nat) (g : Nat → ByteArray), v = .slice a n c ∧ Strs W a n c g ∧ ∀ i, i < n → (g i).size ≤ maxLen := by
  obtain ⟨fuel, hf⟩ := h
  obtain ⟨a, n, c, g, h1, h2, h3⟩ := open_cells hf
  exact ⟨a, n, c, g, cells_slice hv h1, h2, h3⟩
theorem some_of {α : Type} {l : List α} {i : Nat} (h : i < l.length) : ∃ x, l[i]? = some x := ⟨l[i], List.getElem?_eq_getElem h⟩
theorem two_of {l : List Value} (h : l.length = 2) : ∃ a b, l = [a, b] := by
  match l, h with
  | [a, b], _ => exact ⟨a, b, rfl⟩
set_option maxRecDepth 100000 in
theorem open_span {H : Type} {enc : TypeId × Value → H} {W : World} {r : Reach} {b0 : Nat} {v : Value} {d : DataW H} {p : List MemPlace}
    (hv : Value.okWide Try.prog W r b0 24 v) (h : DataW.Trod enc Try.prog W 0 (fun _ => true) true 24 v d p) : ∃ lo hi, v = .agg #[.string lo, .string hi] ∧ lo.size ≤ maxLen ∧ hi.size ≤ maxLen := by
  obtain ⟨fuel, hf⟩ := h
  simp only [Value.okWide, Try.underlying24] at hv
  obtain ⟨cs, rfl, _, _⟩ := hv
  obtain ⟨xs, n, rfl, _, hl, hxl, hf⟩ := DataW.trod_struct Try.underlying24 hf
  have hc24 : Try.prog.cellsOf 24 = 2 := by kernel_rfl
  have hc9 : Try.prog.cellsOf 9 = 1 := by kernel_rfl
  rw [hc24] at hl
  obtain ⟨c0, c1, hc⟩ := two_of hl
  have hcs : cs = #[c0, c1] := by
    have : cs.toList = [c0, c1] := hc
    exact Array.ext' this
  subst hcs
  have hxl' : xs.length = 2 := hxl
  obtain ⟨y0, e0⟩ := some_of (l := xs) (i := 0) (by omega)
  obtain ⟨y1, e1⟩ := some_of (l := xs) (i := 1) (by omega)
  have f0 : DataW.trod enc Try.prog W 0 (fun _ => true) true n 9 [c0] = some y0 := by
    have g : (List.take (Try.prog.cellsOf 9) (List.drop 0 [c0, c1])) = [c0] := by rw [hc9]; rfl
    rw [← g, ← e0]
    exact hf 0 _ rfl
  have f1 : DataW.trod enc Try.prog W 0 (fun _ => true) true n 9 [c1] = some y1 := by
    have g : (List.take (Try.prog.cellsOf 9) (List.drop 1 [c0, c1])) = [c1] := by rw [hc9]; rfl
    rw [← g, ← e1]
    exact hf 1 _ rfl
  obtain ⟨lo, hlo, _, wlo⟩ := DataW.trod_string Try.underlying9 f0
  obtain ⟨hi, hhi, _, whi⟩ := DataW.trod_string Try.underlying9 f1
  simp only [List.cons.injEq, and_true] at hlo hhi
  subst hlo hhi
  exact ⟨lo, hi, rfl, wlo, whi⟩
end Go.Proofs.Ytiplmlalhmldbaa
namespace Go.Proofs.Ytiplmlalhmldbaa
open Go.ChangeShapes Go.WideShapes Go.ChangeAt Go.WideMaps Go.WideElems Go.RowKit Go.Deep
theorem three_of {l : List Value} (h : l.length = 3) : ∃ a b c, l = [a, b, c] := by
  match l, h with
  | [a, b, c], _ => exact ⟨a, b, c, rfl⟩
set_option maxRecDepth 100000 in
theorem open_act {H : Type} {enc : TypeId × Value → H} {W : World} {fuel : Nat} {cs : List Value} {x : DataW H × List MemPlace}
    (h : DataW.trod enc Try.prog W 0 (fun _ => true) true fuel 30 cs = some x) : ∃ (k : Int) (s v : ByteArray), cs = [.int .i64 k, .string s, .string v] ∧ s.size ≤ maxLen ∧ v.size ≤ maxLen := by
  obtain ⟨xs, n, rfl, _, hl, hxl, hf⟩ := DataW.trod_struct Try.underlying30 h
  have hc30 : Try.prog.cellsOf 30 = 3 := by kernel_rfl
  have hc9 : Try.prog.cellsOf 9 = 1 := by kernel_rfl
  have hc3 : Try.prog.cellsOf 3 = 1 := by kernel_rfl
  rw [hc30] at hl
  obtain ⟨c0, c1, c2, rfl⟩ := three_of hl
  have hxl' : xs.length = 3 := hxl
  obtain ⟨y0, e0⟩ := some_of (l := xs) (i := 0) (by omega)
  obtain ⟨y1, e1⟩ := some_of (l := xs) (i := 1) (by omega)
  obtain ⟨y2, e2⟩ := some_of (l := xs) (i := 2) (by omega)
  have f0 : DataW.trod enc Try.prog W 0 (fun _ => true) true n 3 [c0] = some y0 := by
    have g : (List.take (Try.prog.cellsOf 3) (List.drop 0 [c0, c1, c2])) = [c0] := by rw [hc3]; rfl
    rw [← g, ← e0]
    exact hf 0 _ rfl
  have f1 : DataW.trod enc Try.prog W 0 (fun _ => true) true n 9 [c1] = some y1 := by
    have g : (List.take (Try.prog.cellsOf 9) (List.drop 1 [c0, c1, c2])) = [c1] := by rw [hc9]; rfl
    rw [← g, ← e1]
    exact hf 1 _ rfl
  have f2 : DataW.trod enc Try.prog W 0 (fun _ => true) true n 9 [c2] = some y2 := by
    have g : (List.take (Try.prog.cellsOf 9) (List.drop 2 [c0, c1, c2])) = [c2] := by rw [hc9]; rfl
    rw [← g, ← e2]
    exact hf 2 _ rfl
  obtain ⟨k, hk, _, _⟩ := DataW.trod_int Try.underlying3 f0
  obtain ⟨s, hs, _, ws⟩ := DataW.trod_string Try.underlying9 f1
  obtain ⟨v, hv, _, wv⟩ := DataW.trod_string Try.underlying9 f2
  simp only [List.cons.injEq, and_true] at hk hs hv
  subst hk hs hv
  exact ⟨k, s, v, rfl, ws, wv⟩
theorem open_acts {H : Type} {enc : TypeId × Value → H} {W : World} {r : Reach} {b0 : Nat} {v : Value} {d : DataW H} {p : List MemPlace}
    (hv : Value.okWide Try.prog W r b0 22 v) (h : DataW.Trod enc Try.prog W 0 (fun _ => true) true 22 v d p) :
    ∃ (a : Option Addr) (n c : Nat) (K : Nat → Int) (S V : Nat → ByteArray), v = .slice a n c ∧ Ats W a n c K S V ∧ (∀ i, i < n → (S i).size ≤ maxLen) ∧ (∀ i, i < n → (V i).size ≤ maxLen) := by
  have hsl : ∀ {a : Option Addr} {n c : Nat}, v.cells.toList = [.slice a n c] → v = .slice a n c := by
    intro a n c h
    simp only [Value.okWide, Try.underlying22, Cell.okWide] at hv
    cases v <;> simp_all [Value.cells, Cell.ok, Try.underlying22]
  obtain ⟨fuel, hf⟩ := h
  have hc30 : Try.prog.cellsOf 30 = 3 := by kernel_rfl
  rcases DataW.trod_slice Try.underlying22 hf with ⟨e, hx⟩ | ⟨a, len, cap, elems, rest, n', _, e, hx, _, hle, hcap, hel, hall, _, _⟩
  · exact ⟨none, 0, 0, fun _ => 0, fun _ => ⟨#[]⟩, fun _ => ⟨#[]⟩, hsl e, ⟨⟨Nat.le_refl _, Nat.zero_le _⟩, fun h0 => absurd h0 (Nat.lt_irrefl _)⟩, fun i hi => absurd hi (Nat.not_lt_zero _), fun i hi => absurd hi (Nat.not_lt_zero _)⟩
  · rw [hc30] at hall
    have each : ∀ i, i < len → ∃ r : Int × ByteArray × ByteArray, W.cells? 0 (a.add (i * 3)) 3 = some [.int .i64 r.1, .string r.2.1, .string r.2.2] ∧ r.2.1.size ≤ maxLen ∧ r.2.2.size ≤ maxLen := by
      intro i hi
      have hi' := hall i hi
      obtain ⟨y, hy⟩ := some_of (l := elems) (i := i) (by omega)
      rw [hy] at hi'
      obtain ⟨cs', h1, h2⟩ := Option.bind_eq_some_iff.1 hi'
      obtain ⟨k, s, v, rfl, ws, wv⟩ := open_act h2
      exact ⟨(k, s, v), h1, ws, wv⟩
    obtain ⟨F, hF⟩ := choose_lt each
    refine ⟨some a, len, cap, fun i => (F i).1, fun i => (F i).2.1, fun i => (F i).2.2, hsl e, ⟨⟨hle, hcap⟩, fun h0 => ?_⟩, fun i hi => (hF i hi).2.1, fun i hi => (hF i hi).2.2⟩
    obtain ⟨gb, go, spot⟩ := a
    have hce := fun i hi => World.cells?_some (hF i hi).1
    have hspot : spot = none := by
      have := (hce 0 h0).2.2 0 (by omega)
      simpa [Addr.add] using World.cell?_spot this
    subst hspot
    have hcell : ∀ i, i < len → ∀ j, j < 3 → W.cell? ⟨gb, go + i * 3 + j, none⟩ = [Value.int .i64 (F i).1, .string (F i).2.1, .string (F i).2.2][j]? := fun i hi j hj => by
      have := (hce i hi).2.2 j hj
      rw [add_at, add_at] at this
      exact this
    refine ⟨gb, go, rfl, ?_, fun i hi => ⟨hcell i hi 0 (by omega), hcell i hi 1 (by omega), hcell i hi 2 (by omega)⟩⟩
    exact World.block_lt_of_cell? W _ ((hcell 0 h0 0 (by omega)).trans rfl)
end Go.Proofs.Ytiplmlalhmldbaa
