/- How a value that is handed in is read: as a tree, with its memory. How a look and a touch that are handed in are read. The frame of a tied row's proof that keeps the world's shape beside what is laid; a variable of the library's that holds some number. -/
import Derived.Test.YtfcenidepkjdcaaDoorXaa
import Derived.Test.YtfcenidepkjdcaaDoorRows
import Derived.WalkKit
import Derived.ProofKit
import Derived.OpenShut
import Derived.ShutString
import Derived.Deep.Strs
import Derived.Deep.Fields
import Derived.Test.YtfcenidepkjdcaaDoorXan
import Derived.Test.YtfcenidepkjdcaaDoorXaj
import Derived.HandedShaped
import Derived.Handed
import Derived.Shelf.Vars
namespace Go.Proofs.YtfcenidepkjdcaaDoor.V
open Go.ChangeShapes Go.WideShapes Go.ChangeAt Go.RowKit Go.Deep
theorem laidOut : laidOutB Tryd.prog = true := by kernel_rfl
theorem add_at (g q n : Nat) : (⟨g, q, none⟩ : Addr).add n = ⟨g, q + n, none⟩ := by unfold Addr.add; split <;> simp_all
theorem six_of {l : List Value} (h : l.length = 6) : ∃ a b c d e f, l = [a, b, c, d, e, f] := by
  match l, h with
  | [a, b, c, d, e, f], _ => exact ⟨a, b, c, d, e, f, rfl⟩
theorem some_of {α : Type} {l : List α} {i : Nat} (h : i < l.length) : ∃ x, l[i]? = some x := ⟨l[i], List.getElem?_eq_getElem h⟩
theorem open_names {H : Type} {enc : TypeId × Value → H} {W : World} {fuel : Nat} {cs : List Value} {x : DataW H × List MemPlace}
    (h : DataW.trod enc Tryd.prog W 0 (fun _ => true) true fuel 27 cs = some x) :
    ∃ (na : Option Addr) (q nc : Nat) (g : Nat → ByteArray), cs = [.slice na q nc] ∧ Names W.heap.size W q g na nc := by
  rcases open_strs (P := Tryd.prog) Tryd.underlying27 Tryd.underlying9 (by kernel_rfl) h with ⟨rfl, _⟩ | ⟨a, len, cap, m, S, rfl, _, hl, hm, hmm, _, hall⟩
  · exact ⟨none, 0, 0, fun _ => ⟨#[]⟩, rfl, Nat.le_refl _, Nat.zero_le _, fun i hi => absurd hi (Nat.not_lt_zero _), fun h0 => absurd h0 (Nat.lt_irrefl _)⟩
  · simp only [if_true] at hmm
    subst hmm
    refine ⟨some a, len, m, S, rfl, hl, hm, fun i hi => (hall i (by omega)).2, fun h0 => ?_⟩
    obtain ⟨g, q, spot⟩ := a
    have hspot : spot = none := by simpa [Addr.add] using World.cell?_spot (hall 0 (by omega)).1
    subst hspot
    refine ⟨g, q, rfl, ?_, fun i hi => ?_⟩
    · have := block_lt (hall 0 (by omega)).1
      rw [add_at] at this
      exact this
    · have := (hall i (by omega)).1
      rw [add_at] at this
      exact this
set_option maxRecDepth 100000 in
theorem open_tree {H : Type} {enc : TypeId × Value → H} {W : World} (fuel : Nat) : ∀ {cs : List Value} {x : DataW H × List MemPlace},
    DataW.trod enc Tryd.prog W 0 (fun _ => true) true fuel 29 cs = some x → ∃ t A, cs = Tr.cs t A ∧ Lies W.heap.size W t A := by
  induction fuel using Nat.strongRecOn with
  | _ fuel ih =>
    intro cs x h
    obtain ⟨xs, n, rfl, _, hl, hxl, hf⟩ := DataW.trod_struct Tryd.underlying29 h
    have hc34 : Tryd.prog.cellsOf 29 = 6 := by kernel_rfl
    rw [hc34] at hl
    obtain ⟨c0, c1, c2, c3, c4, c5, rfl⟩ := six_of hl
    have hxl' : xs.length = 6 := hxl
    have hc3 : Tryd.prog.cellsOf 3 = 1 := by kernel_rfl
    have hc4 : Tryd.prog.cellsOf 4 = 1 := by kernel_rfl
    have hc2 : Tryd.prog.cellsOf 2 = 1 := by kernel_rfl
    have hc9 : Tryd.prog.cellsOf 9 = 1 := by kernel_rfl
    have hc32 : Tryd.prog.cellsOf 26 = 1 := by kernel_rfl
    have hc28 : Tryd.prog.cellsOf 27 = 1 := by kernel_rfl
    obtain ⟨y0, e0⟩ := some_of (l := xs) (i := 0) (by omega)
    obtain ⟨y1, e1⟩ := some_of (l := xs) (i := 1) (by omega)
    obtain ⟨y2, e2⟩ := some_of (l := xs) (i := 2) (by omega)
    obtain ⟨y3, e3⟩ := some_of (l := xs) (i := 3) (by omega)
    obtain ⟨y4, e4⟩ := some_of (l := xs) (i := 4) (by omega)
    obtain ⟨y5, e5⟩ := some_of (l := xs) (i := 5) (by omega)
    have f0 : DataW.trod enc Tryd.prog W 0 (fun _ => true) true n 3 [c0] = some y0 := by
      have g : (List.take (Tryd.prog.cellsOf 3) (List.drop 0 [c0, c1, c2, c3, c4, c5])) = [c0] := by rw [hc3]; rfl
      rw [← g, ← e0]
      exact hf 0 _ rfl
    have f1 : DataW.trod enc Tryd.prog W 0 (fun _ => true) true n 4 [c1] = some y1 := by
      have g : (List.take (Tryd.prog.cellsOf 4) (List.drop 1 [c0, c1, c2, c3, c4, c5])) = [c1] := by rw [hc4]; rfl
      rw [← g, ← e1]
      exact hf 1 _ rfl
    have f2 : DataW.trod enc Tryd.prog W 0 (fun _ => true) true n 2 [c2] = some y2 := by
      have g : (List.take (Tryd.prog.cellsOf 2) (List.drop 2 [c0, c1, c2, c3, c4, c5])) = [c2] := by rw [hc2]; rfl
      rw [← g, ← e2]
      exact hf 2 _ rfl
    have f3 : DataW.trod enc Tryd.prog W 0 (fun _ => true) true n 9 [c3] = some y3 := by
      have g : (List.take (Tryd.prog.cellsOf 9) (List.drop 3 [c0, c1, c2, c3, c4, c5])) = [c3] := by rw [hc9]; rfl
      rw [← g, ← e3]
      exact hf 3 _ rfl
    have f4 : DataW.trod enc Tryd.prog W 0 (fun _ => true) true n 26 [c4] = some y4 := by
      have g : (List.take (Tryd.prog.cellsOf 26) (List.drop 4 [c0, c1, c2, c3, c4, c5])) = [c4] := by rw [hc32]; rfl
      rw [← g, ← e4]
      exact hf 4 _ rfl
    have f5 : DataW.trod enc Tryd.prog W 0 (fun _ => true) true n 27 [c5] = some y5 := by
      have g : (List.take (Tryd.prog.cellsOf 27) (List.drop 5 [c0, c1, c2, c3, c4, c5])) = [c5] := by rw [hc28]; rfl
      rw [← g, ← e5]
      exact hf 5 _ rfl
    obtain ⟨k, hk, _, hkw⟩ := DataW.trod_int Tryd.underlying3 f0
    obtain ⟨b, hb, _⟩ := DataW.trod_bool Tryd.underlying4 f1
    obtain ⟨z, hz, _, hzw⟩ := DataW.trod_int Tryd.underlying2 f2
    obtain ⟨s, hs, _, hsw⟩ := DataW.trod_string Tryd.underlying9 f3
    obtain ⟨na, q, nc, g, hn, hnn⟩ := open_names f5
    simp only [List.cons.injEq, and_true] at hk hb hz hs hn
    subst hk hb hz hs hn
    have bk := bounds_i64 hkw
    have bz := bounds_i64 hzw
    rcases DataW.trod_slice Tryd.underlying26 f4 with ⟨hp, _⟩ | ⟨a, len, cap, elems, rest, n', rfl, hp, _, _, hle, hcap, hel, hall, _, _⟩
    · simp only [List.cons.injEq, and_true] at hp
      subst hp
      exact ⟨.mk k b z s 0 (fun _ => .no) q g, ⟨none, 0, na, nc⟩, rfl, .mk (fun _ => ⟨none, 0, none, 0⟩) (by omega) (by omega) hsw ⟨Nat.le_refl _, Nat.zero_le _⟩ (fun h0 => absurd h0 (Nat.lt_irrefl _)) (fun i hi => absurd hi (Nat.not_lt_zero _)) hnn⟩
    · simp only [List.cons.injEq, and_true] at hp
      subst hp
      rw [hc34] at hall
      have each : ∀ i, i < len → ∃ y : Tr × Ad, W.cells? 0 (a.add (i * 6)) 6 = some (y.1.cs y.2) ∧ Lies W.heap.size W y.1 y.2 := by
        intro i hi
        have hi' := hall i hi
        rw [List.getElem?_eq_getElem (by omega)] at hi'
        obtain ⟨cs', h1, h2⟩ := Option.bind_eq_some_iff.1 hi'
        obtain ⟨t, A, rfl, hL⟩ := ih n' (by omega) h2
        exact ⟨(t, A), h1, hL⟩
      haveI : Inhabited (Tr × Ad) := ⟨(.no, ⟨none, 0, none, 0⟩)⟩
      obtain ⟨F, hF⟩ := choose_lt each
      refine ⟨.mk k b z s len (fun i => (F i).1) q g, ⟨some a, cap, na, nc⟩, rfl, .mk (fun i => (F i).2) (by omega) (by omega) hsw ⟨hle, hcap⟩ (fun h0 => ?_) (fun i hi => (hF i hi).2) hnn⟩
      obtain ⟨gb, go, spot⟩ := a
      have hce := fun i hi => World.cells?_some (hF i hi).1
      have hspot : spot = none := by
        have := (hce 0 h0).2.2 0 (by omega)
        simpa [Addr.add] using World.cell?_spot this
      subst hspot
      have hcell : ∀ i, i < len → ∀ j, j < 6 → W.cell? ⟨gb, go + i * 6 + j, none⟩ = ((F i).1.cs (F i).2)[j]? := fun i hi j hj => by
        have := (hce i hi).2.2 j hj
        rw [add_at, add_at] at this
        exact this
      refine ⟨gb, go, rfl, ?_, fun i hi => ⟨hcell i hi 0 (by omega), hcell i hi 1 (by omega), hcell i hi 2 (by omega), hcell i hi 3 (by omega), hcell i hi 4 (by omega), hcell i hi 5 (by omega)⟩⟩
      exact block_lt ((hcell 0 h0 0 (by omega)).trans rfl)
set_option maxRecDepth 100000 in
theorem open_value {H : Type} {enc : TypeId × Value → H} {W : World} {r : Reach} {b0 : Nat} {v : Value} {d : DataW H} {p : List MemPlace}
    (hv : Value.okWide Tryd.prog W r b0 29 v) (h : DataW.Trod enc Tryd.prog W 0 (fun _ => true) true 29 v d p) : ∃ t A, v = Tr.val t A ∧ Lies W.heap.size W t A := by
  obtain ⟨fuel, hf⟩ := h
  obtain ⟨t, A, hc, hL⟩ := open_tree fuel hf
  refine ⟨t, A, ?_, hL⟩
  simp only [Value.okWide, Tryd.underlying29] at hv
  obtain ⟨cs, rfl, _, _⟩ := hv
  have hc' : cs.toList = t.cs A := hc
  show Value.agg cs = Value.agg (t.cs A).toArray
  rw [← hc']
end Go.Proofs.YtfcenidepkjdcaaDoor.V
namespace Go.Proofs.YtfcenidepkjdcaaDoor
open Go.ChangeShapes Go.WideShapes Go.ChangeAt Go.RowKit Go.Deep
theorem two_of {l : List Value} (h : l.length = 2) : ∃ c0 c1, l = [c0, c1] := by
  match l, h with
  | [c0, c1], _ => exact ⟨c0, c1, rfl⟩
theorem four_of {l : List Value} (h : l.length = 4) : ∃ c0 c1 c2 c3, l = [c0, c1, c2, c3] := by
  match l, h with
  | [c0, c1, c2, c3], _ => exact ⟨c0, c1, c2, c3, rfl⟩
theorem sixteen_of {l : List Value} (h : l.length = 16) : ∃ c0 c1 c2 c3 c4 c5 c6 c7 c8 c9 c10 c11 c12 c13 c14 c15, l = [c0, c1, c2, c3, c4, c5, c6, c7, c8, c9, c10, c11, c12, c13, c14, c15] := by
  match l, h with
  | [c0, c1, c2, c3, c4, c5, c6, c7, c8, c9, c10, c11, c12, c13, c14, c15], _ => exact ⟨c0, c1, c2, c3, c4, c5, c6, c7, c8, c9, c10, c11, c12, c13, c14, c15, rfl⟩
set_option maxRecDepth 100000 in
theorem open_span {H : Type} {enc : TypeId × Value → H} {W : World} {fuel : Nat} {cs : List Value} {x : DataW H × List MemPlace}
    (h : DataW.trod enc Tryd.prog W 0 (fun _ => true) true fuel 23 cs = some x) : ∃ lo hi, cs = [.string lo, .string hi] ∧ lo.size ≤ maxLen ∧ hi.size ≤ maxLen := by
  obtain ⟨xs, n, rfl, _, hl, hxl, hf⟩ := DataW.trod_struct Tryd.underlying23 h
  have hc23 : Tryd.prog.cellsOf 23 = 2 := by kernel_rfl
  have hc9 : Tryd.prog.cellsOf 9 = 1 := by kernel_rfl
  rw [hc23] at hl
  obtain ⟨c0, c1, rfl⟩ := two_of hl
  have hxl' : xs.length = 2 := hxl
  obtain ⟨y0, e0⟩ := V.some_of (l := xs) (i := 0) (by omega)
  obtain ⟨y1, e1⟩ := V.some_of (l := xs) (i := 1) (by omega)
  have f0 : DataW.trod enc Tryd.prog W 0 (fun _ => true) true n 9 [c0] = some y0 := by
    have g : (List.take (Tryd.prog.cellsOf 9) (List.drop 0 [c0, c1])) = [c0] := by rw [hc9]; rfl
    rw [← g, ← e0]
    exact hf 0 _ rfl
  have f1 : DataW.trod enc Tryd.prog W 0 (fun _ => true) true n 9 [c1] = some y1 := by
    have g : (List.take (Tryd.prog.cellsOf 9) (List.drop 1 [c0, c1])) = [c1] := by rw [hc9]; rfl
    rw [← g, ← e1]
    exact hf 1 _ rfl
  obtain ⟨lo, hlo, _, wlo⟩ := DataW.trod_string Tryd.underlying9 f0
  obtain ⟨hi, hhi, _, whi⟩ := DataW.trod_string Tryd.underlying9 f1
  simp only [List.cons.injEq, and_true] at hlo hhi
  subst hlo hhi
  exact ⟨lo, hi, rfl, wlo, whi⟩
set_option maxRecDepth 100000 in
theorem open_rd {H : Type} {enc : TypeId × Value → H} {W : World} {fuel : Nat} {cs : List Value} {x : DataW H × List MemPlace}
    (h : DataW.trod enc Tryd.prog W 0 (fun _ => true) true fuel 25 cs = some x) : ∃ tb fl lo hi, cs = [.string tb, .string fl, .string lo, .string hi] ∧ tb.size ≤ maxLen ∧ fl.size ≤ maxLen ∧ lo.size ≤ maxLen ∧ hi.size ≤ maxLen := by
  obtain ⟨xs, n, rfl, _, hl, hxl, hf⟩ := DataW.trod_struct Tryd.underlying25 h
  have hc25 : Tryd.prog.cellsOf 25 = 4 := by kernel_rfl
  have hc23 : Tryd.prog.cellsOf 23 = 2 := by kernel_rfl
  have hc9 : Tryd.prog.cellsOf 9 = 1 := by kernel_rfl
  rw [hc25] at hl
  obtain ⟨c0, c1, c2, c3, rfl⟩ := four_of hl
  have hxl' : xs.length = 3 := hxl
  obtain ⟨y0, e0⟩ := V.some_of (l := xs) (i := 0) (by omega)
  obtain ⟨y1, e1⟩ := V.some_of (l := xs) (i := 1) (by omega)
  obtain ⟨y2, e2⟩ := V.some_of (l := xs) (i := 2) (by omega)
  have f0 : DataW.trod enc Tryd.prog W 0 (fun _ => true) true n 9 [c0] = some y0 := by
    have g : (List.take (Tryd.prog.cellsOf 9) (List.drop 0 [c0, c1, c2, c3])) = [c0] := by rw [hc9]; rfl
    rw [← g, ← e0]
    exact hf 0 _ rfl
  have f1 : DataW.trod enc Tryd.prog W 0 (fun _ => true) true n 9 [c1] = some y1 := by
    have g : (List.take (Tryd.prog.cellsOf 9) (List.drop 1 [c0, c1, c2, c3])) = [c1] := by rw [hc9]; rfl
    rw [← g, ← e1]
    exact hf 1 _ rfl
  have f2 : DataW.trod enc Tryd.prog W 0 (fun _ => true) true n 23 [c2, c3] = some y2 := by
    have g : (List.take (Tryd.prog.cellsOf 23) (List.drop 2 [c0, c1, c2, c3])) = [c2, c3] := by rw [hc23]; rfl
    rw [← g, ← e2]
    exact hf 2 _ rfl
  obtain ⟨tb, htb, _, wtb⟩ := DataW.trod_string Tryd.underlying9 f0
  obtain ⟨fl, hfl, _, wfl⟩ := DataW.trod_string Tryd.underlying9 f1
  obtain ⟨lo, hi, hsp, wlo, whi⟩ := open_span f2
  simp only [List.cons.injEq, and_true] at htb hfl hsp
  obtain ⟨rfl, rfl⟩ := hsp
  subst htb hfl
  exact ⟨tb, fl, lo, hi, rfl, wtb, wfl, wlo, whi⟩
set_option maxRecDepth 100000 in
theorem open_read {H : Type} {enc : TypeId × Value → H} {W : World} {r : Reach} {b0 : Nat} {v : Value} {d : DataW H} {p : List MemPlace}
    (hv : Value.okWide Tryd.prog W r b0 25 v) (h : DataW.Trod enc Tryd.prog W 0 (fun _ => true) true 25 v d p) : ∃ tb fl lo hi, v = .agg (rdA tb fl lo hi) ∧ tb.size ≤ maxLen ∧ fl.size ≤ maxLen ∧ lo.size ≤ maxLen ∧ hi.size ≤ maxLen := by
  obtain ⟨fuel, hf⟩ := h
  obtain ⟨tb, fl, lo, hi, hc, hs⟩ := open_rd hf
  refine ⟨tb, fl, lo, hi, ?_, hs⟩
  simp only [Value.okWide, Tryd.underlying25] at hv
  obtain ⟨cs, rfl, _, _⟩ := hv
  have hc' : cs.toList = [.string tb, .string fl, .string lo, .string hi] := hc
  show Value.agg cs = Value.agg [.string tb, .string fl, .string lo, .string hi].toArray
  rw [← hc']
set_option maxRecDepth 100000 in
theorem open_th {H : Type} {enc : TypeId × Value → H} {W : World} {fuel : Nat} {cs : List Value} {x : DataW H × List MemPlace}
    (h : DataW.trod enc Tryd.prog W 0 (fun _ => true) true fuel 31 cs = some x) : ∃ tt sh t A u C was is, cs = (thA tt sh t A u C was is).toList ∧ V.Lies W.heap.size W t A ∧ V.Lies W.heap.size W u C := by
  obtain ⟨xs, n, rfl, _, hl, hxl, hf⟩ := DataW.trod_struct Tryd.underlying31 h
  have hc31 : Tryd.prog.cellsOf 31 = 16 := by kernel_rfl
  have hc29 : Tryd.prog.cellsOf 29 = 6 := by kernel_rfl
  have hc9 : Tryd.prog.cellsOf 9 = 1 := by kernel_rfl
  have hc4 : Tryd.prog.cellsOf 4 = 1 := by kernel_rfl
  rw [hc31] at hl
  obtain ⟨c0, c1, c2, c3, c4, c5, c6, c7, c8, c9, c10, c11, c12, c13, c14, c15, rfl⟩ := sixteen_of hl
  have hxl' : xs.length = 6 := hxl
  obtain ⟨y0, e0⟩ := V.some_of (l := xs) (i := 0) (by omega)
  obtain ⟨y1, e1⟩ := V.some_of (l := xs) (i := 1) (by omega)
  obtain ⟨y2, e2⟩ := V.some_of (l := xs) (i := 2) (by omega)
  obtain ⟨y3, e3⟩ := V.some_of (l := xs) (i := 3) (by omega)
  obtain ⟨y4, e4⟩ := V.some_of (l := xs) (i := 4) (by omega)
  obtain ⟨y5, e5⟩ := V.some_of (l := xs) (i := 5) (by omega)
  have f0 : DataW.trod enc Tryd.prog W 0 (fun _ => true) true n 9 [c0] = some y0 := by
    have g : (List.take (Tryd.prog.cellsOf 9) (List.drop 0 [c0, c1, c2, c3, c4, c5, c6, c7, c8, c9, c10, c11, c12, c13, c14, c15])) = [c0] := by rw [hc9]; rfl
    rw [← g, ← e0]
    exact hf 0 _ rfl
  have f1 : DataW.trod enc Tryd.prog W 0 (fun _ => true) true n 4 [c1] = some y1 := by
    have g : (List.take (Tryd.prog.cellsOf 4) (List.drop 1 [c0, c1, c2, c3, c4, c5, c6, c7, c8, c9, c10, c11, c12, c13, c14, c15])) = [c1] := by rw [hc4]; rfl
    rw [← g, ← e1]
    exact hf 1 _ rfl
  have f2 : DataW.trod enc Tryd.prog W 0 (fun _ => true) true n 29 [c2, c3, c4, c5, c6, c7] = some y2 := by
    have g : (List.take (Tryd.prog.cellsOf 29) (List.drop 2 [c0, c1, c2, c3, c4, c5, c6, c7, c8, c9, c10, c11, c12, c13, c14, c15])) = [c2, c3, c4, c5, c6, c7] := by rw [hc29]; rfl
    rw [← g, ← e2]
    exact hf 2 _ rfl
  have f3 : DataW.trod enc Tryd.prog W 0 (fun _ => true) true n 29 [c8, c9, c10, c11, c12, c13] = some y3 := by
    have g : (List.take (Tryd.prog.cellsOf 29) (List.drop 8 [c0, c1, c2, c3, c4, c5, c6, c7, c8, c9, c10, c11, c12, c13, c14, c15])) = [c8, c9, c10, c11, c12, c13] := by rw [hc29]; rfl
    rw [← g, ← e3]
    exact hf 3 _ rfl
  have f4 : DataW.trod enc Tryd.prog W 0 (fun _ => true) true n 4 [c14] = some y4 := by
    have g : (List.take (Tryd.prog.cellsOf 4) (List.drop 14 [c0, c1, c2, c3, c4, c5, c6, c7, c8, c9, c10, c11, c12, c13, c14, c15])) = [c14] := by rw [hc4]; rfl
    rw [← g, ← e4]
    exact hf 4 _ rfl
  have f5 : DataW.trod enc Tryd.prog W 0 (fun _ => true) true n 4 [c15] = some y5 := by
    have g : (List.take (Tryd.prog.cellsOf 4) (List.drop 15 [c0, c1, c2, c3, c4, c5, c6, c7, c8, c9, c10, c11, c12, c13, c14, c15])) = [c15] := by rw [hc4]; rfl
    rw [← g, ← e5]
    exact hf 5 _ rfl
  obtain ⟨tt, htt, _, wtt⟩ := DataW.trod_string Tryd.underlying9 f0
  obtain ⟨sh, hsh, _⟩ := DataW.trod_bool Tryd.underlying4 f1
  obtain ⟨t, A, ht, hL⟩ := V.open_tree _ f2
  obtain ⟨u, C, hu, hM⟩ := V.open_tree _ f3
  obtain ⟨was, hwas, _⟩ := DataW.trod_bool Tryd.underlying4 f4
  obtain ⟨is, his, _⟩ := DataW.trod_bool Tryd.underlying4 f5
  simp only [V.Tr.cs, List.cons.injEq, and_true] at htt hsh ht hu hwas his
  obtain ⟨rfl, rfl, rfl, rfl, rfl, rfl⟩ := ht
  obtain ⟨rfl, rfl, rfl, rfl, rfl, rfl⟩ := hu
  subst htt hsh hwas his
  exact ⟨tt, sh, t, A, u, C, was, is, rfl, hL, hM⟩
set_option maxRecDepth 100000 in
theorem open_touch {H : Type} {enc : TypeId × Value → H} {W : World} {r : Reach} {b0 : Nat} {v : Value} {d : DataW H} {p : List MemPlace}
    (hv : Value.okWide Tryd.prog W r b0 31 v) (h : DataW.Trod enc Tryd.prog W 0 (fun _ => true) true 31 v d p) : ∃ tt sh t A u C was is, v = .agg (thA tt sh t A u C was is) ∧ V.Lies W.heap.size W t A ∧ V.Lies W.heap.size W u C := by
  obtain ⟨fuel, hf⟩ := h
  obtain ⟨tt, sh, t, A, u, C, was, is, hc, hs⟩ := open_th hf
  refine ⟨tt, sh, t, A, u, C, was, is, ?_, hs⟩
  simp only [Value.okWide, Tryd.underlying31] at hv
  obtain ⟨cs, rfl, _, _⟩ := hv
  have hc' : cs.toList = (thA tt sh t A u C was is).toList := hc
  rw [Array.ext' hc']
end Go.Proofs.YtfcenidepkjdcaaDoor
namespace Go.Proofs.YtfcenidepkjdcaaDoor
open Go.RowKit
theorem wrap_shaped {H : Type} {enc : TypeId × Value → H} {a : Assume} {C : Checked} {os : Os} {f : FuncId} {fn : Func} {s : ChangeSpec} {conds : List PathCond} {apart fresh handsOn again : Bool} {X : World → Array Value → Prop}
    (hX : ∀ (w w' : World) (args : Array Value), w.heap = w'.heap → X w args → X w' args)
    (own : ownKnob C.prog.godebug = none) (started : os.Started) (noInit : C.prog.inits.idxOf? f = none) (hfn : C.prog.funcs[f]? = some fn)
    (witness : ∃ (w : World) (tape : Tape) (i : Input), w.os = os ∧ (w.forCall tape i).Shaped C.prog ∧ i.vars = [] ∧ Input.okWide C.prog (w.forCall tape i) .any w.heap.size f i ∧
      ((s.pre enc C.prog fn conds apart (w.forCall tape i).memory i.args ∧ X (w.forCall tape i).memory i.args) ∧ sizedMet enc C.prog fn (OpenSpec.ofChange s) apart (w.forCall tape i).memory i.args) ∧ a.holds C.prog (lone (Frame.enter C.prog f i.args .normal) [] (w.forCall tape i)))
    (contract : ∀ (W : World) (base : Nat) (args : Array Value) (ds gs : List (DataW H)) (before : List MemPlace),
      (∀ (j : Nat) t v, fn.params[j]? = some t → args[j]? = some v → Value.okWide C.prog W .any base t v) →
      DataW.Whole enc C.prog fn.params.toList s.vars apart W args.toList ds gs before → W.ShapedOpen C.prog →
      Calls C.prog f args W fun e W' => ∃ v, e = .returned v ∧ s.post enc C.prog fn apart fresh handsOn again W args v W') :
    ReturnsInHanded a C os f .any (fun w args => (s.pre enc C.prog fn conds apart w args ∧ X w args) ∧ sizedMet enc C.prog fn (OpenSpec.ofChange s) apart w args) (s.post enc C.prog fn apart fresh handsOn again) := by
  have _ := hX
  refine returnsInHanded_of_calls own started noInit witness ?_
  intro w tape i _ hsh _ hok hpre _
  obtain ⟨_, _, _, fn', hfn', _, _, _, _, hval⟩ := hok
  have e : fn' = fn := Option.some.inj (hfn'.symm.trans hfn)
  subst e
  obtain ⟨⟨⟨ds, gs, before, hw, _⟩, _⟩, _⟩ := hpre
  have hw' := DataW.Whole.of_heap (w' := w.forCall tape i) (by rfl) hw
  refine (contract (w.forCall tape i) w.heap.size i.args ds gs before hval hw' hsh).mono fun e W' ⟨v, he, hp⟩ => ?_
  subst he
  exact ChangeSpec.post_blind hp
theorem gm_of {W : World} (h : W.ShapedOpen Tryd.prog) : V.Gm W :=
  cell_of_shapedOpen_int (P := Tryd.prog) (g := 0) (t := 3) (zero := #[.int .i64 0]) h (of_decide_eq_true (by kernel_rfl)) (by kernel_rfl) rfl (by kernel_rfl) (by kernel_rfl) Tryd.underlying3
end Go.Proofs.YtfcenidepkjdcaaDoor
