/- How a value that is handed in is read: as a tree, with its memory. -/
import Derived.Test.YtjmjlijmeahmfaaFst
import Derived.Test.YtjmjlijmeahmfaaRows
import Derived.WalkKit
import Derived.ProofKit
import Derived.OpenShut
import Derived.ShutString
import Derived.Deep.Strs
import Derived.Deep.Fields
namespace Go.Proofs.Ytjmjlijmeahmfaa
open Go.ChangeShapes Go.WideShapes Go.ChangeAt Go.RowKit Go.Deep
theorem laidOut : laidOutB Try.prog = true := by kernel_rfl
theorem add_at (g q n : Nat) : (⟨g, q, none⟩ : Addr).add n = ⟨g, q + n, none⟩ := by unfold Addr.add; split <;> simp_all
theorem six_of {l : List Value} (h : l.length = 6) : ∃ a b c d e f, l = [a, b, c, d, e, f] := by
  match l, h with
  | [a, b, c, d, e, f], _ => exact ⟨a, b, c, d, e, f, rfl⟩
theorem some_of {α : Type} {l : List α} {i : Nat} (h : i < l.length) : ∃ x, l[i]? = some x := ⟨l[i], List.getElem?_eq_getElem h⟩
theorem open_names {H : Type} {enc : TypeId × Value → H} {W : World} {fuel : Nat} {cs : List Value} {x : DataW H × List MemPlace}
    (h : DataW.trod enc Try.prog W 0 (fun _ => true) true fuel 23 cs = some x) :
    ∃ (na : Option Addr) (q nc : Nat) (g : Nat → ByteArray), cs = [.slice na q nc] ∧ Names W.heap.size W q g na nc := by
  rcases open_strs (P := Try.prog) Try.underlying23 Try.underlying9 (by kernel_rfl) h with ⟨rfl, _⟩ | ⟨a, len, cap, m, S, rfl, _, hl, hm, hmm, _, hall⟩
  · exact ⟨none, 0, 0, fun _ => ⟨#[]⟩, rfl, Nat.le_refl _, Nat.zero_le _, fun i hi => absurd hi (Nat.not_lt_zero _), fun h0 => absurd h0 (Nat.lt_irrefl _)⟩
  · simp only [if_true] at hmm
    subst hmm
    refine ⟨some a, len, m, S, rfl, hl, hm, fun i hi => (hall i (by omega)).2, fun h0 => ?_⟩
    obtain ⟨g, q, spot⟩ := a
    have hspot : spot = none := by simpa [Addr.add] using World.cell?_spot (hall 0 (by omega)).1
    subst hspot
    refine ⟨g, q, rfl, ?_, fun i hi => ?_⟩
    · have := block_lt (hall 0 (by omega)).1
      rw [add_at] at this
      exact this
    · have := (hall i (by omega)).1
      rw [add_at] at this
      exact this
set_option maxRecDepth 100000 in
theorem open_tree {H : Type} {enc : TypeId × Value → H} {W : World} (fuel : Nat) : ∀ {cs : List Value} {x : DataW H × List MemPlace},
    DataW.trod enc Try.prog W 0 (fun _ => true) true fuel 25 cs = some x → ∃ t A, cs = Tr.cs t A ∧ Lies W.heap.size W t A := by
  induction fuel using Nat.strongRecOn with
  | _ fuel ih =>
    intro cs x h
    obtain ⟨xs, n, rfl, _, hl, hxl, hf⟩ := DataW.trod_struct Try.underlying25 h
    have hc25 : Try.prog.cellsOf 25 = 6 := by kernel_rfl
    rw [hc25] at hl
    obtain ⟨c0, c1, c2, c3, c4, c5, rfl⟩ := six_of hl
    have hxl' : xs.length = 6 := hxl
    have hc3 : Try.prog.cellsOf 3 = 1 := by kernel_rfl
    have hc4 : Try.prog.cellsOf 4 = 1 := by kernel_rfl
    have hc2 : Try.prog.cellsOf 2 = 1 := by kernel_rfl
    have hc9 : Try.prog.cellsOf 9 = 1 := by kernel_rfl
    have hc22 : Try.prog.cellsOf 22 = 1 := by kernel_rfl
    have hc23 : Try.prog.cellsOf 23 = 1 := by kernel_rfl
    obtain ⟨y0, e0⟩ := some_of (l := xs) (i := 0) (by omega)
    obtain ⟨y1, e1⟩ := some_of (l := xs) (i := 1) (by omega)
    obtain ⟨y2, e2⟩ := some_of (l := xs) (i := 2) (by omega)
    obtain ⟨y3, e3⟩ := some_of (l := xs) (i := 3) (by omega)
    obtain ⟨y4, e4⟩ := some_of (l := xs) (i := 4) (by omega)
    obtain ⟨y5, e5⟩ := some_of (l := xs) (i := 5) (by omega)
    have f0 : DataW.trod enc Try.prog W 0 (fun _ => true) true n 3 [c0] = some y0 := by
      have g : (List.take (Try.prog.cellsOf 3) (List.drop 0 [c0, c1, c2, c3, c4, c5])) = [c0] := by rw [hc3]; rfl
      rw [← g, ← e0]
      exact hf 0 _ rfl
    have f1 : DataW.trod enc Try.prog W 0 (fun _ => true) true n 4 [c1] = some y1 := by
      have g : (List.take (Try.prog.cellsOf 4) (List.drop 1 [c0, c1, c2, c3, c4, c5])) = [c1] := by rw [hc4]; rfl
      rw [← g, ← e1]
      exact hf 1 _ rfl
    have f2 : DataW.trod enc Try.prog W 0 (fun _ => true) true n 2 [c2] = some y2 := by
      have g : (List.take (Try.prog.cellsOf 2) (List.drop 2 [c0, c1, c2, c3, c4, c5])) = [c2] := by rw [hc2]; rfl
      rw [← g, ← e2]
      exact hf 2 _ rfl
    have f3 : DataW.trod enc Try.prog W 0 (fun _ => true) true n 9 [c3] = some y3 := by
      have g : (List.take (Try.prog.cellsOf 9) (List.drop 3 [c0, c1, c2, c3, c4, c5])) = [c3] := by rw [hc9]; rfl
      rw [← g, ← e3]
      exact hf 3 _ rfl
    have f4 : DataW.trod enc Try.prog W 0 (fun _ => true) true n 22 [c4] = some y4 := by
      have g : (List.take (Try.prog.cellsOf 22) (List.drop 4 [c0, c1, c2, c3, c4, c5])) = [c4] := by rw [hc22]; rfl
      rw [← g, ← e4]
      exact hf 4 _ rfl
    have f5 : DataW.trod enc Try.prog W 0 (fun _ => true) true n 23 [c5] = some y5 := by
      have g : (List.take (Try.prog.cellsOf 23) (List.drop 5 [c0, c1, c2, c3, c4, c5])) = [c5] := by rw [hc23]; rfl
      rw [← g, ← e5]
      exact hf 5 _ rfl
    obtain ⟨k, hk, _, hkw⟩ := DataW.trod_int Try.underlying3 f0
    obtain ⟨b, hb, _⟩ := DataW.trod_bool Try.underlying4 f1
    obtain ⟨z, hz, _, hzw⟩ := DataW.trod_int Try.underlying2 f2
    obtain ⟨s, hs, _, hsw⟩ := DataW.trod_string Try.underlying9 f3
    obtain ⟨na, q, nc, g, hn, hnn⟩ := open_names f5
    simp only [List.cons.injEq, and_true] at hk hb hz hs hn
    subst hk hb hz hs hn
    have bk := bounds_i64 hkw
    have bz := bounds_i64 hzw
    rcases DataW.trod_slice Try.underlying22 f4 with ⟨hp, _⟩ | ⟨a, len, cap, elems, rest, n', rfl, hp, _, _, hle, hcap, hel, hall, _, _⟩
    · simp only [List.cons.injEq, and_true] at hp
      subst hp
      exact ⟨.mk k b z s 0 (fun _ => .no) q g, ⟨none, 0, na, nc⟩, rfl, .mk (fun _ => ⟨none, 0, none, 0⟩) (by omega) (by omega) hsw ⟨Nat.le_refl _, Nat.zero_le _⟩ (fun h0 => absurd h0 (Nat.lt_irrefl _)) (fun i hi => absurd hi (Nat.not_lt_zero _)) hnn⟩
    · simp only [List.cons.injEq, and_true] at hp
      subst hp
      rw [hc25] at hall
      have each : ∀ i, i < len → ∃ y : Tr × Ad, W.cells? 0 (a.add (i * 6)) 6 = some (y.1.cs y.2) ∧ Lies W.heap.size W y.1 y.2 := by
        intro i hi
        have hi' := hall i hi
        rw [List.getElem?_eq_getElem (by omega)] at hi'
        obtain ⟨cs', h1, h2⟩ := Option.bind_eq_some_iff.1 hi'
        obtain ⟨t, A, rfl, hL⟩ := ih n' (by omega) h2
        exact ⟨(t, A), h1, hL⟩
      haveI : Inhabited (Tr × Ad) := ⟨(.no, ⟨none, 0, none, 0⟩)⟩
      obtain ⟨F, hF⟩ := choose_lt each
      refine ⟨.mk k b z s len (fun i => (F i).1) q g, ⟨some a, cap, na, nc⟩, rfl, .mk (fun i => (F i).2) (by omega) (by omega) hsw ⟨hle, hcap⟩ (fun h0 => ?_) (fun i hi => (hF i hi).2) hnn⟩
      obtain ⟨gb, go, spot⟩ := a
      have hce := fun i hi => World.cells?_some (hF i hi).1
      have hspot : spot = none := by
        have := (hce 0 h0).2.2 0 (by omega)
        simpa [Addr.add] using World.cell?_spot this
      subst hspot
      have hcell : ∀ i, i < len → ∀ j, j < 6 → W.cell? ⟨gb, go + i * 6 + j, none⟩ = ((F i).1.cs (F i).2)[j]? := fun i hi j hj => by
        have := (hce i hi).2.2 j hj
        rw [add_at, add_at] at this
        exact this
      refine ⟨gb, go, rfl, ?_, fun i hi => ⟨hcell i hi 0 (by omega), hcell i hi 1 (by omega), hcell i hi 2 (by omega), hcell i hi 3 (by omega), hcell i hi 4 (by omega), hcell i hi 5 (by omega)⟩⟩
      exact block_lt ((hcell 0 h0 0 (by omega)).trans rfl)
set_option maxRecDepth 100000 in
theorem open_value {H : Type} {enc : TypeId × Value → H} {W : World} {r : Reach} {b0 : Nat} {v : Value} {d : DataW H} {p : List MemPlace}
    (hv : Value.okWide Try.prog W r b0 25 v) (h : DataW.Trod enc Try.prog W 0 (fun _ => true) true 25 v d p) : ∃ t A, v = Tr.val t A ∧ Lies W.heap.size W t A := by
  obtain ⟨fuel, hf⟩ := h
  obtain ⟨t, A, hc, hL⟩ := open_tree fuel hf
  refine ⟨t, A, ?_, hL⟩
  simp only [Value.okWide, Try.underlying25] at hv
  obtain ⟨cs, rfl, _, _⟩ := hv
  have hc' : cs.toList = t.cs A := hc
  show Value.agg cs = Value.agg (t.cs A).toArray
  rw [← hc']
end Go.Proofs.Ytjmjlijmeahmfaa
