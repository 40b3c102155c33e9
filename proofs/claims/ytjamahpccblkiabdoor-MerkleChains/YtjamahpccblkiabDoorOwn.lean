/- Lists that a call makes itself, one element behind the other: of strings, of yes and no, of lists; what the types are. -/
import Derived.Test.YtjamahpccblkiabDoorVer
import Derived.Deep.AppendLies
import Derived.OwnWalk
namespace Go.Proofs.YtjamahpccblkiabDoor
open Go.RowKit
theorem info9 : (Tryd.prog.info? 9).map (fun i => (i.zero, i.size, i.bytes)) = some (some (.string ⟨#[]⟩), 1, 16) := by kernel_rfl
theorem info4 : (Tryd.prog.info? 4).map (fun i => (i.zero, i.size, i.bytes)) = some (some (.bool false), 1, 1) := by kernel_rfl
theorem info22 : (Tryd.prog.info? 22).map (fun i => (i.zero, i.size, i.bytes)) = some (some (.slice none 0 0), 1, 24) := by kernel_rfl
def strs (l : List ByteArray) : List Value := l.map .string
def boos (l : List Bool) : List Value := l.map .bool
theorem strs_len (l : List ByteArray) : (strs l).length = l.length := List.length_map ..
theorem boos_len (l : List Bool) : (boos l).length = l.length := List.length_map ..
theorem strs_snoc (l : List ByteArray) (x : ByteArray) : strs (l ++ [x]) = strs l ++ [.string x] := by simp [strs]
theorem boos_snoc (l : List Bool) (x : Bool) : boos (l ++ [x]) = boos l ++ [.bool x] := by simp [boos]
theorem own_cell {w : World} {base : Nat} {e : TypeId} {v : Value} {n : Nat} {xs : List Value} (h : w.ownsRow base e 1 v n xs) (hn : 0 < n) :
    ∃ g cap, v = .slice (some ⟨g, 0, none⟩) n cap ∧ base ≤ g ∧ g < w.heap.size ∧ (n ≤ cap ∧ cap ≤ maxLen) ∧ ∀ i x, xs[i]? = some x → w.cell? ⟨g, i, none⟩ = some x := by
  obtain ⟨hl, h0⟩ := h
  rcases h0 with ⟨_, h0⟩ | ⟨g, cap, cur, rfl, h1, h2, h3, h4, h5, h6⟩
  · omega
  · refine ⟨g, cap, rfl, h1, lt_of_row h2, ⟨h3, h4⟩, fun i x hx => ?_⟩
    have hi : i < n := by
      have := (List.getElem?_eq_some_iff.1 hx).1
      omega
    rw [cell_of_row w g i cur e _ h2]
    rw [← h6, List.getElem?_take_of_lt (by omega)] at hx
    simpa using hx
theorem own_slice {w : World} {base : Nat} {e : TypeId} {v : Value} {n : Nat} {xs : List Value} (h : w.ownsRow base e 1 v n xs) : ∃ p cap, v = .slice p n cap ∧ (n ≤ cap ∧ cap ≤ maxLen) := by
  obtain ⟨hl, h0⟩ := h
  rcases h0 with ⟨rfl, h0⟩ | ⟨g, cap, cur, rfl, h1, h2, h3, h4, h5, h6⟩
  · exact ⟨none, 0, by rw [h0], by unfold maxLen; omega⟩
  · exact ⟨_, _, rfl, h3, h4⟩
theorem own_strs {w : World} {base : Nat} {v : Value} {n : Nat} {l : List ByteArray} (h : w.ownsRow base 9 1 v n (strs l)) : ∃ p cap, v = .slice p n cap ∧ Strs w p n cap (fun i => l.getD i ByteArray.empty) := by
  have hl : l.length = n := by have := h.1; rw [strs_len] at this; omega
  by_cases hn : 0 < n
  · obtain ⟨g, cap, rfl, _, h2, h3, h4⟩ := own_cell h hn
    refine ⟨_, _, rfl, h3, fun _ => ⟨g, 0, rfl, h2, fun i hi => ?_⟩⟩
    rw [Nat.zero_add]
    refine h4 i _ ?_
    simp [strs, List.getD_eq_getElem?_getD, show i < l.length by omega]
  · obtain ⟨p, cap, rfl, h3⟩ := own_slice h
    exact ⟨_, _, rfl, h3, fun h => absurd h hn⟩
theorem own_later {w w' : World} {base : Nat} {e : TypeId} {v : Value} {n : Nat} {xs : List Value} (h : w.ownsRow base e 1 v n xs) (hb : Below w.heap.size w w') : w'.ownsRow base e 1 v n xs := by
  refine ⟨h.1, ?_⟩
  rcases h.2 with h1 | ⟨g, cap, cur, h1, h2, h3, h4⟩
  · exact Or.inl h1
  · exact Or.inr ⟨g, cap, cur, h1, h2, (below_heap hb _ (lt_of_row h3)).trans h3, h4⟩
end Go.Proofs.YtjamahpccblkiabDoor
