/- A list of values that a call makes itself, one behind the other (Mine): how it grows, and what lies there at the end. -/
import Derived.Test.YtjmjlijmeahmfaaFst
import Derived.Deep.AppendLies
import Derived.OwnWalk
namespace Go.Proofs.Ytjmjlijmeahmfaa
open Go.RowKit
def flat : Nat → (Nat → List Value) → List Value
  | 0, _ => []
  | n + 1, F => flat n F ++ F n
theorem flat_congr {F G : Nat → List Value} : ∀ {n : Nat}, (∀ j, j < n → F j = G j) → flat n F = flat n G
  | 0, _ => rfl
  | n + 1, h => by
    show flat n F ++ F n = flat n G ++ G n
    rw [flat_congr (fun j hj => h j (by omega)), h n (by omega)]
theorem flat_len {F : Nat → List Value} (h : ∀ j, (F j).length = 6) : ∀ n, (flat n F).length = n * 6
  | 0 => rfl
  | n + 1 => by
    show (flat n F ++ F n).length = _
    rw [List.length_append, flat_len h n, h n]; omega
theorem flat_get {F : Nat → List Value} (h : ∀ j, (F j).length = 6) : ∀ n i c, i < n → c < 6 → (flat n F)[i * 6 + c]? = (F i)[c]?
  | 0, i, c, hi, _ => by omega
  | n + 1, i, c, hi, hc => by
    show (flat n F ++ F n)[i * 6 + c]? = _
    rcases Nat.lt_or_ge i n with k | k
    · rw [List.getElem?_append_left (by rw [flat_len h n]; omega)]
      exact flat_get h n i c k hc
    · obtain rfl : i = n := by omega
      rw [List.getElem?_append_right (by rw [flat_len h]; omega), flat_len h]
      congr 1
      omega
structure Mine (e : TypeId) (S : Nat → Prop) (base : Nat) (wr : World) (v : Value) (i : Nat) (T : Nat → Tr) (A : Nat → Ad) : Prop where
  own : wr.ownsRow base e 6 v i (flat i (fun j => (T j).cs (A j)))
  lies : ∀ j, j < i → LiesS (fun k => S k ∨ (base ≤ k ∧ k < wr.heap.size ∧ some k ≠ v.ownBlock)) wr (T j) (A j)
theorem cs_len (t : Tr) (x : Ad) : (t.cs x).length = 6 := rfl
theorem Mine.start (e : TypeId) (S : Nat → Prop) (base : Nat) (wr : World) (T : Nat → Tr) (A : Nat → Ad) : Mine e S base wr (.slice none 0 0) 0 T A :=
  ⟨⟨rfl, Or.inl ⟨rfl, rfl⟩⟩, fun j hj => by omega⟩
theorem Mine.kept {e : TypeId} {S : Nat → Prop} {base : Nat} {w w' : World} {v : Value} {i : Nat} {T : Nat → Tr} {A : Nat → Ad} (h : Mine e S base w v i T A) (hsz : w.heap.size ≤ w'.heap.size)
    (hS : ∀ k, S k → w'.heap[k]? = w.heap[k]?) (hk : ∀ k, base ≤ k → k < w.heap.size → w'.heap[k]? = w.heap[k]?) : Mine e S base w' v i T A := by
  refine ⟨⟨h.own.1, ?_⟩, fun j hj => ?_⟩
  · rcases h.own.2 with h1 | ⟨g, cap, cur, h1, h2, h3, h4⟩
    · exact Or.inl h1
    · exact Or.inr ⟨g, cap, cur, h1, h2, (hk g h2 (lt_of_row h3)).trans h3, h4⟩
  · refine (LiesS.kept (w' := w') (fun k hh => ?_) (h.lies j hj)).up (fun k hh => ?_)
    · rcases hh with hh | ⟨h1, h2, _⟩
      · exact hS k hh
      · exact hk k h1 h2
    · rcases hh with hh | ⟨h1, h2, h3⟩
      · exact Or.inl hh
      · exact Or.inr ⟨h1, by omega, h3⟩
theorem Mine.step {e : TypeId} {S : Nat → Prop} {base : Nat} {wr w2 w3 : World} {v : Value} {i : Nat} {T : Nat → Tr} {A : Nat → Ad} {a : Ad} {g cap H : Nat} (h : Mine e S base w2 v i T A)
    (hwr : wr.heap.size ≤ w2.heap.size) (hbase : base ≤ wr.heap.size) (hvw : ∀ k, v.ownBlock = some k → k < wr.heap.size) (hSw : ∀ k, S k → k < base)
    (hT : LiesS (fun k => S k ∨ (wr.heap.size ≤ k ∧ k < w2.heap.size)) w2 (T i) a)
    (hown : w3.ownsRow base e 6 (.slice (some ⟨g, 0, none⟩) (i + 1) cap) (i + 1) (flat i (fun j => (T j).cs (A j)) ++ (T i).cs a)) (hgr : w2.grownBy w3 v.ownBlock) (hat : v.ownBlock = some g ∨ g = H) (hH : w2.heap.size = H) :
    Mine e S base w3 (.slice (some ⟨g, 0, none⟩) (i + 1) cap) (i + 1) T (fun j => if j = i then a else A j) := by
  subst hH
  have hob : ∀ k, v.ownBlock = some k → base ≤ k := fun k hk => by
    rcases h.own.2 with ⟨rfl, _⟩ | ⟨g', cap', cur, rfl, h2, _⟩
    · cases hk
    · injection hk with hk
      have hk' : g' = k := hk
      omega
  refine ⟨?_, fun j hj => ?_⟩
  · have e1 : flat (i + 1) (fun j => (T j).cs (if j = i then a else A j)) = flat i (fun j => (T j).cs (A j)) ++ (T i).cs a := by
      show flat i (fun j => (T j).cs (if j = i then a else A j)) ++ (T i).cs (if i = i then a else A i) = _
      rw [if_pos rfl, flat_congr (fun j hj => by rw [if_neg (by omega)])]
    rw [e1]
    exact hown
  · have hgo : ∀ k, k < w2.heap.size → some k ≠ v.ownBlock → some k ≠ (Value.slice (some ⟨g, 0, none⟩) (i + 1) cap).ownBlock := fun k hk hne he => by
      injection he with he
      have he' : k = g := he
      rcases hat with h1 | h1
      · rw [h1, he'] at hne; exact hne rfl
      · omega
    have hfix : ∀ k, S k ∨ (base ≤ k ∧ k < w2.heap.size ∧ some k ≠ v.ownBlock) → S k ∨ (base ≤ k ∧ k < w3.heap.size ∧ some k ≠ (Value.slice (some ⟨g, 0, none⟩) (i + 1) cap).ownBlock) := fun k hh => by
      rcases hh with hh | ⟨h1, h2, h3⟩
      · exact Or.inl hh
      · exact Or.inr ⟨h1, Nat.lt_of_lt_of_le h2 hgr.size, hgo k h2 h3⟩
    have hsame : ∀ k, S k ∨ (base ≤ k ∧ k < w2.heap.size ∧ some k ≠ v.ownBlock) → w3.heap[k]? = w2.heap[k]? := fun k hh => by
      rcases hh with hh | ⟨h1, h2, h3⟩
      · have := hSw k hh
        exact hgr.block k (by omega) (fun he => by have := hob k he.symm; omega)
      · exact hgr.block k h2 h3
    by_cases hji : j = i
    · subst hji
      show LiesS _ w3 (T j) (if j = j then a else A j)
      rw [if_pos rfl]
      refine ((hT.up (fun k hh => ?_)).kept hsame).up hfix
      rcases hh with hh | ⟨h1, h2⟩
      · exact Or.inl hh
      · exact Or.inr ⟨by omega, h2, fun he => by have := hvw k he.symm; omega⟩
    · show LiesS _ w3 (T j) (if j = i then a else A j)
      rw [if_neg hji]
      exact ((h.lies j (by omega)).kept hsame).up hfix
theorem at6_of_flat {w : World} {g : Nat} {cur : Array Value} {e : TypeId} {n : Nat} {T : Nat → Tr} {A : Nat → Ad} {i : Nat} (hg : w.heap[g]? = some (.cells cur e (0, 0))) (hc : cur.toList.take (n * 6) = flat n (fun j => (T j).cs (A j))) (hi : i < n) :
    At6 w g (0 + i * 6) (T i) (A i) := by
  have key : ∀ c, c < 6 → w.cell? ⟨g, i * 6 + c, none⟩ = ((T i).cs (A i))[c]? := fun c hc6 => by
    rw [cell_of_row w g _ cur e _ hg, ← flat_get (F := fun j => (T j).cs (A j)) (fun j => cs_len _ _) n i c hi hc6, ← hc, List.getElem?_take_of_lt (by omega)]
    simp
  rw [Nat.zero_add]
  exact ⟨key 0 (by omega), key 1 (by omega), key 2 (by omega), key 3 (by omega), key 4 (by omega), key 5 (by omega)⟩
theorem Mine.done {e : TypeId} {S S' : Nat → Prop} {base : Nat} {wr : World} {v : Value} {m : Nat} {T : Nat → Tr} {A : Nat → Ad} (h : Mine e S base wr v m T A) (hS : ∀ k, S k → S' k) (hb : ∀ k, base ≤ k → k < wr.heap.size → S' k) :
    ∃ pa pc, v = .slice pa m pc ∧ (m ≤ pc ∧ pc ≤ maxLen) ∧ (0 < m → ∃ b o, pa = some ⟨b, o, none⟩ ∧ S' b ∧ ∀ i, i < m → At6 wr b (o + i * 6) (T i) (A i)) ∧ ∀ i, i < m → LiesS S' wr (T i) (A i) := by
  have hl : ∀ i, i < m → LiesS S' wr (T i) (A i) := fun i hi => (h.lies i hi).up (fun k hh => by
    rcases hh with hh | ⟨h1, h2, _⟩
    · exact hS k hh
    · exact hb k h1 h2)
  rcases h.own.2 with ⟨rfl, h0⟩ | ⟨g, cap, cur, rfl, h1, h2, h3, h4, _, h6⟩
  · exact ⟨none, 0, by rw [h0], ⟨by omega, by unfold maxLen; omega⟩, fun hm => by omega, hl⟩
  · exact ⟨_, _, rfl, ⟨h3, h4⟩, fun _ => ⟨g, 0, rfl, hb g h1 (lt_of_row h2), fun i hi => at6_of_flat h2 h6 hi⟩, hl⟩
theorem Mine.block_lt {e : TypeId} {S : Nat → Prop} {base : Nat} {wr : World} {v : Value} {m : Nat} {T : Nat → Tr} {A : Nat → Ad} (h : Mine e S base wr v m T A) : ∀ k, v.ownBlock = some k → k < wr.heap.size := fun k hk => by
  rcases h.own.2 with ⟨rfl, _⟩ | ⟨g, cap, cur, rfl, _, h2, _⟩
  · cases hk
  · injection hk with hk
    have hk' : g = k := hk
    rw [← hk']
    exact lt_of_row h2
theorem Mine.block_ge {e : TypeId} {S : Nat → Prop} {base : Nat} {wr : World} {v : Value} {m : Nat} {T : Nat → Tr} {A : Nat → Ad} (h : Mine e S base wr v m T A) : ∀ k, v.ownBlock = some k → base ≤ k := fun k hk => by
  rcases h.own.2 with ⟨rfl, _⟩ | ⟨g, cap, cur, rfl, h2, _⟩
  · cases hk
  · injection hk with hk
    have hk' : g = k := hk
    omega
theorem info25 : (Try.prog.info? 25).map (fun i => (i.zero, i.size, i.bytes)) = some (some (.agg #[.int .i64 0, .bool false, .int .i64 0, .string ⟨#[]⟩, .slice none 0 0, .slice none 0 0]), 6, 88) := by kernel_rfl
theorem info33 : (Try.prog.info? 33).map (fun i => (i.zero, i.size, i.bytes)) = some (some (.agg #[.int .i64 0, .bool false, .int .i64 0, .string ⟨#[]⟩, .slice none 0 0, .slice none 0 0]), 6, 88) := by kernel_rfl
def set6 (w : World) (z : Nat) (c0 c1 c2 c3 c4 c5 : Value) : World :=
  (((((w.setCell ⟨z, 0, none⟩ c0).setCell ⟨z, 1, none⟩ c1).setCell ⟨z, 2, none⟩ c2).setCell ⟨z, 3, none⟩ c3).setCell ⟨z, 4, none⟩ c4).setCell ⟨z, 5, none⟩ c5
theorem set6_block (w : World) (z : Nat) (c0 c1 c2 c3 c4 c5 : Value) (k : Nat) (h : k ≠ z) : (set6 w z c0 c1 c2 c3 c4 c5).heap[k]? = w.heap[k]? := by
  unfold set6
  rw [Below.heap_setCell _ _ _ k h, Below.heap_setCell _ _ _ k h, Below.heap_setCell _ _ _ k h, Below.heap_setCell _ _ _ k h, Below.heap_setCell _ _ _ k h, Below.heap_setCell _ _ _ k h]
theorem set6_size (w : World) (z : Nat) (c0 c1 c2 c3 c4 c5 : Value) : (set6 w z c0 c1 c2 c3 c4 c5).heap.size = w.heap.size := by unfold set6; simp
theorem set6_below {B : Nat} {a w : World} (hb : Below B a w) (z : Nat) (hz : B ≤ z) (c0 c1 c2 c3 c4 c5 : Value) : Below B a (set6 w z c0 c1 c2 c3 c4 c5) :=
  (((((hb.setCell (p := ⟨z, 0, none⟩) hz c0).setCell (p := ⟨z, 1, none⟩) hz c1).setCell (p := ⟨z, 2, none⟩) hz c2).setCell (p := ⟨z, 3, none⟩) hz c3).setCell (p := ⟨z, 4, none⟩) hz c4).setCell (p := ⟨z, 5, none⟩) hz c5
theorem set6_row {w : World} {z : Nat} {t : TypeId} {fr : Nat × Nat} {a0 a1 a2 a3 a4 a5 : Value} (h : w.heap[z]? = some (.cells #[a0, a1, a2, a3, a4, a5] t fr)) (c0 c1 c2 c3 c4 c5 : Value) :
    (set6 w z c0 c1 c2 c3 c4 c5).heap[z]? = some (.cells #[c0, c1, c2, c3, c4, c5] t fr) :=
  row_setCell (k := 5) (row_setCell (k := 4) (row_setCell (k := 3) (row_setCell (k := 2) (row_setCell (k := 1) (row_setCell (k := 0) h c0) c1) c2) c3) c4) c5
end Go.Proofs.Ytjmjlijmeahmfaa
