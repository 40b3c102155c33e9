/- A list of values that a call makes itself, one behind the other (Mine): how it grows, and what lies there at the end. Two lists that a call makes itself side by side: values (Twin), and their names (Nms). The number with which bytes begin (first): of any bytes, at most 8192, the call returns what the plain facts take of them, and changes nothing. -/
import Derived.Test.YtfcenidepkjdcaaDoorXaa
import Derived.Deep.AppendLies
import Derived.OwnWalk
import Derived.WalkKit
import Derived.WalkSpells
import Derived.WalkLawsBesides
import Derived.Deep.QuietTactic
import Derived.BigQuiet
import Derived.Laws.BitsAllLaws
namespace Go.Proofs.YtfcenidepkjdcaaDoor.V
open Go.RowKit
def flat : Nat → (Nat → List Value) → List Value
  | 0, _ => []
  | n + 1, F => flat n F ++ F n
set_option maxRecDepth 100000 in
theorem flat_congr {F G : Nat → List Value} : ∀ {n : Nat}, (∀ j, j < n → F j = G j) → flat n F = flat n G
  | 0, _ => rfl
  | n + 1, h => by
    show flat n F ++ F n = flat n G ++ G n
    rw [flat_congr (fun j hj => h j (by omega)), h n (by omega)]
set_option maxRecDepth 100000 in
theorem flat_len {F : Nat → List Value} (h : ∀ j, (F j).length = 6) : ∀ n, (flat n F).length = n * 6
  | 0 => rfl
  | n + 1 => by
    show (flat n F ++ F n).length = _
    rw [List.length_append, flat_len h n, h n]; omega
set_option maxRecDepth 100000 in
theorem flat_get {F : Nat → List Value} (h : ∀ j, (F j).length = 6) : ∀ n i c, i < n → c < 6 → (flat n F)[i * 6 + c]? = (F i)[c]?
  | 0, i, c, hi, _ => by omega
  | n + 1, i, c, hi, hc => by
    show (flat n F ++ F n)[i * 6 + c]? = _
    rcases Nat.lt_or_ge i n with k | k
    · rw [List.getElem?_append_left (by rw [flat_len h n]; omega)]
      exact flat_get h n i c k hc
    · obtain rfl : i = n := by omega
      rw [List.getElem?_append_right (by rw [flat_len h]; omega), flat_len h]
      congr 1
      omega
structure Mine (e : TypeId) (S : Nat → Prop) (base : Nat) (wr : World) (v : Value) (i : Nat) (T : Nat → Tr) (A : Nat → Ad) : Prop where
  own : wr.ownsRow base e 6 v i (flat i (fun j => (T j).cs (A j)))
  lies : ∀ j, j < i → LiesS (fun k => S k ∨ (base ≤ k ∧ k < wr.heap.size ∧ some k ≠ v.ownBlock)) wr (T j) (A j)
set_option maxRecDepth 100000 in
theorem cs_len (t : Tr) (x : Ad) : (t.cs x).length = 6 := rfl
set_option maxRecDepth 100000 in
theorem Mine.start (e : TypeId) (S : Nat → Prop) (base : Nat) (wr : World) (T : Nat → Tr) (A : Nat → Ad) : Mine e S base wr (.slice none 0 0) 0 T A :=
  ⟨⟨rfl, Or.inl ⟨rfl, rfl⟩⟩, fun j hj => by omega⟩
set_option maxRecDepth 100000 in
theorem Mine.kept {e : TypeId} {S : Nat → Prop} {base : Nat} {w w' : World} {v : Value} {i : Nat} {T : Nat → Tr} {A : Nat → Ad} (h : Mine e S base w v i T A) (hsz : w.heap.size ≤ w'.heap.size)
    (hS : ∀ k, S k → w'.heap[k]? = w.heap[k]?) (hk : ∀ k, base ≤ k → k < w.heap.size → w'.heap[k]? = w.heap[k]?) : Mine e S base w' v i T A := by
  refine ⟨⟨h.own.1, ?_⟩, fun j hj => ?_⟩
  · rcases h.own.2 with h1 | ⟨g, cap, cur, h1, h2, h3, h4⟩
    · exact Or.inl h1
    · exact Or.inr ⟨g, cap, cur, h1, h2, (hk g h2 (lt_of_row h3)).trans h3, h4⟩
  · refine (LiesS.kept (w' := w') (fun k hh => ?_) (h.lies j hj)).up (fun k hh => ?_)
    · rcases hh with hh | ⟨h1, h2, _⟩
      · exact hS k hh
      · exact hk k h1 h2
    · rcases hh with hh | ⟨h1, h2, h3⟩
      · exact Or.inl hh
      · exact Or.inr ⟨h1, by omega, h3⟩
set_option maxRecDepth 100000 in
theorem Mine.step {e : TypeId} {S : Nat → Prop} {base : Nat} {wr w2 w3 : World} {v : Value} {i : Nat} {T : Nat → Tr} {A : Nat → Ad} {a : Ad} {g cap H : Nat} (h : Mine e S base w2 v i T A)
    (hwr : wr.heap.size ≤ w2.heap.size) (hbase : base ≤ wr.heap.size) (hvw : ∀ k, v.ownBlock = some k → k < wr.heap.size) (hSw : ∀ k, S k → k < base)
    (hT : LiesS (fun k => S k ∨ (wr.heap.size ≤ k ∧ k < w2.heap.size)) w2 (T i) a)
    (hown : w3.ownsRow base e 6 (.slice (some ⟨g, 0, none⟩) (i + 1) cap) (i + 1) (flat i (fun j => (T j).cs (A j)) ++ (T i).cs a)) (hgr : w2.grownBy w3 v.ownBlock) (hat : v.ownBlock = some g ∨ g = H) (hH : w2.heap.size = H) :
    Mine e S base w3 (.slice (some ⟨g, 0, none⟩) (i + 1) cap) (i + 1) T (fun j => if j = i then a else A j) := by
  subst hH
  have hob : ∀ k, v.ownBlock = some k → base ≤ k := fun k hk => by
    rcases h.own.2 with ⟨rfl, _⟩ | ⟨g', cap', cur, rfl, h2, _⟩
    · cases hk
    · injection hk with hk
      have hk' : g' = k := hk
      omega
  refine ⟨?_, fun j hj => ?_⟩
  · have e1 : flat (i + 1) (fun j => (T j).cs (if j = i then a else A j)) = flat i (fun j => (T j).cs (A j)) ++ (T i).cs a := by
      show flat i (fun j => (T j).cs (if j = i then a else A j)) ++ (T i).cs (if i = i then a else A i) = _
      rw [if_pos rfl, flat_congr (fun j hj => by rw [if_neg (by omega)])]
    rw [e1]
    exact hown
  · have hgo : ∀ k, k < w2.heap.size → some k ≠ v.ownBlock → some k ≠ (Value.slice (some ⟨g, 0, none⟩) (i + 1) cap).ownBlock := fun k hk hne he => by
      injection he with he
      have he' : k = g := he
      rcases hat with h1 | h1
      · rw [h1, he'] at hne; exact hne rfl
      · omega
    have hfix : ∀ k, S k ∨ (base ≤ k ∧ k < w2.heap.size ∧ some k ≠ v.ownBlock) → S k ∨ (base ≤ k ∧ k < w3.heap.size ∧ some k ≠ (Value.slice (some ⟨g, 0, none⟩) (i + 1) cap).ownBlock) := fun k hh => by
      rcases hh with hh | ⟨h1, h2, h3⟩
      · exact Or.inl hh
      · exact Or.inr ⟨h1, Nat.lt_of_lt_of_le h2 hgr.size, hgo k h2 h3⟩
    have hsame : ∀ k, S k ∨ (base ≤ k ∧ k < w2.heap.size ∧ some k ≠ v.ownBlock) → w3.heap[k]? = w2.heap[k]? := fun k hh => by
      rcases hh with hh | ⟨h1, h2, h3⟩
      · have := hSw k hh
        exact hgr.block k (by omega) (fun he => by have := hob k he.symm; omega)
      · exact hgr.block k h2 h3
    by_cases hji : j = i
    · subst hji
      show LiesS _ w3 (T j) (if j = j then a else A j)
      rw [if_pos rfl]
      refine ((hT.up (fun k hh => ?_)).kept hsame).up hfix
      rcases hh with hh | ⟨h1, h2⟩
      · exact Or.inl hh
      · exact Or.inr ⟨by omega, h2, fun he => by have := hvw k he.symm; omega⟩
    · show LiesS _ w3 (T j) (if j = i then a else A j)
      rw [if_neg hji]
      exact ((h.lies j (by omega)).kept hsame).up hfix
set_option maxRecDepth 100000 in
theorem at6_of_flat {w : World} {g : Nat} {cur : Array Value} {e : TypeId} {n : Nat} {T : Nat → Tr} {A : Nat → Ad} {i : Nat} (hg : w.heap[g]? = some (.cells cur e (0, 0))) (hc : cur.toList.take (n * 6) = flat n (fun j => (T j).cs (A j))) (hi : i < n) :
    At6 w g (0 + i * 6) (T i) (A i) := by
  have key : ∀ c, c < 6 → w.cell? ⟨g, i * 6 + c, none⟩ = ((T i).cs (A i))[c]? := fun c hc6 => by
    rw [cell_of_row w g _ cur e _ hg, ← flat_get (F := fun j => (T j).cs (A j)) (fun j => cs_len _ _) n i c hi hc6, ← hc, List.getElem?_take_of_lt (by omega)]
    simp
  rw [Nat.zero_add]
  exact ⟨key 0 (by omega), key 1 (by omega), key 2 (by omega), key 3 (by omega), key 4 (by omega), key 5 (by omega)⟩
set_option maxRecDepth 100000 in
theorem Mine.done {e : TypeId} {S S' : Nat → Prop} {base : Nat} {wr : World} {v : Value} {m : Nat} {T : Nat → Tr} {A : Nat → Ad} (h : Mine e S base wr v m T A) (hS : ∀ k, S k → S' k) (hb : ∀ k, base ≤ k → k < wr.heap.size → S' k) :
    ∃ pa pc, v = .slice pa m pc ∧ (m ≤ pc ∧ pc ≤ maxLen) ∧ (0 < m → ∃ b o, pa = some ⟨b, o, none⟩ ∧ S' b ∧ ∀ i, i < m → At6 wr b (o + i * 6) (T i) (A i)) ∧ ∀ i, i < m → LiesS S' wr (T i) (A i) := by
  have hl : ∀ i, i < m → LiesS S' wr (T i) (A i) := fun i hi => (h.lies i hi).up (fun k hh => by
    rcases hh with hh | ⟨h1, h2, _⟩
    · exact hS k hh
    · exact hb k h1 h2)
  rcases h.own.2 with ⟨rfl, h0⟩ | ⟨g, cap, cur, rfl, h1, h2, h3, h4, _, h6⟩
  · exact ⟨none, 0, by rw [h0], ⟨by omega, by unfold maxLen; omega⟩, fun hm => by omega, hl⟩
  · exact ⟨_, _, rfl, ⟨h3, h4⟩, fun _ => ⟨g, 0, rfl, hb g h1 (lt_of_row h2), fun i hi => at6_of_flat h2 h6 hi⟩, hl⟩
set_option maxRecDepth 100000 in
theorem Mine.block_lt {e : TypeId} {S : Nat → Prop} {base : Nat} {wr : World} {v : Value} {m : Nat} {T : Nat → Tr} {A : Nat → Ad} (h : Mine e S base wr v m T A) : ∀ k, v.ownBlock = some k → k < wr.heap.size := fun k hk => by
  rcases h.own.2 with ⟨rfl, _⟩ | ⟨g, cap, cur, rfl, _, h2, _⟩
  · cases hk
  · injection hk with hk
    have hk' : g = k := hk
    rw [← hk']
    exact lt_of_row h2
set_option maxRecDepth 100000 in
theorem Mine.block_ge {e : TypeId} {S : Nat → Prop} {base : Nat} {wr : World} {v : Value} {m : Nat} {T : Nat → Tr} {A : Nat → Ad} (h : Mine e S base wr v m T A) : ∀ k, v.ownBlock = some k → base ≤ k := fun k hk => by
  rcases h.own.2 with ⟨rfl, _⟩ | ⟨g, cap, cur, rfl, h2, _⟩
  · cases hk
  · injection hk with hk
    have hk' : g = k := hk
    omega
set_option maxRecDepth 100000 in
theorem info25 : (Tryd.prog.info? 29).map (fun i => (i.zero, i.size, i.bytes)) = some (some (.agg #[.int .i64 0, .bool false, .int .i64 0, .string ⟨#[]⟩, .slice none 0 0, .slice none 0 0]), 6, 88) := by kernel_rfl
set_option maxRecDepth 100000 in
theorem info33 : (Tryd.prog.info? 80).map (fun i => (i.zero, i.size, i.bytes)) = some (some (.agg #[.int .i64 0, .bool false, .int .i64 0, .string ⟨#[]⟩, .slice none 0 0, .slice none 0 0]), 6, 88) := by kernel_rfl
def set6 (w : World) (z : Nat) (c0 c1 c2 c3 c4 c5 : Value) : World :=
  (((((w.setCell ⟨z, 0, none⟩ c0).setCell ⟨z, 1, none⟩ c1).setCell ⟨z, 2, none⟩ c2).setCell ⟨z, 3, none⟩ c3).setCell ⟨z, 4, none⟩ c4).setCell ⟨z, 5, none⟩ c5
set_option maxRecDepth 100000 in
theorem set6_block (w : World) (z : Nat) (c0 c1 c2 c3 c4 c5 : Value) (k : Nat) (h : k ≠ z) : (set6 w z c0 c1 c2 c3 c4 c5).heap[k]? = w.heap[k]? := by
  unfold set6
  rw [Below.heap_setCell _ _ _ k h, Below.heap_setCell _ _ _ k h, Below.heap_setCell _ _ _ k h, Below.heap_setCell _ _ _ k h, Below.heap_setCell _ _ _ k h, Below.heap_setCell _ _ _ k h]
set_option maxRecDepth 100000 in
theorem set6_size (w : World) (z : Nat) (c0 c1 c2 c3 c4 c5 : Value) : (set6 w z c0 c1 c2 c3 c4 c5).heap.size = w.heap.size := by unfold set6; simp
set_option maxRecDepth 100000 in
theorem set6_below {B : Nat} {a w : World} (hb : Below B a w) (z : Nat) (hz : B ≤ z) (c0 c1 c2 c3 c4 c5 : Value) : Below B a (set6 w z c0 c1 c2 c3 c4 c5) :=
  (((((hb.setCell (p := ⟨z, 0, none⟩) hz c0).setCell (p := ⟨z, 1, none⟩) hz c1).setCell (p := ⟨z, 2, none⟩) hz c2).setCell (p := ⟨z, 3, none⟩) hz c3).setCell (p := ⟨z, 4, none⟩) hz c4).setCell (p := ⟨z, 5, none⟩) hz c5
set_option maxRecDepth 100000 in
theorem set6_row {w : World} {z : Nat} {t : TypeId} {fr : Nat × Nat} {a0 a1 a2 a3 a4 a5 : Value} (h : w.heap[z]? = some (.cells #[a0, a1, a2, a3, a4, a5] t fr)) (c0 c1 c2 c3 c4 c5 : Value) :
    (set6 w z c0 c1 c2 c3 c4 c5).heap[z]? = some (.cells #[c0, c1, c2, c3, c4, c5] t fr) :=
  row_setCell (k := 5) (row_setCell (k := 4) (row_setCell (k := 3) (row_setCell (k := 2) (row_setCell (k := 1) (row_setCell (k := 0) h c0) c1) c2) c3) c4) c5
end Go.Proofs.YtfcenidepkjdcaaDoor.V
namespace Go.Proofs.YtfcenidepkjdcaaDoor.V
open Go.RowKit
structure Twin (n : Option Nat) (base : Nat) (wr : World) (v : Value) (i : Nat) (T : Nat → Tr) (A : Nat → Ad) : Prop where
  own : wr.ownsRow base 29 6 v i (flat i (fun j => (T j).cs (A j)))
  lies : ∀ j, j < i → LiesS (fun k => base ≤ k ∧ k < wr.heap.size ∧ some k ≠ v.ownBlock ∧ some k ≠ n) wr (T j) (A j)
def strs (l : List ByteArray) : List Value := l.map Value.string
def Nms (base : Nat) (wr : World) (v : Value) (l : List ByteArray) : Prop := wr.ownsRow base 9 1 v l.length (strs l)
set_option maxRecDepth 100000 in
theorem Twin.start (n : Option Nat) (base : Nat) (wr : World) (T : Nat → Tr) (A : Nat → Ad) : Twin n base wr (.slice none 0 0) 0 T A := ⟨⟨rfl, Or.inl ⟨rfl, rfl⟩⟩, fun j hj => by omega⟩
set_option maxRecDepth 100000 in
theorem Nms.start (base : Nat) (wr : World) : Nms base wr (.slice none 0 0) [] := ⟨rfl, Or.inl ⟨rfl, rfl⟩⟩
set_option maxRecDepth 100000 in
theorem own_lt {wr : World} {base : Nat} {e : TypeId} {size : Nat} {v : Value} {n : Nat} {xs : List Value} (h : wr.ownsRow base e size v n xs) : ∀ k, v.ownBlock = some k → base ≤ k ∧ k < wr.heap.size ∧ ∃ cs, wr.heap[k]? = some (.cells cs e (0, 0)) := fun k hk => by
  rcases h.2 with ⟨rfl, _⟩ | ⟨g, cap, cur, rfl, h1, h2, _⟩
  · cases hk
  · injection hk with hk
    have hk' : g = k := hk
    subst hk'
    exact ⟨h1, lt_of_row h2, cur, h2⟩
set_option maxRecDepth 100000 in
theorem own_kept {w w' : World} {base : Nat} {e : TypeId} {size : Nat} {v : Value} {n : Nat} {xs : List Value} (h : w.ownsRow base e size v n xs) (hk : ∀ k, v.ownBlock = some k → w'.heap[k]? = w.heap[k]?) : w'.ownsRow base e size v n xs := by
  refine ⟨h.1, ?_⟩
  rcases h.2 with h1 | ⟨g, cap, cur, rfl, h2, h3, h4⟩
  · exact Or.inl h1
  · exact Or.inr ⟨g, cap, cur, rfl, h2, (hk g rfl).trans h3, h4⟩
set_option maxRecDepth 100000 in
theorem own_ne {w : World} {base : Nat} {e e' : TypeId} {size size' : Nat} {v v' : Value} {n n' : Nat} {xs xs' : List Value} (h : w.ownsRow base e size v n xs) (h' : w.ownsRow base e' size' v' n' xs') (he : e ≠ e') : ∀ k, v.ownBlock = some k → some k ≠ v'.ownBlock := fun k hk hk' => by
  obtain ⟨_, _, cs, h1⟩ := own_lt h k hk
  obtain ⟨_, _, cs', h2⟩ := own_lt h' k hk'.symm
  rw [h1] at h2
  injection h2 with h2
  injection h2 with _ h3 _
  exact he h3
set_option maxRecDepth 100000 in
theorem Twin.kept {n : Option Nat} {base : Nat} {w w' : World} {v : Value} {i : Nat} {T : Nat → Tr} {A : Nat → Ad} (h : Twin n base w v i T A) (hsz : w.heap.size ≤ w'.heap.size) (hk : ∀ k, base ≤ k → k < w.heap.size → w'.heap[k]? = w.heap[k]?) : Twin n base w' v i T A :=
  ⟨own_kept h.own (fun k hv => hk k (own_lt h.own k hv).1 (own_lt h.own k hv).2.1), fun j hj => (LiesS.kept (w' := w') (fun k hh => hk k hh.1 hh.2.1) (h.lies j hj)).up (fun k hh => ⟨hh.1, by omega, hh.2.2⟩)⟩
set_option maxRecDepth 100000 in
theorem Nms.kept {base : Nat} {w w' : World} {v : Value} {l : List ByteArray} (h : Nms base w v l) (hk : ∀ k, base ≤ k → k < w.heap.size → w'.heap[k]? = w.heap[k]?) : Nms base w' v l := own_kept h (fun k hv => hk k (own_lt h k hv).1 (own_lt h k hv).2.1)
set_option maxRecDepth 100000 in
theorem Twin.named {base : Nat} {w2 w3 : World} {v u : Value} {l : List ByteArray} {i : Nat} {T : Nat → Tr} {A : Nat → Ad} {g cap c : Nat} (h : Twin u.ownBlock base w2 v i T A) (hN : Nms base w2 u l) (hgr : w2.grownBy w3 u.ownBlock) (hat : u.ownBlock = some g ∨ g = w2.heap.size) :
    Twin (Value.slice (some ⟨g, 0, none⟩) c cap).ownBlock base w3 v i T A := by
  refine ⟨own_kept h.own (fun k hv => hgr.block k (own_lt h.own k hv).2.1 (own_ne h.own hN (by decide) k hv)), fun j hj => ?_⟩
  refine (LiesS.kept (w' := w3) (fun k hh => hgr.block k hh.2.1 hh.2.2.2) (h.lies j hj)).up (fun k hh => ⟨hh.1, Nat.lt_of_lt_of_le hh.2.1 hgr.size, hh.2.2.1, fun he => ?_⟩)
  injection he with he
  have he' : k = g := he
  rcases hat with h1 | h1
  · exact hh.2.2.2 (by rw [h1, he'])
  · omega
set_option maxRecDepth 100000 in
theorem Twin.step {n : Option Nat} {base : Nat} {wr w2 w3 : World} {v : Value} {i : Nat} {T : Nat → Tr} {A : Nat → Ad} {a : Ad} {g cap : Nat} (h : Twin n base w2 v i T A)
    (_hwr : wr.heap.size ≤ w2.heap.size) (hbase : base ≤ wr.heap.size) (hvw : ∀ k, v.ownBlock = some k → k < wr.heap.size) (hnw : ∀ k, n = some k → k < wr.heap.size)
    (hT : LiesS (fun k => wr.heap.size ≤ k ∧ k < w2.heap.size) w2 (T i) a)
    (hown : w3.ownsRow base 29 6 (.slice (some ⟨g, 0, none⟩) (i + 1) cap) (i + 1) (flat i (fun j => (T j).cs (A j)) ++ (T i).cs a)) (hgr : w2.grownBy w3 v.ownBlock) (hat : v.ownBlock = some g ∨ g = w2.heap.size) :
    Twin n base w3 (.slice (some ⟨g, 0, none⟩) (i + 1) cap) (i + 1) T (fun j => if j = i then a else A j) := by
  refine ⟨?_, fun j hj => ?_⟩
  · have e1 : flat (i + 1) (fun j => (T j).cs (if j = i then a else A j)) = flat i (fun j => (T j).cs (A j)) ++ (T i).cs a := by
      show flat i (fun j => (T j).cs (if j = i then a else A j)) ++ (T i).cs (if i = i then a else A i) = _
      rw [if_pos rfl, flat_congr (fun j hj => by rw [if_neg (by omega)])]
    rw [e1]
    exact hown
  · have hfix : ∀ k, (base ≤ k ∧ k < w2.heap.size ∧ some k ≠ v.ownBlock ∧ some k ≠ n) → (base ≤ k ∧ k < w3.heap.size ∧ some k ≠ (Value.slice (some ⟨g, 0, none⟩) (i + 1) cap).ownBlock ∧ some k ≠ n) := fun k hh => ⟨hh.1, Nat.lt_of_lt_of_le hh.2.1 hgr.size, fun he => by
      injection he with he
      have he' : k = g := he
      rcases hat with h1 | h1
      · exact hh.2.2.1 (by rw [h1, he'])
      · omega, hh.2.2.2⟩
    by_cases hji : j = i
    · subst hji
      show LiesS _ w3 (T j) (if j = j then a else A j)
      rw [if_pos rfl]
      refine ((hT.up (fun k hh => ?_)).kept (fun k (hh : base ≤ k ∧ k < w2.heap.size ∧ some k ≠ v.ownBlock ∧ some k ≠ n) => hgr.block k hh.2.1 hh.2.2.1)).up hfix
      exact ⟨by omega, hh.2, fun he => by have := hvw k he.symm; omega, fun he => by have := hnw k he.symm; omega⟩
    · show LiesS _ w3 (T j) (if j = i then a else A j)
      rw [if_neg hji]
      exact ((h.lies j (by omega)).kept (fun k hh => hgr.block k hh.2.1 hh.2.2.1)).up hfix
set_option maxRecDepth 100000 in
theorem Nms.parts {base : Nat} {w2 w3 : World} {v u : Value} {l : List ByteArray} {i : Nat} {xs : List Value} (hN : Nms base w2 u l) (h : w2.ownsRow base 29 6 v i xs) (hgr : w2.grownBy w3 v.ownBlock) : Nms base w3 u l :=
  own_kept hN (fun k hv => hgr.block k (own_lt hN k hv).2.1 (own_ne hN h (by decide) k hv))
set_option maxRecDepth 100000 in
theorem Twin.done {n : Option Nat} {S : Nat → Prop} {base : Nat} {wr : World} {v : Value} {m : Nat} {T : Nat → Tr} {A : Nat → Ad} (h : Twin n base wr v m T A) (hb : ∀ k, base ≤ k → k < wr.heap.size → S k) :
    ∃ pa pc, v = .slice pa m pc ∧ (m ≤ pc ∧ pc ≤ maxLen) ∧ (0 < m → ∃ b o, pa = some ⟨b, o, none⟩ ∧ S b ∧ ∀ i, i < m → At6 wr b (o + i * 6) (T i) (A i)) ∧ ∀ i, i < m → LiesS S wr (T i) (A i) := by
  have hl : ∀ i, i < m → LiesS S wr (T i) (A i) := fun i hi => (h.lies i hi).up (fun k hh => hb k hh.1 hh.2.1)
  rcases h.own.2 with ⟨rfl, h0⟩ | ⟨g, cap, cur, rfl, h1, h2, h3, h4, _, h6⟩
  · exact ⟨none, 0, by rw [h0], ⟨by omega, by unfold maxLen; omega⟩, fun hm => by omega, hl⟩
  · exact ⟨_, _, rfl, ⟨h3, h4⟩, fun _ => ⟨g, 0, rfl, hb g h1 (lt_of_row h2), fun i hi => at6_of_flat h2 h6 hi⟩, hl⟩
set_option maxRecDepth 100000 in
theorem Nms.done {S : Nat → Prop} {base : Nat} {wr : World} {u : Value} {l : List ByteArray} (h : Nms base wr u l) (hs : ∀ s ∈ l, s.size ≤ maxLen) (hb : ∀ k, base ≤ k → k < wr.heap.size → S k) :
    ∃ na nc, u = .slice na l.length nc ∧ NamesS S wr l.length (fun i => l.getD i ⟨#[]⟩) na nc := by
  have hsz : ∀ i, i < l.length → (l.getD i ⟨#[]⟩).size ≤ maxLen := fun i hi => by
    rw [List.getD_eq_getElem?_getD, List.getElem?_eq_getElem hi]
    exact hs _ (List.getElem_mem hi)
  rcases h.2 with ⟨rfl, h0⟩ | ⟨g, cap, cur, rfl, h1, h2, h3, h4, _, h6⟩
  · exact ⟨none, 0, by rw [h0], by omega, by unfold maxLen; omega, hsz, fun hm => by omega⟩
  · refine ⟨_, _, rfl, h3, h4, hsz, fun _ => ⟨g, 0, rfl, hb g h1 (lt_of_row h2), fun i hi => ?_⟩⟩
    rw [Nat.zero_add, cell_of_row wr g i cur _ _ h2]
    have h7 : (cur.toList.take (l.length * 1))[i]? = (strs l)[i]? := by rw [h6]
    rw [List.getElem?_take_of_lt (by omega)] at h7
    rw [← Array.getElem?_toList, h7, strs, List.getElem?_map, List.getElem?_eq_getElem hi]
    show _ = some (Value.string (l.getD i ⟨#[]⟩))
    rw [List.getD_eq_getElem?_getD, List.getElem?_eq_getElem hi]
    rfl
set_option maxRecDepth 100000 in
theorem info9 : (Tryd.prog.info? 9).map (fun i => (i.zero, i.size, i.bytes)) = some (some (.string ⟨#[]⟩), 1, 16) := by kernel_rfl
end Go.Proofs.YtfcenidepkjdcaaDoor.V
namespace Go.Proofs.YtfcenidepkjdcaaDoor.V
open Go.RowKit
set_option maxRecDepth 100000 in
theorem tk_bad {n i : Nat} {b : UInt8} {r : List UInt8} (h : (0 < i ∧ b.toNat = 0) ∨ (i = 9 ∧ 1 < b.toNat)) : tk n i (b :: r) = ⟨0, 0, 6⟩ := by unfold tk; rw [if_pos h]
set_option maxRecDepth 100000 in
theorem tk_end {n i : Nat} {b : UInt8} {r : List UInt8} (h : ¬ ((0 < i ∧ b.toNat = 0) ∨ (i = 9 ∧ 1 < b.toNat))) (h2 : b.toNat < 128) : tk n i (b :: r) = ⟨n + b.toNat % 128 * 128 ^ i, i + 1, 0⟩ := by unfold tk; rw [if_neg h, if_pos h2]
set_option maxRecDepth 100000 in
theorem tk_on {n i : Nat} {b : UInt8} {r : List UInt8} (h : ¬ ((0 < i ∧ b.toNat = 0) ∨ (i = 9 ∧ 1 < b.toNat))) (h2 : ¬ b.toNat < 128) : tk n i (b :: r) = tk (n + b.toNat % 128 * 128 ^ i) (i + 1) r := by rw [tk, if_neg h, if_neg h2]
set_option maxRecDepth 100000 in
theorem drop_at (s : ByteArray) (i : Nat) (h : i < s.size) : s.data.toList.drop i = s[i] :: s.data.toList.drop (i + 1) := by
  have hl : i < s.data.toList.length := by simpa using h
  rw [List.drop_eq_getElem_cons hl]; rfl
set_option maxRecDepth 100000 in
theorem pow128 (i : Nat) : (2 : Nat) ^ (i * 7) = 128 ^ i := by
  rw [Nat.mul_comm, Nat.pow_mul]
set_option maxRecDepth 100000 in
theorem or_val {n i b : Nat} (hi : i ≤ 9) (hn : n < 128 ^ i) (hb : i = 9 → b ≤ 1) : bits BinOp.or IntKind.u64 (n : Int) (IntKind.u64.wrap ((b : Int) % 128 * 2 ^ (i * 7))) = ((n + b % 128 * 128 ^ i : Nat) : Int) := by
  have h64 := step_lt64 hi hn hb
  have e : ((b : Int) % 128 * 2 ^ (i * 7)) = ((b % 128 * 128 ^ i : Nat) : Int) := by
    rw [← pow128]; push_cast; rfl
  rw [e, IntKind.wrap_u64, Int.emod_eq_of_lt (by omega) (by omega), u64_or_nat _ _ (by omega) (by omega)]
  congr 1
  rw [← pow128] at hn ⊢
  rw [Nat.mul_comm (b % 128), Nat.add_comm n, Nat.two_pow_add_eq_or_of_lt hn, Nat.or_comm]
set_option maxRecDepth 100000 in
theorem or_val9 {n b : Nat} (hn : n < 128 ^ 9) (hb : b ≤ 1) : bits BinOp.or IntKind.u64 (n : Int) ((b : Int) % 128 * 9223372036854775808) = ((n + b % 128 * 128 ^ 9 : Nat) : Int) := by
  have h := or_val (i := 9) (b := b) (by omega) hn (fun _ => hb)
  rw [← h]
  congr 1
  rw [IntKind.wrap_u64]
  have e : (2 : Int) ^ (9 * 7) = 9223372036854775808 := by decide
  rw [e]
  omega
set_option maxRecDepth 100000 in
theorem or_val0 {n b : Nat} (hn : n < 128 ^ 0) : bits BinOp.or IntKind.u64 (n : Int) ((b : Int) % 128) = ((n + b % 128 * 128 ^ 0 : Nat) : Int) := by
  have h := or_val (i := 0) (b := b) (by omega) hn (by omega)
  rw [← h]
  congr 1
  rw [IntKind.wrap_u64]
  simp only [Nat.zero_mul, Int.pow_zero, Int.mul_one]
  omega
end Go.Proofs.YtfcenidepkjdcaaDoor.V
