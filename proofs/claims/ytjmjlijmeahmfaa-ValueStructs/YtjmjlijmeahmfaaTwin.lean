/- Two lists that a call makes itself side by side: values (Twin), and their names (Nms). -/
import Derived.Test.YtjmjlijmeahmfaaMine
namespace Go.Proofs.Ytjmjlijmeahmfaa
open Go.RowKit
structure Twin (n : Option Nat) (base : Nat) (wr : World) (v : Value) (i : Nat) (T : Nat → Tr) (A : Nat → Ad) : Prop where
  own : wr.ownsRow base 25 6 v i (flat i (fun j => (T j).cs (A j)))
  lies : ∀ j, j < i → LiesS (fun k => base ≤ k ∧ k < wr.heap.size ∧ some k ≠ v.ownBlock ∧ some k ≠ n) wr (T j) (A j)
def strs (l : List ByteArray) : List Value := l.map Value.string
def Nms (base : Nat) (wr : World) (v : Value) (l : List ByteArray) : Prop := wr.ownsRow base 9 1 v l.length (strs l)
theorem Twin.start (n : Option Nat) (base : Nat) (wr : World) (T : Nat → Tr) (A : Nat → Ad) : Twin n base wr (.slice none 0 0) 0 T A := ⟨⟨rfl, Or.inl ⟨rfl, rfl⟩⟩, fun j hj => by omega⟩
theorem Nms.start (base : Nat) (wr : World) : Nms base wr (.slice none 0 0) [] := ⟨rfl, Or.inl ⟨rfl, rfl⟩⟩
theorem own_lt {wr : World} {base : Nat} {e : TypeId} {size : Nat} {v : Value} {n : Nat} {xs : List Value} (h : wr.ownsRow base e size v n xs) : ∀ k, v.ownBlock = some k → base ≤ k ∧ k < wr.heap.size ∧ ∃ cs, wr.heap[k]? = some (.cells cs e (0, 0)) := fun k hk => by
  rcases h.2 with ⟨rfl, _⟩ | ⟨g, cap, cur, rfl, h1, h2, _⟩
  · cases hk
  · injection hk with hk
    have hk' : g = k := hk
    subst hk'
    exact ⟨h1, lt_of_row h2, cur, h2⟩
theorem own_kept {w w' : World} {base : Nat} {e : TypeId} {size : Nat} {v : Value} {n : Nat} {xs : List Value} (h : w.ownsRow base e size v n xs) (hk : ∀ k, v.ownBlock = some k → w'.heap[k]? = w.heap[k]?) : w'.ownsRow base e size v n xs := by
  refine ⟨h.1, ?_⟩
  rcases h.2 with h1 | ⟨g, cap, cur, rfl, h2, h3, h4⟩
  · exact Or.inl h1
  · exact Or.inr ⟨g, cap, cur, rfl, h2, (hk g rfl).trans h3, h4⟩
theorem own_ne {w : World} {base : Nat} {e e' : TypeId} {size size' : Nat} {v v' : Value} {n n' : Nat} {xs xs' : List Value} (h : w.ownsRow base e size v n xs) (h' : w.ownsRow base e' size' v' n' xs') (he : e ≠ e') : ∀ k, v.ownBlock = some k → some k ≠ v'.ownBlock := fun k hk hk' => by
  obtain ⟨_, _, cs, h1⟩ := own_lt h k hk
  obtain ⟨_, _, cs', h2⟩ := own_lt h' k hk'.symm
  rw [h1] at h2
  injection h2 with h2
  injection h2 with _ h3 _
  exact he h3
theorem Twin.kept {n : Option Nat} {base : Nat} {w w' : World} {v : Value} {i : Nat} {T : Nat → Tr} {A : Nat → Ad} (h : Twin n base w v i T A) (hsz : w.heap.size ≤ w'.heap.size) (hk : ∀ k, base ≤ k → k < w.heap.size → w'.heap[k]? = w.heap[k]?) : Twin n base w' v i T A :=
  ⟨own_kept h.own (fun k hv => hk k (own_lt h.own k hv).1 (own_lt h.own k hv).2.1), fun j hj => (LiesS.kept (w' := w') (fun k hh => hk k hh.1 hh.2.1) (h.lies j hj)).up (fun k hh => ⟨hh.1, by omega, hh.2.2⟩)⟩
theorem Nms.kept {base : Nat} {w w' : World} {v : Value} {l : List ByteArray} (h : Nms base w v l) (hk : ∀ k, base ≤ k → k < w.heap.size → w'.heap[k]? = w.heap[k]?) : Nms base w' v l := own_kept h (fun k hv => hk k (own_lt h k hv).1 (own_lt h k hv).2.1)
theorem Twin.named {base : Nat} {w2 w3 : World} {v u : Value} {l : List ByteArray} {i : Nat} {T : Nat → Tr} {A : Nat → Ad} {g cap c : Nat} (h : Twin u.ownBlock base w2 v i T A) (hN : Nms base w2 u l) (hgr : w2.grownBy w3 u.ownBlock) (hat : u.ownBlock = some g ∨ g = w2.heap.size) :
    Twin (Value.slice (some ⟨g, 0, none⟩) c cap).ownBlock base w3 v i T A := by
  refine ⟨own_kept h.own (fun k hv => hgr.block k (own_lt h.own k hv).2.1 (own_ne h.own hN (by decide) k hv)), fun j hj => ?_⟩
  refine (LiesS.kept (w' := w3) (fun k hh => hgr.block k hh.2.1 hh.2.2.2) (h.lies j hj)).up (fun k hh => ⟨hh.1, Nat.lt_of_lt_of_le hh.2.1 hgr.size, hh.2.2.1, fun he => ?_⟩)
  injection he with he
  have he' : k = g := he
  rcases hat with h1 | h1
  · exact hh.2.2.2 (by rw [h1, he'])
  · omega
theorem Twin.step {n : Option Nat} {base : Nat} {wr w2 w3 : World} {v : Value} {i : Nat} {T : Nat → Tr} {A : Nat → Ad} {a : Ad} {g cap : Nat} (h : Twin n base w2 v i T A)
    (_hwr : wr.heap.size ≤ w2.heap.size) (hbase : base ≤ wr.heap.size) (hvw : ∀ k, v.ownBlock = some k → k < wr.heap.size) (hnw : ∀ k, n = some k → k < wr.heap.size)
    (hT : LiesS (fun k => wr.heap.size ≤ k ∧ k < w2.heap.size) w2 (T i) a)
    (hown : w3.ownsRow base 25 6 (.slice (some ⟨g, 0, none⟩) (i + 1) cap) (i + 1) (flat i (fun j => (T j).cs (A j)) ++ (T i).cs a)) (hgr : w2.grownBy w3 v.ownBlock) (hat : v.ownBlock = some g ∨ g = w2.heap.size) :
    Twin n base w3 (.slice (some ⟨g, 0, none⟩) (i + 1) cap) (i + 1) T (fun j => if j = i then a else A j) := by
  refine ⟨?_, fun j hj => ?_⟩
  · have e1 : flat (i + 1) (fun j => (T j).cs (if j = i then a else A j)) = flat i (fun j => (T j).cs (A j)) ++ (T i).cs a := by
      show flat i (fun j => (T j).cs (if j = i then a else A j)) ++ (T i).cs (if i = i then a else A i) = _
      rw [if_pos rfl, flat_congr (fun j hj => by rw [if_neg (by omega)])]
    rw [e1]
    exact hown
  · have hfix : ∀ k, (base ≤ k ∧ k < w2.heap.size ∧ some k ≠ v.ownBlock ∧ some k ≠ n) → (base ≤ k ∧ k < w3.heap.size ∧ some k ≠ (Value.slice (some ⟨g, 0, none⟩) (i + 1) cap).ownBlock ∧ some k ≠ n) := fun k hh => ⟨hh.1, Nat.lt_of_lt_of_le hh.2.1 hgr.size, fun he => by
      injection he with he
      have he' : k = g := he
      rcases hat with h1 | h1
      · exact hh.2.2.1 (by rw [h1, he'])
      · omega, hh.2.2.2⟩
    by_cases hji : j = i
    · subst hji
      show LiesS _ w3 (T j) (if j = j then a else A j)
      rw [if_pos rfl]
      refine ((hT.up (fun k hh => ?_)).kept (fun k (hh : base ≤ k ∧ k < w2.heap.size ∧ some k ≠ v.ownBlock ∧ some k ≠ n) => hgr.block k hh.2.1 hh.2.2.1)).up hfix
      exact ⟨by omega, hh.2, fun he => by have := hvw k he.symm; omega, fun he => by have := hnw k he.symm; omega⟩
    · show LiesS _ w3 (T j) (if j = i then a else A j)
      rw [if_neg hji]
      exact ((h.lies j (by omega)).kept (fun k hh => hgr.block k hh.2.1 hh.2.2.1)).up hfix
theorem Nms.parts {base : Nat} {w2 w3 : World} {v u : Value} {l : List ByteArray} {i : Nat} {xs : List Value} (hN : Nms base w2 u l) (h : w2.ownsRow base 25 6 v i xs) (hgr : w2.grownBy w3 v.ownBlock) : Nms base w3 u l :=
  own_kept hN (fun k hv => hgr.block k (own_lt hN k hv).2.1 (own_ne hN h (by decide) k hv))
theorem Twin.done {n : Option Nat} {S : Nat → Prop} {base : Nat} {wr : World} {v : Value} {m : Nat} {T : Nat → Tr} {A : Nat → Ad} (h : Twin n base wr v m T A) (hb : ∀ k, base ≤ k → k < wr.heap.size → S k) :
    ∃ pa pc, v = .slice pa m pc ∧ (m ≤ pc ∧ pc ≤ maxLen) ∧ (0 < m → ∃ b o, pa = some ⟨b, o, none⟩ ∧ S b ∧ ∀ i, i < m → At6 wr b (o + i * 6) (T i) (A i)) ∧ ∀ i, i < m → LiesS S wr (T i) (A i) := by
  have hl : ∀ i, i < m → LiesS S wr (T i) (A i) := fun i hi => (h.lies i hi).up (fun k hh => hb k hh.1 hh.2.1)
  rcases h.own.2 with ⟨rfl, h0⟩ | ⟨g, cap, cur, rfl, h1, h2, h3, h4, _, h6⟩
  · exact ⟨none, 0, by rw [h0], ⟨by omega, by unfold maxLen; omega⟩, fun hm => by omega, hl⟩
  · exact ⟨_, _, rfl, ⟨h3, h4⟩, fun _ => ⟨g, 0, rfl, hb g h1 (lt_of_row h2), fun i hi => at6_of_flat h2 h6 hi⟩, hl⟩
theorem Nms.done {S : Nat → Prop} {base : Nat} {wr : World} {u : Value} {l : List ByteArray} (h : Nms base wr u l) (hs : ∀ s ∈ l, s.size ≤ maxLen) (hb : ∀ k, base ≤ k → k < wr.heap.size → S k) :
    ∃ na nc, u = .slice na l.length nc ∧ NamesS S wr l.length (fun i => l.getD i ⟨#[]⟩) na nc := by
  have hsz : ∀ i, i < l.length → (l.getD i ⟨#[]⟩).size ≤ maxLen := fun i hi => by
    rw [List.getD_eq_getElem?_getD, List.getElem?_eq_getElem hi]
    exact hs _ (List.getElem_mem hi)
  rcases h.2 with ⟨rfl, h0⟩ | ⟨g, cap, cur, rfl, h1, h2, h3, h4, _, h6⟩
  · exact ⟨none, 0, by rw [h0], by omega, by unfold maxLen; omega, hsz, fun hm => by omega⟩
  · refine ⟨_, _, rfl, h3, h4, hsz, fun _ => ⟨g, 0, rfl, hb g h1 (lt_of_row h2), fun i hi => ?_⟩⟩
    rw [Nat.zero_add, cell_of_row wr g i cur _ _ h2]
    have h7 : (cur.toList.take (l.length * 1))[i]? = (strs l)[i]? := by rw [h6]
    rw [List.getElem?_take_of_lt (by omega)] at h7
    rw [← Array.getElem?_toList, h7, strs, List.getElem?_map, List.getElem?_eq_getElem hi]
    show _ = some (Value.string (l.getD i ⟨#[]⟩))
    rw [List.getD_eq_getElem?_getD, List.getElem?_eq_getElem hi]
    rfl
theorem info9 : (Try.prog.info? 9).map (fun i => (i.zero, i.size, i.bytes)) = some (some (.string ⟨#[]⟩), 1, 16) := by kernel_rfl
end Go.Proofs.Ytjmjlijmeahmfaa
