/- Two lists that a call makes itself side by side: values as the document has them (Twir), and their names. -/
import Derived.Test.YtjmjlijmeahmfaaTwin
namespace Go.Proofs.Ytjmjlijmeahmfaa
open Go.RowKit
structure Twir (n : Option Nat) (base : Nat) (wr : World) (v : Value) (i : Nat) (T : Nat → Tr) (A : Nat → Ad) : Prop where
  own : wr.ownsRow base 33 6 v i (flat i (fun j => (T j).cs (A j)))
  lies : ∀ j, j < i → LiesS (fun k => base ≤ k ∧ k < wr.heap.size ∧ some k ≠ v.ownBlock ∧ some k ≠ n) wr (T j) (A j)
theorem Twir.start (n : Option Nat) (base : Nat) (wr : World) (T : Nat → Tr) (A : Nat → Ad) : Twir n base wr (.slice none 0 0) 0 T A := ⟨⟨rfl, Or.inl ⟨rfl, rfl⟩⟩, fun j hj => by omega⟩
theorem Twir.kept {n : Option Nat} {base : Nat} {w w' : World} {v : Value} {i : Nat} {T : Nat → Tr} {A : Nat → Ad} (h : Twir n base w v i T A) (hsz : w.heap.size ≤ w'.heap.size) (hk : ∀ k, base ≤ k → k < w.heap.size → w'.heap[k]? = w.heap[k]?) : Twir n base w' v i T A :=
  ⟨own_kept h.own (fun k hv => hk k (own_lt h.own k hv).1 (own_lt h.own k hv).2.1), fun j hj => (LiesS.kept (w' := w') (fun k hh => hk k hh.1 hh.2.1) (h.lies j hj)).up (fun k hh => ⟨hh.1, by omega, hh.2.2⟩)⟩
theorem Twir.named {base : Nat} {w2 w3 : World} {v u : Value} {l : List ByteArray} {i : Nat} {T : Nat → Tr} {A : Nat → Ad} {g cap c : Nat} (h : Twir u.ownBlock base w2 v i T A) (hN : Nms base w2 u l) (hgr : w2.grownBy w3 u.ownBlock) (hat : u.ownBlock = some g ∨ g = w2.heap.size) :
    Twir (Value.slice (some ⟨g, 0, none⟩) c cap).ownBlock base w3 v i T A := by
  refine ⟨own_kept h.own (fun k hv => hgr.block k (own_lt h.own k hv).2.1 (own_ne h.own hN (by decide) k hv)), fun j hj => ?_⟩
  refine (LiesS.kept (w' := w3) (fun k hh => hgr.block k hh.2.1 hh.2.2.2) (h.lies j hj)).up (fun k hh => ⟨hh.1, Nat.lt_of_lt_of_le hh.2.1 hgr.size, hh.2.2.1, fun he => ?_⟩)
  injection he with he
  have he' : k = g := he
  rcases hat with h1 | h1
  · exact hh.2.2.2 (by rw [h1, he'])
  · omega
theorem Twir.step {n : Option Nat} {base : Nat} {wr w2 w3 : World} {v : Value} {i : Nat} {T : Nat → Tr} {A : Nat → Ad} {a : Ad} {g cap : Nat} (h : Twir n base w2 v i T A)
    (_hwr : wr.heap.size ≤ w2.heap.size) (hbase : base ≤ wr.heap.size) (hvw : ∀ k, v.ownBlock = some k → k < wr.heap.size) (hnw : ∀ k, n = some k → k < wr.heap.size)
    (hT : LiesS (fun k => wr.heap.size ≤ k ∧ k < w2.heap.size) w2 (T i) a)
    (hown : w3.ownsRow base 33 6 (.slice (some ⟨g, 0, none⟩) (i + 1) cap) (i + 1) (flat i (fun j => (T j).cs (A j)) ++ (T i).cs a)) (hgr : w2.grownBy w3 v.ownBlock) (hat : v.ownBlock = some g ∨ g = w2.heap.size) :
    Twir n base w3 (.slice (some ⟨g, 0, none⟩) (i + 1) cap) (i + 1) T (fun j => if j = i then a else A j) := by
  refine ⟨?_, fun j hj => ?_⟩
  · have e1 : flat (i + 1) (fun j => (T j).cs (if j = i then a else A j)) = flat i (fun j => (T j).cs (A j)) ++ (T i).cs a := by
      show flat i (fun j => (T j).cs (if j = i then a else A j)) ++ (T i).cs (if i = i then a else A i) = _
      rw [if_pos rfl, flat_congr (fun j hj => by rw [if_neg (by omega)])]
    rw [e1]
    exact hown
  · have hfix : ∀ k, (base ≤ k ∧ k < w2.heap.size ∧ some k ≠ v.ownBlock ∧ some k ≠ n) → (base ≤ k ∧ k < w3.heap.size ∧ some k ≠ (Value.slice (some ⟨g, 0, none⟩) (i + 1) cap).ownBlock ∧ some k ≠ n) := fun k hh => ⟨hh.1, Nat.lt_of_lt_of_le hh.2.1 hgr.size, fun he => by
      injection he with he
      have he' : k = g := he
      rcases hat with h1 | h1
      · exact hh.2.2.1 (by rw [h1, he'])
      · omega, hh.2.2.2⟩
    by_cases hji : j = i
    · subst hji
      show LiesS _ w3 (T j) (if j = j then a else A j)
      rw [if_pos rfl]
      refine ((hT.up (fun k hh => ?_)).kept (fun k (hh : base ≤ k ∧ k < w2.heap.size ∧ some k ≠ v.ownBlock ∧ some k ≠ n) => hgr.block k hh.2.1 hh.2.2.1)).up hfix
      exact ⟨by omega, hh.2, fun he => by have := hvw k he.symm; omega, fun he => by have := hnw k he.symm; omega⟩
    · show LiesS _ w3 (T j) (if j = i then a else A j)
      rw [if_neg hji]
      exact ((h.lies j (by omega)).kept (fun k hh => hgr.block k hh.2.1 hh.2.2.1)).up hfix
theorem Nms.partr {base : Nat} {w2 w3 : World} {v u : Value} {l : List ByteArray} {i : Nat} {xs : List Value} (hN : Nms base w2 u l) (h : w2.ownsRow base 33 6 v i xs) (hgr : w2.grownBy w3 v.ownBlock) : Nms base w3 u l :=
  own_kept hN (fun k hv => hgr.block k (own_lt hN k hv).2.1 (own_ne hN h (by decide) k hv))
theorem Twir.done {n : Option Nat} {S : Nat → Prop} {base : Nat} {wr : World} {v : Value} {m : Nat} {T : Nat → Tr} {A : Nat → Ad} (h : Twir n base wr v m T A) (hb : ∀ k, base ≤ k → k < wr.heap.size → S k) :
    ∃ pa pc, v = .slice pa m pc ∧ (m ≤ pc ∧ pc ≤ maxLen) ∧ (0 < m → ∃ b o, pa = some ⟨b, o, none⟩ ∧ S b ∧ ∀ i, i < m → At6 wr b (o + i * 6) (T i) (A i)) ∧ ∀ i, i < m → LiesS S wr (T i) (A i) := by
  have hl : ∀ i, i < m → LiesS S wr (T i) (A i) := fun i hi => (h.lies i hi).up (fun k hh => hb k hh.1 hh.2.1)
  rcases h.own.2 with ⟨rfl, h0⟩ | ⟨g, cap, cur, rfl, h1, h2, h3, h4, _, h6⟩
  · exact ⟨none, 0, by rw [h0], ⟨by omega, by unfold maxLen; omega⟩, fun hm => by omega, hl⟩
  · exact ⟨_, _, rfl, ⟨h3, h4⟩, fun _ => ⟨g, 0, rfl, hb g h1 (lt_of_row h2), fun i hi => at6_of_flat h2 h6 hi⟩, hl⟩
theorem Twir.congr {n : Option Nat} {base : Nat} {w : World} {v : Value} {i : Nat} {T T' : Nat → Tr} {A : Nat → Ad} (h : Twir n base w v i T A) (hT : ∀ j, j < i → T j = T' j) : Twir n base w v i T' A :=
  ⟨by rw [← flat_congr (F := fun j => (T j).cs (A j)) (G := fun j => (T' j).cs (A j)) (fun j hj => by rw [hT j hj])]; exact h.own, fun j hj => by rw [← hT j hj]; exact h.lies j hj⟩
end Go.Proofs.Ytjmjlijmeahmfaa
