/- A tree of leaves as it lies in memory (Tre): row k holds the roots of the parts of 2^k leaves; what a new leaf does to the rows, as plain facts. -/
import Derived.Test.YtjamahpccblkiabDoorFst
namespace Go.Proofs.YtjamahpccblkiabDoor
open Go.RowKit
def rowL (f : Nat → ByteArray) (k N : Nat) : List ByteArray := (List.range (N / 2 ^ k)).map (fun i => rootR f (i * 2 ^ k) (2 ^ k))
theorem rowL_len (f : Nat → ByteArray) (k N : Nat) : (rowL f k N).length = N / 2 ^ k := by simp [rowL]
theorem rowL_get (f : Nat → ByteArray) (k N i : Nat) (h : i < N / 2 ^ k) : (rowL f k N)[i]? = some (rootR f (i * 2 ^ k) (2 ^ k)) := by simp [rowL, h]
def addF (f : Nat → ByteArray) (N : Nat) (x : ByteArray) : Nat → ByteArray := fun i => if i = N then x else f i
theorem addF_old (f : Nat → ByteArray) (N : Nat) (x : ByteArray) {i : Nat} (h : i < N) : addF f N x i = f i := if_neg (by omega)
theorem addF_new (f : Nat → ByteArray) (N : Nat) (x : ByteArray) : addF f N x N = x := if_pos rfl
theorem part_le {i k N : Nat} (h : i < N / 2 ^ k) : i * 2 ^ k + 2 ^ k ≤ N := by
  have h1 : (i + 1) * 2 ^ k ≤ N / 2 ^ k * 2 ^ k := Nat.mul_le_mul_right _ h
  have h2 := Nat.div_mul_le_self N (2 ^ k)
  rw [Nat.add_mul, Nat.one_mul] at h1
  omega
theorem rowL_congr {f g : Nat → ByteArray} {k N : Nat} (h : ∀ i, i < N → f i = g i) : rowL f k N = rowL g k N := by
  unfold rowL
  apply List.map_congr_left
  intro i hi
  have := part_le (List.mem_range.1 hi)
  exact rootR_congr f g _ _ (fun j _ h2 => h j (by omega))
theorem rowL_same (f : Nat → ByteArray) (N : Nat) (x : ByteArray) (k : Nat) (h : ¬ 2 ^ k ∣ N + 1) : rowL (addF f N x) k (N + 1) = rowL f k N := by
  have e : (N + 1) / 2 ^ k = N / 2 ^ k := by rw [Nat.succ_div, if_neg h]; omega
  have e2 : rowL (addF f N x) k (N + 1) = rowL (addF f N x) k N := by unfold rowL; rw [e]
  rw [e2]
  exact rowL_congr (fun i hi => addF_old f N x hi)
theorem div_up {N k : Nat} (h : 2 ^ k ∣ N + 1) : (N + 1) / 2 ^ k = N / 2 ^ k + 1 := by rw [Nat.succ_div, if_pos h]
theorem mul_up {N k : Nat} (h : 2 ^ k ∣ N + 1) : N / 2 ^ k * 2 ^ k = N + 1 - 2 ^ k := by
  have h1 := Nat.div_mul_cancel h
  rw [div_up h, Nat.add_mul, Nat.one_mul] at h1
  omega
theorem rowL_up (f : Nat → ByteArray) (N : Nat) (x : ByteArray) (k : Nat) (h : 2 ^ k ∣ N + 1) : rowL (addF f N x) k (N + 1) = rowL f k N ++ [rootR (addF f N x) (N + 1 - 2 ^ k) (2 ^ k)] := by
  have e2 : rowL (addF f N x) k (N + 1) = rowL (addF f N x) k N ++ [rootR (addF f N x) (N / 2 ^ k * 2 ^ k) (2 ^ k)] := by
    unfold rowL
    rw [div_up h, List.range_succ, List.map_append]
    rfl
  rw [e2, mul_up h]
  congr 1
  exact rowL_congr (fun i hi => addF_old f N x hi)
theorem dvd_next {N k : Nat} (h : 2 ^ k ∣ N + 1) : 2 ^ (k + 1) ∣ N + 1 ↔ (N + 1) / 2 ^ k % 2 = 0 := by
  obtain ⟨q, hq⟩ := h
  have hp := Nat.two_pow_pos k
  rw [hq, Nat.mul_div_cancel_left _ hp, Nat.pow_succ]
  constructor
  · intro h
    have := Nat.dvd_of_mul_dvd_mul_left hp h
    omega
  · intro h
    exact Nat.mul_dvd_mul_left _ (by omega)
theorem not_dvd_above {N k j : Nat} (h : ¬ 2 ^ (k + 1) ∣ N + 1) (hj : k < j) : ¬ 2 ^ j ∣ N + 1 := fun hd => h (Nat.dvd_trans (Nat.pow_dvd_pow 2 hj) hd)
/- Rows below k are those with the new leaf, the others those without it. -/
def midL (f : Nat → ByteArray) (N : Nat) (x : ByteArray) (k j : Nat) : List ByteArray := if j < k then rowL (addF f N x) j (N + 1) else rowL f j N
theorem midL_len (f : Nat → ByteArray) (N : Nat) (x : ByteArray) (k : Nat) : (midL f N x k k).length = N / 2 ^ k := by
  unfold midL; rw [if_neg (by omega), rowL_len]
theorem midL_at (f : Nat → ByteArray) (N : Nat) (x : ByteArray) (k : Nat) : midL f N x k k = rowL f k N := if_neg (by omega)
theorem midL_next (f : Nat → ByteArray) (N : Nat) (x : ByteArray) (k j : Nat) (h : 2 ^ k ∣ N + 1) : midL f N x (k + 1) j = if j = k then midL f N x k k ++ [rootR (addF f N x) (N + 1 - 2 ^ k) (2 ^ k)] else midL f N x k j := by
  by_cases hj : j = k
  · subst hj
    rw [if_pos rfl, midL_at, ← rowL_up f N x j h]
    exact if_pos (by omega)
  · rw [if_neg hj]
    unfold midL
    by_cases hlt : j < k
    · rw [if_pos (by omega), if_pos hlt]
    · rw [if_neg (by omega), if_neg hlt]
theorem midL_end (f : Nat → ByteArray) (N : Nat) (x : ByteArray) (k j : Nat) (h : ¬ 2 ^ (k + 1) ∣ N + 1) : midL f N x (k + 1) j = rowL (addF f N x) j (N + 1) := by
  unfold midL
  split
  · rfl
  · rw [rowL_same f N x j (not_dvd_above h (by omega))]
structure Tre (w : World) (S : Nat → Prop) (b N : Nat) (f : Nat → ByteArray) : Prop where
  ex : ∃ pv K V, Fst w S b pv K V (fun k => rowL f k N) ∧ ∀ j, j < K ↔ 2 ^ j ≤ N
  low : ∀ j, S j → 3 ≤ j
  hi : ∀ j, S j → j < w.heap.size
  sz : ∀ i, i < N → (f i).size = 32
theorem Tre.kept {w w' : World} {S : Nat → Prop} {b N : Nat} {f : Nat → ByteArray} (h : Tre w S b N f) (hs : w.heap.size ≤ w'.heap.size) (hk : ∀ g, S g → w'.heap[g]? = w.heap[g]?) : Tre w' S b N f := by
  obtain ⟨pv, K, V, h1, h2⟩ := h.ex
  exact ⟨⟨pv, K, V, h1.kept hk, h2⟩, h.low, fun j hj => Nat.lt_of_lt_of_le (h.hi j hj) hs, h.sz⟩
theorem Tre.later {w w' : World} {S : Nat → Prop} {b N : Nat} {f : Nat → ByteArray} (h : Tre w S b N f) (hb : Below w.heap.size w w') : Tre w' S b N f :=
  h.kept hb.size (fun g hg => hb.block g (h.hi g hg))
theorem Tre.congr {w : World} {S : Nat → Prop} {b N : Nat} {f g : Nat → ByteArray} (h : Tre w S b N f) (hf : ∀ i, i < N → f i = g i) : Tre w S b N g := by
  obtain ⟨pv, K, V, h1, h2⟩ := h.ex
  exact ⟨⟨pv, K, V, h1.congr (fun k _ => (rowL_congr hf).symm), h2⟩, h.low, h.hi, fun i hi => by rw [← hf i hi]; exact h.sz i hi⟩
/- What may change: blocks with S alone; new ones come. -/
structure Chg (S : Nat → Prop) (w w' : World) : Prop where
  os : w'.os = w.os
  tape : w'.tape = w.tape
  output : w'.output = w.output
  size : w.heap.size ≤ w'.heap.size
  block : ∀ k, k < w.heap.size → ¬ S k → w'.heap[k]? = w.heap[k]?
theorem Chg.refl (S : Nat → Prop) (w : World) : Chg S w w := ⟨rfl, rfl, rfl, Nat.le_refl _, fun _ _ _ => rfl⟩
theorem Chg.of_below {S : Nat → Prop} {w w' : World} (h : Below w.heap.size w w') : Chg S w w' := ⟨h.os, h.tape, h.output, h.size, fun k hk _ => h.block k hk⟩
theorem Chg.below {S : Nat → Prop} {w w' : World} (h : Chg S w w') {B : Nat} (hB : B ≤ w.heap.size) (hS : ∀ j, S j → B ≤ j) : Below B w w' :=
  ⟨h.os, h.tape, h.output, h.size, fun k hk => h.block k (by omega) (fun hs => by have := hS k hs; omega)⟩
theorem GL.block {w w' : World} (h : GL w) (hb : w'.heap[0]? = w.heap[0]?) : GL w' := fun i hi => (World.cell?_of_block (a := ⟨0, i, none⟩) hb).trans (h i hi)
theorem GL.lt {w : World} (h : GL w) : 0 < w.heap.size := by
  have := World.block_lt_of_cell? w ⟨0, 0, none⟩ (h 0 (by omega))
  exact this
theorem GL.chg {S : Nat → Prop} {w w' : World} (h : GL w) (hC : Chg S w w') (hS : ∀ j, S j → 3 ≤ j) : GL w' :=
  h.block (hC.block 0 h.lt (fun hs => by have := hS 0 hs; omega))
theorem rootF_size (f : Nat → ByteArray) : ∀ F o n, (∀ i, o ≤ i → i < o + n → (f i).size = 32) → (rootF f F o n).size = 32
  | 0, _, _, _ => sumS_size _
  | F + 1, o, n, hf => by
    simp only [rootF]
    split
    · exact sumS_size _
    · split
      · exact hf o (by omega) (by omega)
      · exact sumS_size _
theorem rootR_size (f : Nat → ByteArray) (o n : Nat) (hf : ∀ i, o ≤ i → i < o + n → (f i).size = 32) : (rootR f o n).size = 32 := rootF_size f n o n hf
end Go.Proofs.YtjamahpccblkiabDoor
