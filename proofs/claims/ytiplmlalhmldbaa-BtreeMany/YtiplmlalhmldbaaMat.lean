/- Plain mathematics of lists of keys in order: what is put among them (insF), kids and keys by turns (seg), spans. -/
import Derived.Test.YtiplmlalhmldbaaLea
namespace Go.Proofs.Ytiplmlalhmldbaa
theorem ltB_trans {a b c : ByteArray} (h : ltB a b = true) (k : ltB b c = true) : ltB a c = true := lt8_trans h k
theorem ltB_irrefl (a : ByteArray) : ltB a a = false := lt8_irrefl _
theorem ltB_asymm {a b : ByteArray} (h : ltB a b = true) : ltB b a = false := lt8_asymm h
theorem ltB_total (a b : ByteArray) : ltB a b = true ∨ a = b ∨ ltB b a = true := by
  rcases lt8_total a.toList b.toList with h | h | h
  · exact Or.inl h
  · exact Or.inr (Or.inl (toList_inj h))
  · exact Or.inr (Or.inr h)
abbrev Pw (xs : List Im) : Prop := xs.Pairwise (fun a b => ltB a.1 b.1 = true)
theorem ris_pw (xs : List Im) : Ris xs ↔ Pw xs := by
  show Ris xs ↔ xs.Pairwise (fun a b => ltB a.1 b.1 = true)
  rw [List.pairwise_iff_getElem]
  constructor
  · intro h i j hi hj hij
    have := h i j hij hj
    rw [getElem!_pos xs i hi, getElem!_pos xs j hj] at this
    exact this
  · intro h i j hij hj
    have := h i j (by omega) hj hij
    rw [getElem!_pos xs i (by omega), getElem!_pos xs j hj]
    exact this
/- What is put among keys in order. -/
def insF (xs : List Im) (x : Im) : List Im := xs.filter (fun y => ltB y.1 x.1) ++ x :: xs.filter (fun y => ltB x.1 y.1)
def hasF (xs : List Im) (k : ByteArray) : Bool := xs.any (fun y => decide (y.1 = k))
theorem filter_lo {xs : List Im} {p : Im → Bool} (h : ∀ y ∈ xs, p y = true) : xs.filter p = xs := List.filter_eq_self.2 h
theorem filter_no {xs : List Im} {p : Im → Bool} (h : ∀ y ∈ xs, p y = false) : xs.filter p = [] := by
  rw [List.filter_eq_nil_iff]
  intro y hy e
  rw [h y hy] at e
  cases e
theorem insF_mid {A K S : List Im} {x : Im} (hA : ∀ y ∈ A, ltB y.1 x.1 = true) (hS : ∀ y ∈ S, ltB x.1 y.1 = true) : insF (A ++ K ++ S) x = A ++ insF K x ++ S := by
  unfold insF
  rw [List.filter_append, List.filter_append, List.filter_append, List.filter_append]
  rw [filter_lo (p := fun y => ltB y.1 x.1) hA, filter_no (xs := S) (p := fun y => ltB y.1 x.1) (fun y hy => ltB_asymm (hS y hy)), filter_no (xs := A) (p := fun y => ltB x.1 y.1) (fun y hy => ltB_asymm (hA y hy)), filter_lo (xs := S) (p := fun y => ltB x.1 y.1) hS]
  simp
theorem insF_here {A S : List Im} {x y : Im} (hy : y.1 = x.1) (hA : ∀ z ∈ A, ltB z.1 x.1 = true) (hS : ∀ z ∈ S, ltB x.1 z.1 = true) : insF (A ++ [y] ++ S) x = A ++ [x] ++ S := by
  rw [insF_mid hA hS]
  unfold insF
  rw [filter_no (xs := [y]) (fun z hz => by rw [List.mem_singleton] at hz; rw [hz, hy]; exact ltB_irrefl _), filter_no (xs := [y]) (fun z hz => by rw [List.mem_singleton] at hz; rw [hz, hy]; exact ltB_irrefl _)]
  rfl
/- Places of keys in order. -/
theorem pos_split : ∀ {xs : List Im} (_ : Pw xs) (k : ByteArray), (∀ y ∈ xs.take (posK xs k), ltB y.1 k = true) ∧ (∀ y ∈ xs.drop (posK xs k), ltB y.1 k = false)
  | [], _, k => ⟨fun y hy => by simp at hy, fun y hy => by simp at hy⟩
  | x :: xs, h, k => by
    have h := List.pairwise_cons.1 h
    have ih := pos_split h.2 k
    unfold posK
    rw [List.countP_cons]
    cases hx : ltB x.1 k with
    | true =>
      rw [if_pos rfl]
      refine ⟨fun y hy => ?_, fun y hy => ?_⟩
      · rw [List.take_succ_cons, List.mem_cons] at hy
        rcases hy with rfl | hy
        · exact hx
        · exact ih.1 y hy
      · rw [List.drop_succ_cons] at hy
        exact ih.2 y hy
    | false =>
      rw [if_neg (by simp)]
      have h0 : xs.countP (fun y => ltB y.1 k) = 0 := by
        rw [List.countP_eq_zero]
        intro y hy e
        have := ltB_trans (h.1 y hy) e
        rw [hx] at this
        cases this
      rw [Nat.add_zero, h0]
      refine ⟨fun y hy => by simp at hy, fun y hy => ?_⟩
      rw [List.drop_zero, List.mem_cons] at hy
      rcases hy with rfl | hy
      · exact hx
      · cases e : ltB y.1 k with
        | false => rfl
        | true =>
          have := ltB_trans (h.1 y hy) e
          rw [hx] at this
          cases this
theorem isK_at {xs : List Im} {k : ByteArray} (h : isK xs k = true) : posK xs k < xs.length ∧ (xs[posK xs k]!).1 = k := by
  unfold isK at h
  simp only [Bool.and_eq_true, decide_eq_true_eq] at h
  exact ⟨h.1, cmpK_zero.1 h.2⟩
theorem cut_at {xs : List Im} {i : Nat} (h : i < xs.length) : xs = xs.take i ++ [xs[i]!] ++ xs.drop (i + 1) := by
  rw [getElem!_pos xs i h, List.append_assoc, List.singleton_append, ← List.drop_eq_getElem_cons h, List.take_append_drop]
/- Behind a key that stands there all are above it; where it does not stand there all behind its place are. -/
theorem pos_above {xs : List Im} (hp : Pw xs) {k : ByteArray} (h : isK xs k = false) : ∀ y ∈ xs.drop (posK xs k), ltB k y.1 = true := by
  have hs := pos_split hp k
  intro y hy
  have hlt : posK xs k < xs.length := by
    rcases Nat.lt_or_ge (posK xs k) xs.length with h1 | h1
    · exact h1
    · rw [List.drop_eq_nil_of_le h1] at hy; cases hy
  have h0 : ltB k (xs[posK xs k]!).1 = true := by
    rw [getElem!_pos xs _ hlt]
    have hm : xs[posK xs k] ∈ xs.drop (posK xs k) := by rw [List.drop_eq_getElem_cons hlt]; exact List.mem_cons_self
    have h2 := hs.2 _ hm
    rcases ltB_total (xs[posK xs k]).1 k with h3 | h3 | h3
    · rw [h2] at h3; cases h3
    · exfalso
      unfold isK at h
      rw [decide_eq_true hlt, getElem!_pos xs _ hlt, h3, decide_eq_true (cmpK_zero.2 rfl)] at h
      cases h
    · exact h3
  have hpd : Pw (xs.drop (posK xs k)) := hp.sublist (List.drop_sublist _ _)
  rw [List.drop_eq_getElem_cons hlt] at hy hpd
  have hpd := List.pairwise_cons.1 hpd
  rw [List.mem_cons] at hy
  rw [getElem!_pos xs _ hlt] at h0
  rcases hy with rfl | hy
  · exact h0
  · exact ltB_trans h0 (hpd.1 y hy)
theorem pos_behind {xs : List Im} (hp : Pw xs) {k : ByteArray} (h : isK xs k = true) : ∀ y ∈ xs.drop (posK xs k + 1), ltB k y.1 = true := by
  obtain ⟨hlt, he⟩ := isK_at h
  have hpd : Pw (xs.drop (posK xs k)) := hp.sublist (List.drop_sublist _ _)
  rw [List.drop_eq_getElem_cons hlt] at hpd
  have hpd := List.pairwise_cons.1 hpd
  rw [getElem!_pos xs _ hlt] at he
  intro y hy
  have := hpd.1 y hy
  rwa [he] at this
theorem insK_insF {xs : List Im} (hp : Pw xs) (x : Im) : insK xs x = insF xs x := by
  have hs := pos_split hp x.1
  unfold insK
  by_cases h : isK xs x.1 = true
  · rw [if_pos h]
    obtain ⟨hlt, he⟩ := isK_at h
    have hc := cut_at hlt
    conv => rhs; rw [hc]
    rw [insF_here he hs.1 (pos_behind hp h)]
  · rw [if_neg h]
    have h' : isK xs x.1 = false := by simpa using h
    have e : insF xs x = insF (xs.take (posK xs x.1) ++ [] ++ xs.drop (posK xs x.1)) x := by rw [List.append_nil, List.take_append_drop]
    rw [e, insF_mid hs.1 (pos_above hp h')]
    rfl
theorem insF_pw {xs : List Im} (hp : Pw xs) (x : Im) : Pw (insF xs x) := by
  unfold insF
  refine List.pairwise_append.2 ?_
  refine ⟨hp.sublist (List.filter_sublist), ?_, fun a ha b hb => ?_⟩
  · refine List.pairwise_cons.2 ⟨fun y hy => ?_, hp.sublist (List.filter_sublist)⟩
    exact (List.mem_filter.1 hy).2
  · have h1 := (List.mem_filter.1 ha).2
    rw [List.mem_cons] at hb
    rcases hb with rfl | hb
    · exact h1
    · exact ltB_trans h1 (List.mem_filter.1 hb).2
/- Kids and keys by turns. -/
def seg (it : Nat → Im) (kd : Nat → List Im) : Nat → Nat → List Im
  | _, 0 => []
  | a, k + 1 => it a :: (kd (a + 1) ++ seg it kd (a + 1) k)
theorem seg_add (it : Nat → Im) (kd : Nat → List Im) : ∀ (j k a : Nat), seg it kd a (j + k) = seg it kd a j ++ seg it kd (a + j) k
  | 0, k, a => by rw [Nat.zero_add]; rfl
  | j + 1, k, a => by
    rw [show j + 1 + k = (j + k) + 1 by omega]
    show it a :: (kd (a + 1) ++ seg it kd (a + 1) (j + k)) = it a :: (kd (a + 1) ++ seg it kd (a + 1) j) ++ _
    rw [seg_add it kd j k (a + 1), show a + 1 + j = a + (j + 1) by omega]
    simp
theorem seg_congr {it it' : Nat → Im} {kd kd' : Nat → List Im} : ∀ (k a b : Nat), (∀ i, i < k → it (a + i) = it' (b + i) ∧ kd (a + i + 1) = kd' (b + i + 1)) → seg it kd a k = seg it' kd' b k
  | 0, _, _, _ => rfl
  | k + 1, a, b, h => by
    have h0 := h 0 (by omega)
    rw [Nat.add_zero, Nat.add_zero] at h0
    show it a :: (kd (a + 1) ++ seg it kd (a + 1) k) = it' b :: (kd' (b + 1) ++ seg it' kd' (b + 1) k)
    rw [h0.1, h0.2, seg_congr k (a + 1) (b + 1) (fun i hi => by
      have := h (i + 1) (by omega)
      rw [show a + (i + 1) = a + 1 + i by omega, show b + (i + 1) = b + 1 + i by omega] at this
      exact this)]
def allF (it : Nat → Im) (kd : Nat → List Im) (n : Nat) : List Im := kd 0 ++ seg it kd 0 n
/- What stands ahead of kid i. -/
def preF (it : Nat → Im) (kd : Nat → List Im) : Nat → List Im
  | 0 => []
  | i + 1 => kd 0 ++ seg it kd 0 i ++ [it i]
theorem pre_kid (it : Nat → Im) (kd : Nat → List Im) : ∀ i, kd 0 ++ seg it kd 0 i = preF it kd i ++ kd i
  | 0 => by show kd 0 ++ [] = [] ++ kd 0; simp
  | i + 1 => by
    rw [seg_add it kd i 1 0, Nat.zero_add]
    show kd 0 ++ (seg it kd 0 i ++ it i :: (kd (i + 1) ++ [])) = kd 0 ++ seg it kd 0 i ++ [it i] ++ kd (i + 1)
    simp
theorem all_at (it : Nat → Im) (kd : Nat → List Im) {i n : Nat} (h : i ≤ n) : allF it kd n = preF it kd i ++ kd i ++ seg it kd i (n - i) := by
  unfold allF
  obtain ⟨m, rfl⟩ : ∃ m, n = i + m := ⟨n - i, by omega⟩
  rw [seg_add it kd i m 0, Nat.zero_add, Nat.add_sub_cancel_left, ← List.append_assoc, pre_kid]
end Go.Proofs.Ytiplmlalhmldbaa
