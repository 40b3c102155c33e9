/- A tree's memory: its block, its list of rows, the rows, each in a block of its own (Fst); what is pushed to a row, and a new row. -/
import Derived.Test.YtjamahpccblkiabDoorOwn
namespace Go.Proofs.YtjamahpccblkiabDoor
open Go.RowKit
theorem row_setCell {W : World} {g k : Nat} {cs : Array Value} {t : TypeId} {fr : Nat × Nat} (h : W.heap[g]? = some (.cells cs t fr)) (x : Value) :
    (W.setCell ⟨g, k, none⟩ x).heap[g]? = some (.cells (cs.setIfInBounds k x) t fr) := by
  have hl := lt_of_row h
  rw [Array.getElem?_eq_getElem hl] at h
  injection h with h
  unfold World.setCell
  rw [Array.getElem?_modify]
  simp [hl, h]
structure Fst (w : World) (S : Nat → Prop) (b : Nat) (pv : Value) (K : Nat) (V : Nat → Value) (L : Nat → List ByteArray) : Prop where
  blk : w.heap[b]? = some (.cells #[pv] 48 (0, 0))
  outer : w.ownsRow 0 22 1 pv K ((List.range K).map V)
  inner : ∀ k, k < K → w.ownsRow 0 9 1 (V k) (L k).length (strs (L k))
  inS : S b
  inP : ∀ g, pv.ownBlock = some g → S g
  inV : ∀ k, k < K → ∀ g, (V k).ownBlock = some g → S g
  apP : pv.ownBlock ≠ some b
  apV : ∀ k, k < K → (V k).ownBlock ≠ some b
  apO : ∀ k, k < K → ∀ g, (V k).ownBlock = some g → pv.ownBlock ≠ some g
  apR : ∀ j k, j < K → k < K → j ≠ k → ∀ g, (V j).ownBlock = some g → (V k).ownBlock ≠ some g
theorem own_kept {w w' : World} {base : Nat} {e : TypeId} {v : Value} {n : Nat} {xs : List Value} (h : w.ownsRow base e 1 v n xs) (hk : ∀ g, v.ownBlock = some g → w'.heap[g]? = w.heap[g]?) : w'.ownsRow base e 1 v n xs := by
  refine ⟨h.1, ?_⟩
  rcases h.2 with h1 | ⟨g, cap, cur, rfl, h2, h3, h4⟩
  · exact Or.inl h1
  · exact Or.inr ⟨g, cap, cur, rfl, h2, (hk g rfl).trans h3, h4⟩
theorem Fst.kept {w w' : World} {S : Nat → Prop} {b : Nat} {pv : Value} {K : Nat} {V : Nat → Value} {L : Nat → List ByteArray} (h : Fst w S b pv K V L) (hk : ∀ g, S g → w'.heap[g]? = w.heap[g]?) : Fst w' S b pv K V L :=
  { h with
    blk := (hk b h.inS).trans h.blk
    outer := own_kept h.outer (fun g hg => hk g (h.inP g hg))
    inner := fun k hk' => own_kept (h.inner k hk') (fun g hg => hk g (h.inV k hk' g hg)) }
theorem Fst.up {w : World} {S S' : Nat → Prop} {b : Nat} {pv : Value} {K : Nat} {V : Nat → Value} {L : Nat → List ByteArray} (h : Fst w S b pv K V L) (hS : ∀ g, S g → S' g) : Fst w S' b pv K V L :=
  { h with inS := hS _ h.inS, inP := fun g hg => hS g (h.inP g hg), inV := fun k hk g hg => hS g (h.inV k hk g hg) }
theorem Fst.congr {w : World} {S : Nat → Prop} {b : Nat} {pv : Value} {K : Nat} {V : Nat → Value} {L L' : Nat → List ByteArray} (h : Fst w S b pv K V L) (hL : ∀ k, k < K → L' k = L k) : Fst w S b pv K V L' :=
  { h with inner := fun k hk => by rw [hL k hk]; exact h.inner k hk }
theorem Fst.lts {w : World} {S : Nat → Prop} {b : Nat} {pv : Value} {K : Nat} {V : Nat → Value} {L : Nat → List ByteArray} (h : Fst w S b pv K V L) :
    b < w.heap.size ∧ (∀ g, pv.ownBlock = some g → g < w.heap.size) ∧ ∀ k, k < K → ∀ g, (V k).ownBlock = some g → g < w.heap.size :=
  ⟨lt_of_row h.blk, fun g hg => (h.outer.lt g hg).2, fun k hk g hg => ((h.inner k hk).lt g hg).2⟩
/- What a row that is grown leaves: the row of index k is another value with one text more; the list of rows has it. -/
theorem Fst.push {w w2 : World} {S : Nat → Prop} {b : Nat} {pv : Value} {K : Nat} {V : Nat → Value} {L : Nat → List ByteArray} (h : Fst w S b pv K V L) {k : Nat} (hk : k < K) {x : ByteArray} {g cap G c : Nat}
    (hown : w2.ownsRow 0 9 1 (.slice (some ⟨g, 0, none⟩) ((L k).length + 1) cap) ((L k).length + 1) (strs (L k) ++ [.string x]))
    (hbl : ∀ j, j < w.heap.size → some j ≠ (V k).ownBlock → w2.heap[j]? = w.heap[j]?)
    (hat : (V k).ownBlock = some g ∨ w.heap.size ≤ g) (hlt : g < w2.heap.size) (hG : pv = .slice (some ⟨G, 0, none⟩) K c) :
    Fst (w2.setCell ⟨G, k, none⟩ (.slice (some ⟨g, 0, none⟩) ((L k).length + 1) cap)) (fun j => S j ∨ (w.heap.size ≤ j ∧ j < w2.heap.size)) b pv K (fun j => if j = k then .slice (some ⟨g, 0, none⟩) ((L k).length + 1) cap else V j) (fun j => if j = k then L k ++ [x] else L j) := by
  obtain ⟨l1, l2, l3⟩ := h.lts
  have hGo : pv.ownBlock = some G := by rw [hG]; rfl
  have hGl := l2 G hGo
  have hbG : b ≠ G := fun e => h.apP (by rw [hGo, e])
  have hVG : (V k).ownBlock ≠ some G := fun e => h.apO k hk G e hGo
  have hgG : g ≠ G := by
    rcases hat with e | e
    · intro e2; rw [e2] at e; exact hVG e
    · omega
  have hgb : g ≠ b := by
    rcases hat with e | e
    · intro e2; rw [e2] at e; exact h.apV k hk e
    · omega
  have hset : ∀ j, j ≠ G → (w2.setCell ⟨G, k, none⟩ (.slice (some ⟨g, 0, none⟩) ((L k).length + 1) cap)).heap[j]? = w2.heap[j]? := fun j hj => Below.heap_setCell _ _ _ j hj
  have hVj : ∀ j, j < K → j ≠ k → ∀ q, (V j).ownBlock = some q → q ≠ G ∧ q ≠ g ∧ q < w.heap.size ∧ some q ≠ (V k).ownBlock := fun j hj hjk q hq => by
    refine ⟨fun e => h.apO j hj q hq (by rw [hGo, e]), ?_, l3 j hj q hq, fun e => h.apR j k hj hk hjk q hq e.symm⟩
    rcases hat with e | e
    · intro e2; exact h.apR j k hj hk hjk q hq (by rw [e, e2])
    · have := l3 j hj q hq; omega
  refine ⟨?_, ?_, ?_, Or.inl h.inS, fun q hq => Or.inl (h.inP q hq), ?_, h.apP, ?_, ?_, ?_⟩
  · rw [hset b hbG, hbl b l1 (fun e => h.apV k hk e.symm)]
    exact h.blk
  · obtain ⟨o1, o2⟩ := h.outer
    rcases o2 with ⟨o2, _⟩ | ⟨G', c', cur, o2, _, o3, o4, o5, o6, o7⟩
    · rw [hG] at o2; cases o2
    · rw [hG] at o2
      injection o2 with o2 _ oc
      injection o2 with o2
      injection o2 with o2 _ _
      subst o2
      subst oc
      have r2 : w2.heap[G]? = some (.cells cur 22 (0, 0)) := by rw [hbl G hGl (fun e => hVG e.symm)]; exact o3
      refine ⟨by simp, Or.inr ⟨G, c, cur.setIfInBounds k (.slice (some ⟨g, 0, none⟩) ((L k).length + 1) cap), ?_, Nat.zero_le _, row_setCell (k := k) r2 _, o4, o5, by simpa using o6, ?_⟩⟩
      · exact hG
      · have hlen : k < ((List.range K).map V).length := by simpa using hk
        rw [Array.toList_setIfInBounds, List.take_set, o7]
        apply List.ext_getElem?
        intro j
        rw [List.getElem?_set]
        by_cases hj : k = j
        · subst hj
          rw [if_pos rfl, if_pos (by simpa using hk)]
          simp [hk]
        · rw [if_neg hj]
          by_cases hjK : j < K
          · simp [hjK, show ¬ j = k from fun e => hj e.symm]
          · simp [hjK]
  · intro j hj
    by_cases hjk : j = k
    · subst hjk
      simp only [if_true]
      rw [strs_snoc, List.length_append]
      exact own_kept hown (fun q hq => by injection hq with hq; exact hset q (by rw [← hq]; exact hgG))
    · simp only [if_neg hjk]
      exact own_kept (h.inner j hj) (fun q hq => by
        obtain ⟨a1, a2, a3, a4⟩ := hVj j hj hjk q hq
        rw [hset q a1, hbl q a3 a4])
  · intro j hj q hq
    by_cases hjk : j = k
    · subst hjk
      simp only [if_true] at hq
      injection hq with hq
      have hq' : g = q := hq
      subst hq'
      rcases hat with e | e
      · exact Or.inl (h.inV j hj g e)
      · exact Or.inr ⟨e, hlt⟩
    · simp only [if_neg hjk] at hq
      exact Or.inl (h.inV j hj q hq)
  · intro j hj
    by_cases hjk : j = k
    · simp only [if_pos hjk]
      intro e
      injection e with e
      exact hgb e
    · simp only [if_neg hjk]
      exact h.apV j hj
  · intro j hj q hq
    by_cases hjk : j = k
    · simp only [if_pos hjk] at hq
      injection hq with hq
      have hq' : g = q := hq
      rw [hGo]
      intro e
      injection e with e
      omega
    · simp only [if_neg hjk] at hq
      exact h.apO j hj q hq
  · intro i j hi hj hij q hq
    by_cases hik : i = k
    · simp only [if_pos hik] at hq
      injection hq with hq
      have hq' : g = q := hq
      have hjk : j ≠ k := by omega
      simp only [if_neg hjk]
      intro e
      exact (hVj j hj hjk q e).2.1 hq'.symm
    · simp only [if_neg hik] at hq
      by_cases hjk : j = k
      · simp only [if_pos hjk]
        intro e
        injection e with e
        have e' : g = q := e
        exact (hVj i hi hik q hq).2.1 e'.symm
      · simp only [if_neg hjk]
        exact h.apR i j hi hj hij q hq
/- A new row, of nothing, behind the others. -/
theorem Fst.more {w w2 : World} {S : Nat → Prop} {b : Nat} {pv : Value} {K : Nat} {V : Nat → Value} {L : Nat → List ByteArray} (h : Fst w S b pv K V L) {g cap : Nat}
    (hown : w2.ownsRow 0 22 1 (.slice (some ⟨g, 0, none⟩) (K + 1) cap) (K + 1) ((List.range K).map V ++ [.slice none 0 0]))
    (hbl : ∀ j, j < w.heap.size → some j ≠ pv.ownBlock → w2.heap[j]? = w.heap[j]?)
    (hat : pv.ownBlock = some g ∨ w.heap.size ≤ g) (hlt : g < w2.heap.size) :
    Fst (w2.setCell ⟨b, 0, none⟩ (.slice (some ⟨g, 0, none⟩) (K + 1) cap)) (fun j => S j ∨ (w.heap.size ≤ j ∧ j < w2.heap.size)) b (.slice (some ⟨g, 0, none⟩) (K + 1) cap) (K + 1) (fun j => if j = K then .slice none 0 0 else V j) (fun j => if j = K then [] else L j) := by
  obtain ⟨l1, l2, l3⟩ := h.lts
  have hgb : g ≠ b := by
    rcases hat with e | e
    · intro e2; rw [e2] at e; exact h.apP e
    · omega
  have hset : ∀ j, j ≠ b → (w2.setCell ⟨b, 0, none⟩ (.slice (some ⟨g, 0, none⟩) (K + 1) cap)).heap[j]? = w2.heap[j]? := fun j hj => Below.heap_setCell _ _ _ j hj
  have hVg : ∀ j, j < K → ∀ q, (V j).ownBlock = some q → q ≠ g ∧ q ≠ b ∧ q < w.heap.size ∧ some q ≠ pv.ownBlock := fun j hj q hq => by
    refine ⟨?_, fun e => h.apV j hj (by rw [hq, e]), l3 j hj q hq, fun e => h.apO j hj q hq e.symm⟩
    rcases hat with e | e
    · intro e2; exact h.apO j hj q hq (by rw [e, e2])
    · have := l3 j hj q hq; omega
  have hjK : ∀ j, j < K + 1 → ¬ j = K → j < K := fun j h1 h2 => by omega
  refine ⟨?_, ?_, ?_, Or.inl h.inS, ?_, ?_, ?_, ?_, ?_, ?_⟩
  · have r2 : w2.heap[b]? = some (.cells #[pv] 48 (0, 0)) := by rw [hbl b l1 (fun e => h.apP e.symm)]; exact h.blk
    exact row_setCell (k := 0) r2 _
  · have e1 : (List.range (K + 1)).map (fun j => if j = K then Value.slice none 0 0 else V j) = (List.range K).map V ++ [.slice none 0 0] := by
      rw [List.range_succ, List.map_append]
      congr 1
      · apply List.map_congr_left
        intro j hj
        rw [if_neg (by have := List.mem_range.1 hj; omega)]
      · simp
    rw [e1]
    exact own_kept hown (fun q hq => by injection hq with hq; exact hset q (by rw [← hq]; exact hgb))
  · intro j hj
    by_cases hjk : j = K
    · simp only [if_pos hjk]
      exact ⟨rfl, Or.inl ⟨rfl, rfl⟩⟩
    · simp only [if_neg hjk]
      exact own_kept (h.inner j (hjK j hj hjk)) (fun q hq => by
        obtain ⟨a1, a2, a3, a4⟩ := hVg j (hjK j hj hjk) q hq
        rw [hset q a2, hbl q a3 a4])
  · intro q hq
    injection hq with hq
    have hq' : g = q := hq
    subst hq'
    rcases hat with e | e
    · exact Or.inl (h.inP g e)
    · exact Or.inr ⟨e, hlt⟩
  · intro j hj q hq
    by_cases hjk : j = K
    · simp only [if_pos hjk] at hq
      cases hq
    · simp only [if_neg hjk] at hq
      exact Or.inl (h.inV j (hjK j hj hjk) q hq)
  · intro e
    injection e with e
    exact hgb e
  · intro j hj
    by_cases hjk : j = K
    · simp only [if_pos hjk]
      intro e; cases e
    · simp only [if_neg hjk]
      exact h.apV j (hjK j hj hjk)
  · intro j hj q hq
    by_cases hjk : j = K
    · simp only [if_pos hjk] at hq
      cases hq
    · simp only [if_neg hjk] at hq
      intro e
      injection e with e
      have e' : g = q := e
      exact (hVg j (hjK j hj hjk) q hq).1 e'.symm
  · intro i j hi hj hij q hq
    by_cases hik : i = K
    · simp only [if_pos hik] at hq
      cases hq
    · simp only [if_neg hik] at hq
      by_cases hjk : j = K
      · simp only [if_pos hjk]
        intro e; cases e
      · simp only [if_neg hjk]
        exact h.apR i j (hjK i hi hik) (hjK j hj hjk) hij q hq
end Go.Proofs.YtjamahpccblkiabDoor
