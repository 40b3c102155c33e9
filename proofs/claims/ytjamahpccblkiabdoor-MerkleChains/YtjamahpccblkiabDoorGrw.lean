/- A tree that grows beside the list of its leaves' digests (Gr), as the laws make them; its calls in these words. -/
import Derived.Test.YtjamahpccblkiabDoorRro
namespace Go.Proofs.YtjamahpccblkiabDoor
open Go.RowKit
def lf (D : List ByteArray) : Nat → ByteArray := fun j => D.getD j ByteArray.empty
structure Gr (w0 wr : World) (b : Nat) (v : Value) (DT D : List ByteArray) : Prop where
  lo : 3 ≤ w0.heap.size
  gl : GL wr
  gd : GD wr
  tre : ∃ S, Tre wr S b DT.length (lf DT) ∧ (∀ j, S j → w0.heap.size ≤ j) ∧ ∀ g, v.ownBlock = some g → ¬ S g
  own : wr.ownsRow w0.heap.size 9 1 v D.length (strs D)
  bel : Below w0.heap.size w0 wr
theorem lf_snoc (D : List ByteArray) (x : ByteArray) : ∀ i, i < D.length + 1 → addF (lf D) D.length x i = lf (D ++ [x]) i := fun i hi => by
  show (if i = D.length then x else D.getD i ByteArray.empty) = (D ++ [x]).getD i ByteArray.empty
  rw [List.getD_eq_getElem?_getD, List.getD_eq_getElem?_getD]
  by_cases h : i = D.length
  · rw [if_pos h, h]
    simp
  · rw [if_neg h, List.getElem?_append_left (by omega)]
theorem lf_le (D : List ByteArray) (h : ∀ x ∈ D, x.size ≤ 400) : ∀ i, (lf D i).size ≤ 400 := fun i => by
  unfold lf
  rw [List.getD_eq_getElem?_getD]
  cases e : D[i]? with
  | none => exact Nat.zero_le _
  | some x => exact h x (List.mem_of_getElem? e)
theorem Gr.later {w0 wr w' : World} {b : Nat} {v : Value} {DT D : List ByteArray} (h : Gr w0 wr b v DT D) (hb : Below wr.heap.size wr w') : Gr w0 w' b v DT D := by
  obtain ⟨S, h1, h2, h3⟩ := h.tre
  exact ⟨h.lo, h.gl.later hb, h.gd.later hb, ⟨S, h1.later hb, h2, h3⟩, own_later h.own hb, h.bel.trans (hb.mono h.bel.size)⟩
theorem gadd {w0 wr : World} {b : Nat} {v : Value} {DT D : List ByteArray} (h : Gr w0 wr b v DT D) (s : ByteArray) (hs : s.size ≤ 400) (hN : DT.length < 1000000) :
    Calls Tryd.prog 13 #[.pointer (some ⟨b, 0, none⟩), .string s] wr fun e w' => e = .returned (.string (sumS (leafT s))) ∧ Gr w0 w' b v (DT ++ [sumS (leafT s)]) D := by
  obtain ⟨S, h1, h2, h3⟩ := h.tre
  refine (add_any s hs DT.length hN (lf DT) S b wr h.gl h1).mono ?_
  rintro e w' ⟨rfl, ⟨S', t1, t2⟩, hC⟩
  refine ⟨rfl, ⟨h.lo, h.gl.chg hC h1.low, h.gd.chg hC h1.low, ⟨S', ?_, ?_, ?_⟩, ?_, ?_⟩⟩
  · rw [List.length_append]
    exact t1.congr (lf_snoc DT _)
  · intro j hj
    have := h.bel.size
    rcases t2 j hj with e | e
    · exact h2 j e
    · omega
  · intro g hg hS
    rcases t2 g hS with e | e
    · exact h3 g hg e
    · have := (h.own.lt g hg).2
      omega
  · exact own_kept h.own (fun g hg => hC.block g (h.own.lt g hg).2 (h3 g hg))
  · exact h.bel.trans (hC.below h.bel.size h2)
theorem Gr.app {w0 wr w6 : World} {b : Nat} {v : Value} {DT D : List ByteArray} (h : Gr w0 wr b v DT D) {x : ByteArray} {o : Obj} {g cap : Nat}
    (hown : w6.ownsRow w0.heap.size 9 1 (.slice (some ⟨g, 0, none⟩) (D.length + 1) cap) (D.length + 1) (strs D ++ [.string x])) (hgr : (wr.alloc o).grownBy w6 v.ownBlock) (hat : v.ownBlock = some g ∨ g = (wr.alloc o).heap.size) :
    Gr w0 w6 b (.slice (some ⟨g, 0, none⟩) (D.length + 1) cap) DT (D ++ [x]) := by
  obtain ⟨S, h1, h2, h3⟩ := h.tre
  have hsz : wr.heap.size ≤ w6.heap.size := by have := hgr.size; simp at this; omega
  have hbl : ∀ j, j < wr.heap.size → some j ≠ v.ownBlock → w6.heap[j]? = wr.heap[j]? := fun j hj hn => by
    rw [hgr.block j (by simp; omega) hn, Below.heap_alloc wr o j hj]
  have hlow : ∀ j, v.ownBlock = some j → 3 ≤ j := fun j hj => by
    have := (h.own.lt j hj).1
    have h0 := h.lo
    omega
  refine ⟨h.lo, h.gl.block (hbl 0 h.gl.lt (fun e => by have := hlow 0 e.symm; omega)), h.gd.block (hbl 2 h.gd.lt (fun e => by have := hlow 2 e.symm; omega)), ⟨S, ?_, h2, ?_⟩, ?_, ?_⟩
  · exact h1.kept hsz (fun j hj => hbl j (h1.hi j hj) (fun e => h3 j e.symm hj))
  · intro j hj hS
    injection hj with hj
    have hj' : g = j := hj
    subst hj'
    rcases hat with e | e
    · exact h3 g e hS
    · have := h1.hi g hS
      simp at e
      omega
  · rw [strs_snoc, List.length_append]
    exact hown
  · exact (h.bel.alloc h.bel.size o).grown hgr (by have := h.bel.size; simp; omega) (fun k hk => (h.own.lt k hk).1)
theorem Gr.new {w0 w1 : World} (hw : 3 ≤ w0.heap.size) (hG : GL w0) (hD : GD w0) (h1 : w1 = (w0.alloc (.cells #[.slice none 0 0] 48)).alloc (.cells #[] 9)) :
    Gr w0 w1 w0.heap.size (.slice (some ⟨w0.heap.size + 1, 0, none⟩) 0 0) [] [] := by
  subst h1
  have hb1 : Below w0.heap.size w0 (w0.alloc (.cells #[.slice none 0 0] 48)) := (Below.refl _ _).alloc (Nat.le_refl _) _
  have hb2 : Below w0.heap.size w0 ((w0.alloc (.cells #[.slice none 0 0] 48)).alloc (.cells #[] 9)) := hb1.alloc (by simp) _
  refine ⟨hw, hG.later hb2, hD.later hb2, ⟨fun j => j = w0.heap.size, ?_, fun j hj => by omega, ?_⟩, ?_, hb2⟩
  · exact (new_tre w0 hw (lf [])).later ((Below.refl _ _).alloc (Nat.le_refl _) _)
  · intro g hg e
    injection hg with hg
    have hg' : w0.heap.size + 1 = g := hg
    omega
  · refine ⟨rfl, Or.inr ⟨w0.heap.size + 1, 0, #[], rfl, by omega, ?_, Nat.le_refl _, Nat.zero_le _, rfl, rfl⟩⟩
    have := heap_alloc_new (w0.alloc (.cells #[.slice none 0 0] 48)) (.cells #[] 9)
    simpa using this
theorem glen {w0 wr : World} {b : Nat} {v : Value} {DT D : List ByteArray} (h : Gr w0 wr b v DT D) (N : Nat) (hN : DT.length = N) (h64 : N ≤ 64) :
    Calls Tryd.prog 15 #[.pointer (some ⟨b, 0, none⟩)] wr fun e w' => e = .returned (.int .i64 (N : Int)) ∧ w' = wr := by
  obtain ⟨S, h1, h2, h3⟩ := h.tre
  subst hN
  exact len_tree _ (by omega) _ S b wr h1
theorem groot {w0 wr : World} {b : Nat} {v : Value} {DT D : List ByteArray} (h : Gr w0 wr b v DT D) (h64 : DT.length ≤ 64) :
    Calls Tryd.prog 10 #[.pointer (some ⟨b, 0, none⟩)] wr fun e w' => e = .returned (.string (rootR (lf DT) 0 DT.length)) ∧ Below wr.heap.size wr w' := by
  obtain ⟨S, h1, h2, h3⟩ := h.tre
  exact Root_any _ S b _ h64 wr h.gl h.gd h1
theorem grootAt {w0 wr : World} {b : Nat} {v : Value} {DT D : List ByteArray} (h : Gr w0 wr b v DT D) (h64 : DT.length ≤ 64) (m : Int) (h0 : 0 ≤ m) (h1 : m ≤ DT.length) :
    Calls Tryd.prog 7 #[.pointer (some ⟨b, 0, none⟩), .int .i64 m] wr fun e w' => e = .returned (.tuple #[.string (rootR (lf DT) 0 m.toNat), .int .i64 0]) ∧ Below wr.heap.size wr w' := by
  obtain ⟨S, t1, t2, t3⟩ := h.tre
  exact RootAt_any _ S b _ h64 m h0 h1 wr h.gl h.gd t1
theorem grootAt_bad {w0 wr : World} {b : Nat} {v : Value} {DT D : List ByteArray} (h : Gr w0 wr b v DT D) (h64 : DT.length ≤ 64) (m : Int) (hm : m < 0 ∨ (DT.length : Int) < m) :
    Calls Tryd.prog 7 #[.pointer (some ⟨b, 0, none⟩), .int .i64 m] wr fun e w' => e = .returned (.tuple #[.string ⟨#[]⟩, .int .i64 1]) ∧ w' = wr := by
  obtain ⟨S, t1, t2, t3⟩ := h.tre
  exact RootAt_bad _ S b _ h64 m hm wr t1
theorem gall {w0 wr : World} {b : Nat} {v : Value} {DT D : List ByteArray} (h : Gr w0 wr b v DT D) :
    ∃ q cq, v = .slice q D.length cq ∧ (D.length ≤ cq ∧ cq ≤ maxLen) ∧ Strs wr q D.length cq (lf D) := by
  obtain ⟨q, cq, rfl, hs⟩ := own_strs h.own
  exact ⟨q, cq, rfl, hs.cap, hs⟩
def cut60 (s : ByteArray) : ByteArray := if 60 < s.size then s.extract 0 60 else s
theorem cut60_size (s : ByteArray) : (cut60 s).size ≤ 400 := by
  unfold cut60
  split
  · rw [ByteArray.size_extract]; omega
  · omega
end Go.Proofs.YtjamahpccblkiabDoor
