/- A leaf is added (New, Add), called. -/
import Derived.Test.YtaocbkloafhmeaaDoorMrx
import Derived.WalkKit
import Derived.WalkSpells
import Derived.WalkLawsBesides
import Derived.Deep.QuietTactic
import Derived.BigQuiet
import Derived.Deep.RegionWith
import Derived.Deep.RegionHeld3
import Derived.Deep.DrawnRows
import Derived.Deep.RegionLaw
import Derived.Deep.CutRange
import Derived.BigGuardPart
namespace Go.Proofs.YtaocbkloafhmeaaDoor
open Go.RowKit
theorem new_any (w : World) :
    Calls Tryd.prog 46 #[] w fun e w' => e = .returned (.pointer (some ⟨w.heap.size, 0, none⟩)) ∧ w' = w.alloc (.cells #[.slice none 0 0] 112) := by
  go_enter Tryd.func46, Tryd.ntmps46
  go_wp2
  go_ret
  exact ⟨rfl, rfl⟩
theorem lvl_le {N K k : Nat} (hK : ∀ j, j < K ↔ 2 ^ j ≤ N) (hd : 2 ^ k ∣ N + 1) : k ≤ K := by
  have h1 := Nat.le_of_dvd (by omega) hd
  rcases Nat.eq_zero_or_pos k with h | h
  · omega
  · obtain ⟨j, rfl⟩ : ∃ j, k = j + 1 := ⟨k - 1, by omega⟩
    rw [Nat.pow_succ] at h1
    have := (hK j).2 (by have := Nat.two_pow_pos j; omega)
    omega
theorem lvl_lt {N k : Nat} (hd : 2 ^ k ∣ N + 1) : k < N + 2 := by
  have h1 := Nat.le_of_dvd (by omega) hd
  have := Nat.lt_two_pow_self (n := k)
  omega
def LRel (S : Nat → Prop) (w : World) (b N : Nat) (f : Nat → ByteArray) (x : ByteArray) (vr vk : Value) (wr : World) : Prop :=
  ∃ (k K : Nat) (pv : Value) (V : Nat → Value) (S' : Nat → Prop) (root : ByteArray), Fst wr S' b pv K V (midL f N x k) ∧ (∀ j, j < K ↔ 2 ^ j ≤ N) ∧ 2 ^ k ∣ N + 1 ∧ (∀ j, S' j → S j ∨ w.heap.size ≤ j) ∧ (∀ j, S' j → j < wr.heap.size) ∧ root = rootR (addF f N x) (N + 1 - 2 ^ k) (2 ^ k) ∧ root.size ≤ 18014398509481984 ∧ vr = .string root ∧ vk = .int .i64 (k : Int) ∧ Chg S w wr
def PRel (S : Nat → Prop) (w : World) (b : Nat) (K : Nat) (L : Nat → List ByteArray) (wr : World) : Prop :=
  ∃ (pv : Value) (V : Nat → Value) (S' : Nat → Prop), Fst wr S' b pv K V L ∧ (∀ j, S' j → S j ∨ w.heap.size ≤ j) ∧ (∀ j, S' j → j < wr.heap.size) ∧ Chg S w wr
theorem Chg.step {S S' : Nat → Prop} {w wr w2 : World} (h : Chg S w wr) (hS : ∀ j, S' j → S j ∨ w.heap.size ≤ j) (os : w2.os = wr.os) (tape : w2.tape = wr.tape) (output : w2.output = wr.output) (size : wr.heap.size ≤ w2.heap.size)
    (block : ∀ k, k < wr.heap.size → ¬ S' k → w2.heap[k]? = wr.heap[k]?) : Chg S w w2 :=
  ⟨os.trans h.os, tape.trans h.tape, output.trans h.output, Nat.le_trans h.size size, fun k hk hn => by
    rw [block k (Nat.lt_of_lt_of_le hk h.size) (fun hs => by
      rcases hS k hs with e | e
      · exact hn e
      · omega), h.block k hk hn]⟩
theorem pushed {S S' : Nat → Prop} {w wr w2 : World} {b K : Nat} {V : Nat → Value} {L : Nat → List ByteArray} {k : Nat} {x : ByteArray} {G c g cap : Nat} {o : Obj} {row : Option Nat}
    (hF : Fst wr S' b (.slice (some ⟨G, 0, none⟩) K c) K V L) (hS : ∀ j, S' j → S j ∨ w.heap.size ≤ j) (hS2 : ∀ j, S' j → j < wr.heap.size) (hC : Chg S w wr) (hk : k < K) (hrow : (V k).ownBlock = row)
    (hown : w2.ownsRow 0 9 1 (.slice (some ⟨g, 0, none⟩) ((L k).length + 1) cap) ((L k).length + 1) (strs (L k) ++ [.string x]))
    (hgr : (wr.alloc o).grownBy w2 row) (hat : row = some g ∨ g = wr.heap.size + 1) (hlt : g < w2.heap.size) :
    PRel S w b K (fun j => if j = k then L k ++ [x] else L j) (w2.setCell ⟨G, k, none⟩ (.slice (some ⟨g, 0, none⟩) ((L k).length + 1) cap)) := by
  subst hrow
  have hsz : wr.heap.size ≤ w2.heap.size := by have := hgr.size; simp at this; omega
  have hbl : ∀ j, j < wr.heap.size → some j ≠ (V k).ownBlock → w2.heap[j]? = wr.heap[j]? := fun j hj hn => by
    rw [hgr.block j (by simp; omega) hn, Below.heap_alloc wr o j hj]
  have hp := hF.push hk hown hbl (by rcases hat with e | e; exact Or.inl e; exact Or.inr (by omega)) hlt rfl
  have hGS := hF.inP G rfl
  refine ⟨_, _, _, hp, ?_, ?_, hC.step hS hgr.os hgr.tape hgr.output (by simpa using hsz) ?_⟩
  · intro j hj
    rcases hj with hj | hj
    · exact hS j hj
    · have := hC.size
      exact Or.inr (by omega)
  · intro j hj
    rcases hj with hj | hj
    · have := hS2 j hj
      simp; omega
    · simp; exact hj.2
  · intro j hj hn
    rw [Below.heap_setCell _ _ _ j (fun e => hn (by rw [show j = G from e]; exact hGS)), hbl j hj (fun e => hn (hF.inV k hk j e.symm))]
theorem mored {S S' : Nat → Prop} {w wr w2 : World} {b K : Nat} {pv : Value} {V : Nat → Value} {L : Nat → List ByteArray} {g cap : Nat} {o : Obj}
    (hF : Fst wr S' b pv K V L) (hS : ∀ j, S' j → S j ∨ w.heap.size ≤ j) (hS2 : ∀ j, S' j → j < wr.heap.size) (hC : Chg S w wr) (hLK : L K = [])
    (hown : w2.ownsRow 0 71 1 (.slice (some ⟨g, 0, none⟩) (K + 1) cap) (K + 1) ((List.range K).map V ++ [.slice none 0 0]))
    (hgr : (wr.alloc o).grownBy w2 pv.ownBlock) (hat : pv.ownBlock = some g ∨ g = wr.heap.size + 1) (hlt : g < w2.heap.size) :
    PRel S w b (K + 1) L (w2.setCell ⟨b, 0, none⟩ (.slice (some ⟨g, 0, none⟩) (K + 1) cap)) := by
  have hsz : wr.heap.size ≤ w2.heap.size := by have := hgr.size; simp at this; omega
  have hbl : ∀ j, j < wr.heap.size → some j ≠ pv.ownBlock → w2.heap[j]? = wr.heap[j]? := fun j hj hn => by
    rw [hgr.block j (by simp; omega) hn, Below.heap_alloc wr o j hj]
  have hp := hF.more hown hbl (by rcases hat with e | e; exact Or.inl e; exact Or.inr (by omega)) hlt
  refine ⟨_, _, _, hp.congr (fun k hk => ?_), ?_, ?_, hC.step hS hgr.os hgr.tape hgr.output (by simpa using hsz) ?_⟩
  · by_cases hkK : k = K
    · subst hkK
      rw [hLK, if_pos rfl]
    · simp only [if_neg hkK]
  · intro j hj
    rcases hj with hj | hj
    · exact hS j hj
    · have := hC.size
      exact Or.inr (by omega)
  · intro j hj
    rcases hj with hj | hj
    · have := hS2 j hj
      simp; omega
    · simp; exact hj.2
  · intro j hj hn
    rw [Below.heap_setCell _ _ _ j (fun e => hn (by rw [show j = b from e]; exact hF.inS)), hbl j hj (fun e => hn (hF.inP j e.symm))]
theorem PRel.congr {S : Nat → Prop} {w wr : World} {b K : Nat} {L L' : Nat → List ByteArray} (h : PRel S w b K L wr) (hL : ∀ k, k < K → L' k = L k) : PRel S w b K L' wr := by
  obtain ⟨pv, V, S', h1, h2, h3, h4⟩ := h
  exact ⟨pv, V, S', h1.congr hL, h2, h3, h4⟩
/- What the walk needs of a row that is grown. -/
structure At9 (wr : World) (b G K c k : Nat) (vk : Value) : Prop where
  c0 : wr.cell? ⟨b, 0, none⟩ = some (.slice (some ⟨G, 0, none⟩) K c)
  c1 : wr.cell? ⟨G, k, none⟩ = some vk
  f1 : wr.frozen? ⟨G, k, none⟩ = false
  hb : b < wr.heap.size
  hG : G < wr.heap.size
  nb : some b ≠ vk.ownBlock
  nG : some G ≠ vk.ownBlock
theorem Fst.at9 {wr : World} {S' : Nat → Prop} {b K k : Nat} {pv : Value} {V : Nat → Value} {L : Nat → List ByteArray} (hF : Fst wr S' b pv K V L) (hk : k < K) : ∃ G c, pv = .slice (some ⟨G, 0, none⟩) K c ∧ (K ≤ c ∧ c ≤ maxLen) ∧ At9 wr b G K c k (V k) := by
  obtain ⟨G, c, rfl, e2, e3, e4, e5⟩ := own_cell hF.outer (by omega)
  refine ⟨G, c, rfl, e4, ?_, e5 k (V k) (by simp [hk]), ?_, lt_of_row hF.blk, e3, fun e => hF.apV k hk e.symm, fun e => hF.apO k hk G e.symm rfl⟩
  · have := cell_of_row _ _ 0 _ _ _ hF.blk
    simpa using this
  · rcases hF.outer.2 with ⟨h1, _⟩ | ⟨G2, c2, cur2, h1, _, h3, _⟩
    · cases h1
    · injection h1 with h1 _ _
      injection h1 with h1
      injection h1 with h1 _ _
      subst h1
      exact frozen_of_row _ _ k _ _ h3
theorem fin_low {S S' : Nat → Prop} {w : World} {b N : Nat} {f : Nat → ByteArray} (hT : Tre w S b N f) (hS' : ∀ j, S' j → S j ∨ w.heap.size ≤ j) : ∀ j, S' j → 3 ≤ j := fun j hj => by
  obtain ⟨pv, K, V, hF, _⟩ := hT.ex
  have h1 := hT.low b hF.inS
  have h2 := lt_of_row hF.blk
  rcases hS' j hj with e | e
  · exact hT.low j e
  · omega
theorem sz_add {S : Nat → Prop} {w : World} {b N : Nat} {f : Nat → ByteArray} {x : ByteArray} (hT : Tre w S b N f) (hx : x.size = 32) : ∀ i, i < N + 1 → (addF f N x i).size = 32 := fun i hi => by
  by_cases h : i = N
  · rw [h, addF_new]; exact hx
  · rw [addF_old f N x (by omega)]; exact hT.sz i (by omega)
theorem fin_odd {S : Nat → Prop} {w wc : World} {b N K k : Nat} {f : Nat → ByteArray} {x : ByteArray} (hT : Tre w S b N f) (h : PRel S w b K (midL f N x (k + 1)) wc) (hd : ¬ 2 ^ (k + 1) ∣ N + 1) (hK : ∀ j, j < K ↔ 2 ^ j ≤ N + 1) (hx : x.size = 32) :
    (∃ S', Tre wc S' b (N + 1) (addF f N x) ∧ ∀ j, S' j → S j ∨ w.heap.size ≤ j) ∧ Chg S w wc := by
  obtain ⟨pv, V, S', h1, h2, h3, h4⟩ := h
  exact ⟨⟨S', ⟨⟨pv, K, V, h1.congr (fun j _ => (midL_end f N x k j hd).symm), hK⟩, fin_low hT h2, h3, sz_add hT hx⟩, h2⟩, h4⟩
theorem K_same {N K k : Nat} (hK : ∀ j, j < K ↔ 2 ^ j ≤ N) (hk : k < K) (hd : ¬ 2 ^ (k + 1) ∣ N + 1) : ∀ j, j < K ↔ 2 ^ j ≤ N + 1 := fun j => by
  constructor
  · intro h
    have := (hK j).1 h
    omega
  · intro h
    by_cases hj : 2 ^ j ≤ N
    · exact (hK j).2 hj
    · have e : 2 ^ j = N + 1 := by omega
      by_cases hjk : k < j
      · exact absurd (by rw [e]; exact Nat.dvd_refl _) (not_dvd_above hd hjk)
      · omega
theorem K_more {N K : Nat} (hK : ∀ j, j < K ↔ 2 ^ j ≤ N) (hd : 2 ^ K ∣ N + 1) : 2 ^ K = N + 1 ∧ (∀ j, j < K + 1 ↔ 2 ^ j ≤ N + 1) ∧ ¬ 2 ^ (K + 1) ∣ N + 1 ∧ (N + 1) / 2 ^ K = 1 ∧ N / 2 ^ K = 0 := by
  have h1 := Nat.le_of_dvd (by omega) hd
  have h2 : ¬ 2 ^ K ≤ N := fun h => by have := (hK K).2 h; omega
  have e : 2 ^ K = N + 1 := by omega
  have hp := Nat.two_pow_pos K
  refine ⟨e, fun j => ⟨fun hj => ?_, fun hj => ?_⟩, fun h => ?_, ?_, Nat.div_eq_of_lt (by omega)⟩
  · rw [← e]
    exact Nat.pow_le_pow_right (by omega) (by omega)
  · rcases Nat.lt_or_ge j (K + 1) with q | q
    · exact q
    · have : 2 ^ (K + 1) ≤ 2 ^ j := Nat.pow_le_pow_right (by omega) q
      rw [Nat.pow_succ] at this
      omega
  · have := Nat.le_of_dvd (by omega) h
    rw [Nat.pow_succ] at this
    omega
  · rw [← e]
    exact Nat.div_self hp
theorem fin_row {f : Nat → ByteArray} {N k : Nat} {x : ByteArray} : midL f N x (k + 1) k = rowL (addF f N x) k (N + 1) := if_pos (by omega)
theorem root_up {f : Nat → ByteArray} {N k n : Nat} (hn : (N + 1) / 2 ^ k = n) (hd : 2 ^ (k + 1) ∣ N + 1) (hd0 : 2 ^ k ∣ N + 1) :
    nodeS (rootR f ((n - 2) * 2 ^ k) (2 ^ k)) (rootR f (N + 1 - 2 ^ k) (2 ^ k)) = rootR f (N + 1 - 2 ^ (k + 1)) (2 ^ (k + 1)) := by
  have e := Nat.div_mul_cancel hd0
  rw [hn] at e
  have e1 : (n - 2) * 2 ^ k = N + 1 - 2 ^ (k + 1) := by rw [Nat.sub_mul, e, Nat.pow_succ]; omega
  have e2 : N + 1 - 2 ^ (k + 1) + 2 ^ k = N + 1 - 2 ^ k := by
    have : 2 ^ (k + 1) ≤ N + 1 := Nat.le_of_dvd (by omega) hd
    rw [Nat.pow_succ] at this ⊢
    omega
  rw [rootR_pow, e1, e2]
theorem rest_cells {S : Nat → Prop} {w wc : World} {b N K k : Nat} {f : Nat → ByteArray} {x : ByteArray} (h : PRel S w b K (midL f N x (k + 1)) wc) (hk : k < K) (hd : 2 ^ k ∣ N + 1) :
    ∃ G c g cap, wc.cell? ⟨b, 0, none⟩ = some (.slice (some ⟨G, 0, none⟩) K c) ∧ wc.cell? ⟨G, k, none⟩ = some (.slice (some ⟨g, 0, none⟩) ((N + 1) / 2 ^ k) cap) ∧ (K ≤ c ∧ c ≤ maxLen) ∧ ((N + 1) / 2 ^ k ≤ cap ∧ cap ≤ maxLen) ∧ ∀ i, i < (N + 1) / 2 ^ k → wc.cell? ⟨g, i, none⟩ = some (.string (rootR (addF f N x) (i * 2 ^ k) (2 ^ k))) := by
  obtain ⟨pv, V, S', h1, h2, h3, h4⟩ := h
  obtain ⟨G, c, rfl, hcc, A9⟩ := h1.at9 hk
  have hin := h1.inner k hk
  rw [fin_row, rowL_len] at hin
  obtain ⟨g, cap, e1, _, _, e4, e5⟩ := own_cell hin (by rw [div_up hd]; exact Nat.succ_pos _)
  refine ⟨G, c, g, cap, A9.c0, by rw [A9.c1, e1], hcc, e4, fun i hi => e5 i _ ?_⟩
  unfold strs
  rw [List.getElem?_map, rowL_get _ _ _ _ hi]
  rfl
set_option maxRecDepth 100000 in
set_option maxHeartbeats 4000000 in
theorem add_any (s : ByteArray) (hs : s.size ≤ 18014398509481984) (N : Nat) (hN : N < 1000000) (f : Nat → ByteArray) (S : Nat → Prop) (b : Nat) (w : World) (hG : GL w) (hT : Tre w S b N f) :
    Calls Tryd.prog 47 #[.pointer (some ⟨b, 0, none⟩), .string s] w fun e w' => e = .returned (.string (sumS (leafT s))) ∧ (∃ S', Tre w' S' b (N + 1) (addF f N (sumS (leafT s))) ∧ ∀ j, S' j → S j ∨ w.heap.size ≤ j) ∧ Chg S w w' := by
  have hlf := fun w hG => leaf_any s hs w hG
  have hxs := sumS_size (leafT s)
  obtain ⟨x, hx⟩ : ∃ x, sumS (leafT s) = x := ⟨_, rfl⟩
  rw [hx] at hxs ⊢
  simp only [hx] at hlf
  clear hx
  obtain ⟨i9, hi, hz0, hz1, hz2⟩ := info_parts info9
  obtain ⟨i22, hi', hz0', hz1', hz2'⟩ := info_parts info22
  go_enter Tryd.func47, Tryd.ntmps47
  go_wp2_with fail
  refine (hlf _ hG).mono ?_
  rintro e w1 ⟨rfl, hb1⟩
  have hT1 := hT.later hb1
  go_wp2_with fail
  go_loopw [6, 7] (fun vr vk wr => LRel S w b N f x vr vk wr) (fun _ vk _ => N + 2 - (intOf vk).toNat)
  case atStart =>
    obtain ⟨pv, K, V, hF, hK⟩ := hT1.ex
    refine ⟨0, K, pv, V, S, x, hF.congr (fun k _ => by unfold midL; rw [if_neg (by omega)]), hK, by simp, fun j hj => Or.inl hj, hT1.hi, ?_, by omega, rfl, rfl, Chg.of_below hb1⟩
    show x = rootR (addF f N x) (N + 1 - 1) 1
    rw [rootR_one, Nat.add_sub_cancel, addF_new]
  case round =>
    obtain ⟨k, K, pv, V, S', root, hF, hK, hd, hS', hS2, hroot, hrs, rfl, rfl, hC⟩ := hrel
    have hkK := lvl_le hK hd
    have hkN := lvl_lt hd
    have HR : Hid (root = rootR (addF f N x) (N + 1 - 2 ^ k) (2 ^ k)) := hroot
    clear hroot
    by_cases hkl : k = K
    · subst hkl
      obtain ⟨hk1, hk2, hk3, hk4, hk5⟩ := K_more hK hd
      obtain ⟨pp, pc, hpv, hpc⟩ := own_slice hF.outer
      have c0 := cell_of_row _ _ 0 _ _ _ hF.blk
      have f0 := frozen_of_row _ _ 0 _ _ hF.blk
      simp only [List.getElem?_toArray, List.getElem?_cons_zero] at c0
      have hbl := lt_of_row hF.blk
      have nb : some b ≠ pv.ownBlock := fun e => hF.apP e.symm
      have hou := hF.outer
      have hLK : midL f N x k k = [] := by rw [midL_at]; unfold rowL; rw [hk5]; rfl
      have hcl : ∀ (o : Obj), b < (wr.alloc o).heap.size := fun o => by simp; omega
      have ca0 : ∀ o, (wr.alloc o).frozen? ⟨b, 0, none⟩ = false := fun o => (World.frozen?_of_block (Below.heap_alloc wr o _ hbl)).trans f0
      have cc0 : ∀ o, (wr.alloc o).cell? ⟨b, 0, none⟩ = some pv := fun o => (World.cell?_of_block (Below.heap_alloc wr o _ hbl)).trans c0
      obtain ⟨pvl, hpvl⟩ : ∃ pvl, pv = pvl := ⟨_, rfl⟩
      subst hpv
      have hk20 : k ≤ 1000000 := by
        have := Nat.lt_two_pow_self (n := k)
        omega
      clear hpvl
      go_wp2_with (at_builtin; refine wpList_append_lies _ (by rfl) (.tmp 27) (.tmp 28) 110 (by rfl) 0 71 i22 _ 1 24 Tryd.underlying110 hi' hz0' hz1' hz2' (by rfl) (by decide) (.slice pp k pc) k _ (by rfl) (hou.alloc _) ⟨wr.heap.size, 0, none⟩ 1 1 [.slice none 0 0] (by rfl) (by rfl) (World.news_of_block (heap_alloc_new wr _)) (by simp [Value.oneCell']) (by decide) (by unfold maxLen; omega) (by omega) (Nat.zero_le _) (wr.heap.size + 1) (by simp) ?_; intro g0 cap0 w0 hown0 hgr0 hat0 hlt0; have d0 := (hgr0.cell_far ⟨b, 0, none⟩ (hcl _) nb).trans (cc0 _); have d1 := (hgr0.frozen_far ⟨b, 0, none⟩ (hcl _) nb).trans (ca0 _))
      have hM := mored (o := .cells #[.slice none 0 0] 71) hF hS' hS2 hC hLK hown0 hgr0 hat0 hlt0
      obtain ⟨wx, hwx⟩ : ∃ wx, w0.setCell ⟨b, 0, none⟩ (.slice (some ⟨g0, 0, none⟩) (k + 1) cap0) = wx := ⟨_, rfl⟩
      rw [hwx] at hM ⊢
      clear hwx hF hS' hS2 hC hLK hown0 hgr0 hat0 hlt0 d0 d1 c0 f0 hbl nb hou hcl ca0 cc0
      obtain ⟨pv1, V, S', hF, hS', hS2, hC⟩ := hM
      obtain ⟨K1, hK1⟩ : ∃ K1, k + 1 = K1 := ⟨_, rfl⟩
      have hlt : k < K1 := by omega
      rw [hK1] at hF hk2
      have HK1 : Hid (k + 1 = K1) := hK1
      clear hK1
      obtain ⟨G, c, rfl, hcc, A9⟩ := hF.at9 hlt
      have hki : (k : Int) < (K1 : Int) := by omega
      have hk0 : (0 : Int) ≤ (k : Int) := by omega
      have hin := hF.inner k hlt
      obtain ⟨vk, hvk⟩ : ∃ vk, V k = vk := ⟨_, rfl⟩
      rw [hvk] at A9 hin
      have HV : Hid (V k = vk) := hvk
      have hq : (midL f N x k k).length ≤ 1000000 := by rw [midL_len]; exact Nat.le_trans (Nat.div_le_self _ _) (by omega)
      obtain ⟨q, hqq⟩ : ∃ q, (midL f N x k k).length = q := ⟨_, rfl⟩
      rw [hqq] at hin hq
      have HQ : Hid ((midL f N x k k).length = q) := hqq
      have c0 := A9.c0
      have c1 := A9.c1
      have f1 := A9.f1
      have ca0 : ∀ o, (wx.alloc o).cell? ⟨b, 0, none⟩ = some (.slice (some ⟨G, 0, none⟩) K1 c) := fun o => (World.cell?_of_block (Below.heap_alloc wx o _ A9.hb)).trans c0
      have ca1 : ∀ o, (wx.alloc o).cell? ⟨G, k, none⟩ = some vk := fun o => (World.cell?_of_block (Below.heap_alloc wx o _ A9.hG)).trans c1
      have fa1 : ∀ o, (wx.alloc o).frozen? ⟨G, k, none⟩ = false := fun o => (World.frozen?_of_block (Below.heap_alloc wx o _ A9.hG)).trans f1
      have hba : ∀ o, b < (wx.alloc o).heap.size := fun o => by have := A9.hb; simp; omega
      have hGa : ∀ o, G < (wx.alloc o).heap.size := fun o => by have := A9.hG; simp; omega
      have nb := A9.nb
      have nG := A9.nG
      clear hvk hqq A9
      go_cut [32] from 32 to 47 (fun c32 w5 => c32 = .pointer (some ⟨b, 0, none⟩) ∧ PRel S w b K1 (midL f N x (k + 1)) w5)
      case first =>
        go_region_law (refine step_append_lies _ (by rfl) (.tmp 43) (.tmp 45) 71 (by rfl) 0 9 i9 _ 1 16 Tryd.underlying71 hi hz0 hz1 hz2 (by rfl) (by decide) vk q _ (by rfl) (hin.alloc _) ⟨wx.heap.size, 0, none⟩ 1 1 [.string root] (by rfl) (by rfl) (World.news_of_block (heap_alloc_new wx _)) (by simp [Value.oneCell']) (by decide) (by unfold maxLen; omega) (by omega) (Nat.zero_le _) (wx.heap.size + 1) (by simp) ?_; intro g1 cap1 w2 hown2 hgr2 hat2 hlt2; have d0 := (hgr2.cell_far ⟨b, 0, none⟩ (hba _) nb).trans (ca0 _); have d1 := (hgr2.cell_far ⟨G, k, none⟩ (hGa _) nG).trans (ca1 _); have d2 := (hgr2.frozen_far ⟨G, k, none⟩ (hGa _) nG).trans (fa1 _))
        all_goals
          have hP : PRel S w b K1 (midL f N x (k + 1)) (w2.setCell ⟨G, k, none⟩ (.slice (some ⟨g1, 0, none⟩) (q + 1) cap1)) := by
            rw [← HQ.out]
            refine (pushed (o := .cells #[.string root] 9) hF hS' hS2 hC hlt (congrArg Value.ownBlock HV.out) (by rw [HQ.out]; exact hown2) ⟨hgr2.os, hgr2.tape, hgr2.output, hgr2.size, hgr2.block⟩ hat2 hlt2).congr (fun j _ => ?_)
            rw [midL_next f N x k j hd, ← HR.out]
          clear hown2 hgr2 hat2 hlt2 d0 d1 d2
          go_wp2_with fail
          go_meet
          case rel => exact ⟨rfl, hP⟩
      case rest =>
        obtain ⟨rfl, hP⟩ := hcut
        obtain ⟨G, c, g, cap, r0, r1, r2, r3, r4⟩ := rest_cells hP hlt hd
        clear hF hS' hS2 hC hin c0 c1 f1 ca0 ca1 fa1 hba hGa nb nG HV HQ hcc hq
        have hfin := fin_odd hT hP hk3 hk2 hxs
        rw [hk4] at r1 r3
        clear hP r4 hk1
        go_wp2
        go_ret
        exact ⟨rfl, hfin⟩
    · have hkB : ((k : Int) == (K : Int)) = false := beq_eq_false_iff_ne.2 (by omega)
      have hlt : k < K := by omega
      obtain ⟨G, c, rfl, hcc, A9⟩ := hF.at9 hlt
      have hki : (k : Int) < (K : Int) := by omega
      have hk0 : (0 : Int) ≤ (k : Int) := by omega
      have hin := hF.inner k hlt
      obtain ⟨vk, hvk⟩ : ∃ vk, V k = vk := ⟨_, rfl⟩
      rw [hvk] at A9 hin
      have HV : Hid (V k = vk) := hvk
      have hq : (midL f N x k k).length ≤ 1000000 := by rw [midL_len]; exact Nat.le_trans (Nat.div_le_self _ _) (by omega)
      obtain ⟨q, hqq⟩ : ∃ q, (midL f N x k k).length = q := ⟨_, rfl⟩
      rw [hqq] at hin hq
      have HQ : Hid ((midL f N x k k).length = q) := hqq
      have c0 := A9.c0
      have c1 := A9.c1
      have f1 := A9.f1
      have ca0 : ∀ o, (wr.alloc o).cell? ⟨b, 0, none⟩ = some (.slice (some ⟨G, 0, none⟩) K c) := fun o => (World.cell?_of_block (Below.heap_alloc wr o _ A9.hb)).trans c0
      have ca1 : ∀ o, (wr.alloc o).cell? ⟨G, k, none⟩ = some vk := fun o => (World.cell?_of_block (Below.heap_alloc wr o _ A9.hG)).trans c1
      have fa1 : ∀ o, (wr.alloc o).frozen? ⟨G, k, none⟩ = false := fun o => (World.frozen?_of_block (Below.heap_alloc wr o _ A9.hG)).trans f1
      have hba : ∀ o, b < (wr.alloc o).heap.size := fun o => by have := A9.hb; simp; omega
      have hGa : ∀ o, G < (wr.alloc o).heap.size := fun o => by have := A9.hG; simp; omega
      have nb := A9.nb
      have nG := A9.nG
      clear hvk hqq A9
      go_wp2_with fail
      go_cut [32] from 32 to 47 (fun c32 w5 => c32 = .pointer (some ⟨b, 0, none⟩) ∧ PRel S w b K (midL f N x (k + 1)) w5)
      case first =>
        go_region_law (refine step_append_lies _ (by rfl) (.tmp 43) (.tmp 45) 71 (by rfl) 0 9 i9 _ 1 16 Tryd.underlying71 hi hz0 hz1 hz2 (by rfl) (by decide) vk q _ (by rfl) (hin.alloc _) ⟨wr.heap.size, 0, none⟩ 1 1 [.string root] (by rfl) (by rfl) (World.news_of_block (heap_alloc_new wr _)) (by simp [Value.oneCell']) (by decide) (by unfold maxLen; omega) (by omega) (Nat.zero_le _) (wr.heap.size + 1) (by simp) ?_; intro g1 cap1 w2 hown2 hgr2 hat2 hlt2; have d0 := (hgr2.cell_far ⟨b, 0, none⟩ (hba _) nb).trans (ca0 _); have d1 := (hgr2.cell_far ⟨G, k, none⟩ (hGa _) nG).trans (ca1 _); have d2 := (hgr2.frozen_far ⟨G, k, none⟩ (hGa _) nG).trans (fa1 _))
        all_goals
          have hP : PRel S w b K (midL f N x (k + 1)) (w2.setCell ⟨G, k, none⟩ (.slice (some ⟨g1, 0, none⟩) (q + 1) cap1)) := by
            rw [← HQ.out]
            refine (pushed (o := .cells #[.string root] 9) hF hS' hS2 hC hlt (congrArg Value.ownBlock HV.out) (by rw [HQ.out]; exact hown2) ⟨hgr2.os, hgr2.tape, hgr2.output, hgr2.size, hgr2.block⟩ hat2 hlt2).congr (fun j _ => ?_)
            rw [midL_next f N x k j hd, ← HR.out]
          clear hown2 hgr2 hat2 hlt2 d0 d1 d2
          go_wp2_with fail
          go_meet
          case rel => exact ⟨rfl, hP⟩
      case rest =>
        obtain ⟨rfl, hP⟩ := hcut
        obtain ⟨G, c, g, cap, r0, r1, r2, r3, r4⟩ := rest_cells hP hlt hd
        clear hF hS' hS2 hC hin c0 c1 f1 ca0 ca1 fa1 hba hGa nb nG HV HQ hcc hq
        have hnn : (N + 1) / 2 ^ k ≤ 1000001 := Nat.le_trans (Nat.div_le_self _ _) (by omega)
        have hdn := dvd_next hd
        have hup := fun h => root_up (f := addF f N x) (n := (N + 1) / 2 ^ k) rfl (hdn.2 h) hd
        have hpos : 1 ≤ (N + 1) / 2 ^ k := by rw [div_up hd]; exact Nat.succ_pos _
        obtain ⟨n, hn⟩ : ∃ n, (N + 1) / 2 ^ k = n := ⟨_, rfl⟩
        rw [hn] at hnn r1 r3 r4 hpos
        simp only [hn] at hdn hup
        have HDN : Hid (2 ^ (k + 1) ∣ N + 1 ↔ n % 2 = 0) := hdn
        have HN : Hid ((N + 1) / 2 ^ k = n) := hn
        clear hn hdn
        by_cases hodd : n % 2 = 1
        · have hodd' : (n : Int) % 2 = 1 := by omega
          have hfin := fin_odd hT hP (fun h => by have := HDN.out.1 h; omega) (K_same hK hlt (fun h => by have := HDN.out.1 h; omega)) hxs
          clear hP hup r4
          go_wp2
          go_ret
          exact ⟨rfl, hfin⟩
        · have hodd' : ¬ (n : Int) % 2 = 1 := by omega
          have he : n % 2 = 0 := by omega
          have r5 := r4 (n - 2) (by omega)
          have hup2 := hup he
          rw [← HR.out] at hup2
          have hsz := sumS_size (leafT s)
          obtain ⟨y, hy⟩ : ∃ y, rootR (addF f N x) ((n - 2) * 2 ^ k) (2 ^ k) = y := ⟨_, rfl⟩
          rw [hy] at r5 hup2
          have hys : y.size ≤ 18014398509481984 := by
            rw [← hy, rootR_size _ _ _ (fun i _ h2 => sz_add hT hxs i (by have := part_le (N := N + 1) (i := n - 2) (k := k) (by rw [HN.out]; omega); omega))]
            omega
          obtain ⟨z, hz⟩ : ∃ z, n - 2 = z := ⟨_, rfl⟩
          rw [hz] at r5
          have hz' : (n : Int) - 2 = (z : Int) := by omega
          have hzn : (z : Int) < (n : Int) := by omega
          have hz0 : (0 : Int) ≤ (z : Int) := by omega
          have HUP : Hid (nodeS y root = rootR (addF f N x) (N + 1 - 2 ^ (k + 1)) (2 ^ (k + 1))) := hup2
          obtain ⟨pv', V', S1, p1, p2, p3, p4⟩ := hP
          have hGc : GL wc := hG.chg p4 hT.low
          clear hup hup2 r4 hy hz
          go_wp2_with fail
          refine (node_any y root hys hrs _ hGc).mono ?_
          rintro e w6 ⟨rfl, hb6⟩
          go_wp2
          go_roundw
          case rel =>
            refine ⟨k + 1, K, pv', V', S1, nodeS y root, p1.kept (fun g hg => hb6.block g (p3 g hg)), hK, HDN.out.2 he, p2, fun j hj => Nat.lt_of_lt_of_le (p3 j hj) hb6.size, HUP.out, by rw [nodeS, sumS_size]; omega, rfl, by go_num, p4.step (S' := fun _ => False) (fun _ h => h.elim) hb6.os hb6.tape hb6.output hb6.size (fun j hj _ => hb6.block j hj)⟩
          case measure =>
            show N + 2 - (intOf (.int .i64 ((k : Int) + 1))).toNat < N + 2 - (intOf (.int .i64 (k : Int))).toNat
            simp only [intOf_i64]
            omega
end Go.Proofs.YtaocbkloafhmeaaDoor
