/- Plain facts about a block of memory that holds 64 words of 32 bits, filled from the front on. No condition. -/
import Derived.Test.YtaocbkloafhmeaaDoorMath
import Derived.WalkKit
import Derived.WalkSpells
import Derived.Lib.Strings
import Derived.Deep.MidRow
namespace Go.Proofs.YtaocbkloafhmeaaDoor
open Go Go.RowKit

def V (x : BitVec 32) : Value := .int .u32 (n32 x)
def pad64 (l : List (BitVec 32)) : List (BitVec 32) := l ++ List.replicate (64 - l.length) 0#32
def rowA (l : List (BitVec 32)) : Array Value := ((pad64 l).map V).toArray

theorem pad64_len (l : List (BitVec 32)) (h : l.length ≤ 64) : (pad64 l).length = 64 := by simp [pad64]; omega
theorem pad64_full (l : List (BitVec 32)) (h : l.length = 64) : pad64 l = l := by simp [pad64, h]
theorem rowA_size (l : List (BitVec 32)) (h : l.length ≤ 64) : (rowA l).size = 64 := by simp [rowA, pad64_len l h]
theorem pad64_set (l : List (BitVec 32)) (x : BitVec 32) (h : l.length < 64) : (pad64 l).set l.length x = pad64 (l ++ [x]) := by
  unfold pad64
  obtain ⟨m, hm⟩ : ∃ m, 64 - l.length = m + 1 := ⟨63 - l.length, by omega⟩
  have hm' : 64 - (l ++ [x]).length = m := by simp; omega
  rw [hm, hm', List.set_append_right _ _ (Nat.le_refl _), Nat.sub_self, List.replicate_succ, List.set_cons_zero]
  simp
theorem rowA_set (l : List (BitVec 32)) (x : BitVec 32) (n : Nat) (hn : n = l.length) (h : l.length < 64) : (rowA l).setIfInBounds n (.int .u32 (n32 x)) = rowA (l ++ [x]) := by
  subst hn
  unfold rowA
  rw [← pad64_set l x h, List.map_set]
  rw [List.setIfInBounds_toArray]
  rfl
theorem rowA_get (l : List (BitVec 32)) (i : Nat) (hi : i < l.length) : (rowA l)[i]? = some (.int .u32 (n32 (l.getD i 0))) := by
  unfold rowA pad64
  simp only [List.getElem?_toArray, List.getElem?_map]
  rw [List.getElem?_append_left hi]
  simp [V, List.getD_eq_getElem?_getD, hi]
theorem rowA_get_pad (l : List (BitVec 32)) (i : Nat) (hi : i < 64) (hl : l.length ≤ 64) : ∃ v, (rowA l)[i]? = some (.int .u32 (n32 v)) := by
  have h := rowA_size l hl
  have hp := pad64_len l hl
  refine ⟨(pad64 l).getD i 0, ?_⟩
  unfold rowA
  simp [V, List.getD_eq_getElem?_getD, hp, hi]
theorem row_cell {W : World} {g : Nat} {l : List (BitVec 32)} {t : TypeId} {fr : Nat × Nat} (h : W.heap[g]? = some (.cells (rowA l) t fr)) (i : Nat) (hi : i < l.length) : W.cell? ⟨g, i, none⟩ = some (.int .u32 (n32 (l.getD i 0))) := by
  rw [cell_of_row W g i _ t fr h, rowA_get l i hi]
theorem row_cell_pad {W : World} {g : Nat} {l : List (BitVec 32)} {t : TypeId} {fr : Nat × Nat} (h : W.heap[g]? = some (.cells (rowA l) t fr)) (i : Nat) (hi : i < 64) (hl : l.length ≤ 64) : ∃ v, W.cell? ⟨g, i, none⟩ = some (.int .u32 (n32 v)) := by
  rw [cell_of_row W g i _ t fr h]; exact rowA_get_pad l i hi hl
theorem row_set {W : World} {g : Nat} {l : List (BitVec 32)} {t : TypeId} (h : W.heap[g]? = some (.cells (rowA l) t (0, 0))) (n : Nat) (x : BitVec 32) (hn : n = l.length) (hl : l.length < 64) :
    (W.setCell ⟨g, n, none⟩ (.int .u32 (n32 x))).heap[g]? = some (.cells (rowA (l ++ [x])) t (0, 0)) := by
  rw [heap_setCell_same W g n _ t _ h, rowA_set l x n hn hl]
theorem cell_set_off (W : World) (b i j : Nat) (v : Value) (h : ¬ j = i) : (W.setCell ⟨b, i, none⟩ v).cell? ⟨b, j, none⟩ = W.cell? ⟨b, j, none⟩ :=
  World.cell?_setCell_other W _ _ v (fun e => h (by injection e with _ h2; exact h2.symm))
theorem wordB_extract (s : ByteArray) (i : Nat) (_h : 4 * i + 4 ≤ s.size) : wordB (s.extract (4 * i) (4 * i + 4)).data.toList 0 = wordB s.data.toList i := by
  have e : ∀ j, j < 4 → byteB (s.extract (4 * i) (4 * i + 4)).data.toList j = byteB s.data.toList (4 * i + j) := by
    intro j hj
    unfold byteB
    rw [Lib.extract_data]
    congr 2
    simp [List.getD_eq_getElem?_getD]
    rw [List.getElem?_take_of_lt (by omega)]
    simp
  unfold wordB
  simp only [Nat.mul_zero, Nat.zero_add]
  rw [e 0 (by omega), e 1 (by omega), e 2 (by omega), e 3 (by omega)]
  rfl
theorem zero64 : (#[Value.int IntKind.u32 0, .int .u32 0, .int .u32 0, .int .u32 0, .int .u32 0, .int .u32 0, .int .u32 0, .int .u32 0, .int .u32 0, .int .u32 0, .int .u32 0, .int .u32 0, .int .u32 0, .int .u32 0, .int .u32 0, .int .u32 0, .int .u32 0, .int .u32 0, .int .u32 0, .int .u32 0, .int .u32 0, .int .u32 0, .int .u32 0, .int .u32 0, .int .u32 0, .int .u32 0, .int .u32 0, .int .u32 0, .int .u32 0, .int .u32 0, .int .u32 0, .int .u32 0, .int .u32 0, .int .u32 0, .int .u32 0, .int .u32 0, .int .u32 0, .int .u32 0, .int .u32 0, .int .u32 0, .int .u32 0, .int .u32 0, .int .u32 0, .int .u32 0, .int .u32 0, .int .u32 0, .int .u32 0, .int .u32 0, .int .u32 0, .int .u32 0, .int .u32 0, .int .u32 0, .int .u32 0, .int .u32 0, .int .u32 0, .int .u32 0, .int .u32 0, .int .u32 0, .int .u32 0, .int .u32 0, .int .u32 0, .int .u32 0, .int .u32 0, .int .u32 0] : Array Value) = rowA [] := rfl
theorem take_set_at {α : Type} (l : List α) (o : Nat) (v : α) (h : o < l.length) : (l.set o v).take (o + 1) = l.take o ++ [v] := by
  rw [List.take_succ_eq_append_getElem (by simpa using h)]
  simp [List.take_set_of_le]
theorem heap_setCells_full (g : Nat) (t : TypeId) : ∀ (vs : List Value) (o : Nat) (W : World) (cs : Array Value), W.heap[g]? = some (.cells cs t (0, 0)) → o + vs.length = cs.size →
    (W.setCells g o vs).heap[g]? = some (.cells (cs.toList.take o ++ vs).toArray t (0, 0))
  | [], o, W, cs, h, hl => by
    simp only [World.setCells, List.append_nil]
    rw [h, List.take_of_length_le (by simp at hl; simp; omega)]
  | v :: r, o, W, cs, h, hl => by
    simp only [World.setCells]
    simp at hl
    rw [heap_setCells_full g t r (o + 1) _ (cs.setIfInBounds o v) (heap_setCell_same W g o cs t v h) (by simp; omega)]
    congr 3
    have : (cs.setIfInBounds o v).toList.take (o + 1) = cs.toList.take o ++ [v] := by
      rw [Array.toList_setIfInBounds, take_set_at cs.toList o v (by simp; omega)]
    rw [this]; simp
theorem setCells_row {W : World} {g : Nat} {t : TypeId} {cs vs : Array Value} (h : W.heap[g]? = some (.cells cs t (0, 0))) (hl : vs.size = cs.size) :
    (W.setCells g 0 vs.toList).heap[g]? = some (.cells vs t (0, 0)) := by
  rw [heap_setCells_full g t vs.toList 0 W cs h (by simp; omega)]
  simp
theorem below_setCells' {B g : Nat} {a : World} (hg : B ≤ g) : ∀ (vs : List Value) (o : Nat) (W : World), Below B a W → Below B a (W.setCells g o vs)
  | [], _, _, h => h
  | v :: r, o, _, h => below_setCells' hg r (o + 1) _ (h.setCell hg v)
theorem heap_setCells_else (g i : Nat) (hne : i ≠ g) : ∀ (vs : List Value) (o : Nat) (W : World), (W.setCells g o vs).heap[i]? = W.heap[i]?
  | [], _, _ => rfl
  | v :: r, o, W => by
    simp only [World.setCells]
    rw [heap_setCells_else g i hne r (o + 1) _, heap_setCell_other _ _ _ _ hne]
theorem row_there {W : World} {g : Nat} {l : List (BitVec 32)} {t : TypeId} (h : W.heap[g]? = some (.cells (rowA l) t (0, 0))) (hl : l.length ≤ 64) : W.there g 0 64 := by
  intro j hj
  obtain ⟨v, hv⟩ := row_cell_pad h j hj hl
  rw [Nat.zero_add]
  exact ⟨by rw [hv]; rfl, frozen_of_row W g j _ t h⟩
theorem rowA_one (l : List (BitVec 32)) : (rowA l).all (·.oneCell') = true := by
  unfold rowA
  exact all_oneCell_toArray (fun v hv => by
    obtain ⟨x, _, rfl⟩ := List.mem_map.1 hv
    rfl)
theorem rel_ext {W : World} {g i : Nat} {L0 l : List (BitVec 32)} {x16 x15 x7 x2 : BitVec 32} (h0 : L0.length = 16) (h16 : 16 ≤ i) (hi : i < 64) (HE : extW L0 (i - 16) = l)
    (E16 : l.getD ((i : Int) - 16).toNat 0 = x16) (E15 : l.getD ((i : Int) - 15).toNat 0 = x15) (E7 : l.getD ((i : Int) - 7).toNat 0 = x7) (E2 : l.getD ((i : Int) - 2).toNat 0 = x2)
    (h1 : W.heap[g]? = some (.cells (rowA l) 126 (0, 0))) :
    (W.setCell ⟨g, i, none⟩ (.int .u32 (n32 (x16 + shiB x15 7 18 3 + x7 + shiB x2 17 19 10)))).heap[g]? = some (.cells (rowA (extW L0 (i + 1 - 16))) 126 (0, 0)) := by
  have hlen := extW_len L0 (i - 16)
  rw [HE, h0] at hlen
  have hl : l.length = i := by omega
  have e : i + 1 - 16 = (i - 16) + 1 := by omega
  rw [e, extW, HE]
  have en : nextW l = x16 + shiB x15 7 18 3 + x7 + shiB x2 17 19 10 := by
    unfold nextW
    rw [hl]
    rw [show ((i : Int) - 16).toNat = i - 16 by omega] at E16
    rw [show ((i : Int) - 15).toNat = i - 15 by omega] at E15
    rw [show ((i : Int) - 7).toNat = i - 7 by omega] at E7
    rw [show ((i : Int) - 2).toNat = i - 2 by omega] at E2
    rw [E16, E15, E7, E2]
  rw [en]
  exact row_set h1 i _ hl.symm (by omega)
end Go.Proofs.YtaocbkloafhmeaaDoor
