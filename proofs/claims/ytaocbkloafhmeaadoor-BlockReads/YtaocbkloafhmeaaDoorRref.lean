/- Plain facts for the document's own Mix: words gathered byte by byte, the rounds' words in its order of sums, and the blocks of memory it works in. No condition. -/
import Derived.Test.YtaocbkloafhmeaaDoorMixh
import Derived.WalkKit
import Derived.WalkSpells
namespace Go.Proofs.YtaocbkloafhmeaaDoor
open Go Go.RowKit

def accB (s : List UInt8) (j : Nat) : Nat → BitVec 32
  | 0 => 0
  | r + 1 => accB s j r * 256#32 + byteB s (4 * j + r)
theorem byteB_lt (s : List UInt8) (i : Nat) : (byteB s i).toNat < 256 := by
  unfold byteB
  have := (s.getD i 0).toNat_lt
  rw [BitVec.toNat_ofNat]
  omega
theorem or_join (x y : BitVec 32) (k : Nat) (hx : x.toNat % 2 ^ k = 0) (hy : y.toNat < 2 ^ k) : x ||| y = x + y := by
  apply BitVec.eq_of_toNat_eq
  have h := nat_join k x.toNat y.toNat hx hy
  have hl : (x ||| y).toNat < 2 ^ 32 := (x ||| y).isLt
  rw [BitVec.toNat_or] at hl
  rw [BitVec.toNat_or, BitVec.toNat_add, h, Nat.mod_eq_of_lt (by omega)]
theorem accB_4 (s : List UInt8) (j : Nat) : accB s j 4 = wordB s j := by
  have h0 := byteB_lt s (4 * j)
  have h1 := byteB_lt s (4 * j + 1)
  have h2 := byteB_lt s (4 * j + 2)
  have h3 := byteB_lt s (4 * j + 3)
  simp only [accB, wordB]
  generalize byteB s (4 * j) = a at *
  generalize byteB s (4 * j + 1) = b at *
  generalize byteB s (4 * j + 2) = c at *
  generalize byteB s (4 * j + 3) = d at *
  have e24 : (a <<< 24).toNat = a.toNat * 16777216 := by rw [BitVec.toNat_shiftLeft, Nat.shiftLeft_eq]; omega
  have e16 : (b <<< 16).toNat = b.toNat * 65536 := by rw [BitVec.toNat_shiftLeft, Nat.shiftLeft_eq]; omega
  have e8 : (c <<< 8).toNat = c.toNat * 256 := by rw [BitVec.toNat_shiftLeft, Nat.shiftLeft_eq]; omega
  rw [or_join (a <<< 24) (b <<< 16) 24 (by rw [e24]; omega) (by rw [e16]; omega)]
  have e1 : (a <<< 24 + b <<< 16).toNat = a.toNat * 16777216 + b.toNat * 65536 := by rw [BitVec.toNat_add, e24, e16]; omega
  rw [or_join (a <<< 24 + b <<< 16) (c <<< 8) 16 (by rw [e1]; omega) (by rw [e8]; omega)]
  have e2 : (a <<< 24 + b <<< 16 + c <<< 8).toNat = a.toNat * 16777216 + b.toNat * 65536 + c.toNat * 256 := by rw [BitVec.toNat_add, e1, e8]; omega
  rw [or_join (a <<< 24 + b <<< 16 + c <<< 8) d 8 (by rw [e2]; omega) (by omega)]
  apply BitVec.eq_of_toNat_eq
  have e3 : (a <<< 24 + b <<< 16 + c <<< 8 + d).toNat = a.toNat * 16777216 + b.toNat * 65536 + c.toNat * 256 + d.toNat := by rw [BitVec.toNat_add, e2]; omega
  rw [e3]
  have z : (0 * 256#32 + a) = a := by simp
  rw [z]
  simp only [BitVec.toNat_add, BitVec.toNat_mul, BitVec.toNat_ofNat]
  omega
theorem pad64_zero (l : List (BitVec 32)) (h : l.length < 64) : pad64 (l ++ [0]) = pad64 l := by
  unfold pad64
  obtain ⟨m, hm⟩ : ∃ m, 64 - l.length = m + 1 := ⟨63 - l.length, by omega⟩
  have hm' : 64 - (l ++ [0#32]).length = m := by simp; omega
  rw [hm, List.replicate_succ]
  have : 64 - (l ++ [(0 : BitVec 32)]).length = m := hm'
  rw [this]
  simp
def gath (s : List UInt8) (i : Nat) : List (BitVec 32) := wordsB s (i / 4) ++ [accB s (i / 4) (i % 4)]
theorem gath_len (s : List UInt8) (i : Nat) : (gath s i).length = i / 4 + 1 := by simp [gath, wordsB_len]
theorem gath_0 (s : List UInt8) : rowA (gath s 0) = rowA [] := by
  unfold rowA
  have : gath s 0 = [] ++ [0] := rfl
  rw [this, pad64_zero [] (by simp)]
theorem gath_64 (s : List UInt8) : rowA (gath s 64) = rowA (wordsB s 16) := by
  unfold rowA
  have : gath s 64 = wordsB s 16 ++ [0] := rfl
  rw [this, pad64_zero _ (by rw [wordsB_len]; omega)]
theorem gath_get (s : List UInt8) (i : Nat) : (gath s i).getD (i / 4) 0 = accB s (i / 4) (i % 4) := by
  unfold gath
  have := wordsB_len s (i / 4)
  simp [List.getD_eq_getElem?_getD, this]
theorem rowA_set_last (l : List (BitVec 32)) (a x : BitVec 32) (n : Nat) (hn : n = l.length) (_h : l.length < 64) : (rowA (l ++ [a])).setIfInBounds n (.int .u32 (n32 x)) = rowA (l ++ [x]) := by
  subst hn
  unfold rowA
  have e : (pad64 (l ++ [a])).set l.length x = pad64 (l ++ [x]) := by
    unfold pad64
    simp [List.set_append_right]
  rw [← e, List.map_set, List.setIfInBounds_toArray]
  rfl
theorem gath_step (s : List UInt8) (i : Nat) (hi : i < 64) : (rowA (gath s i)).setIfInBounds (i / 4) (.int .u32 (n32 (accB s (i / 4) (i % 4) * 256#32 + byteB s i))) = rowA (gath s (i + 1)) := by
  unfold gath
  rw [rowA_set_last _ _ _ _ (wordsB_len s (i / 4)).symm (by rw [wordsB_len]; omega)]
  have e0 : accB s (i / 4) (i % 4) * 256#32 + byteB s i = accB s (i / 4) (i % 4 + 1) := by
    simp only [accB]
    have : 4 * (i / 4) + i % 4 = i := by omega
    rw [this]
  rw [e0]
  by_cases h : i % 4 = 3
  · have e1 : (i + 1) / 4 = i / 4 + 1 := by omega
    have e2 : (i + 1) % 4 = 0 := by omega
    rw [e1, e2, h]
    have e3 : accB s (i / 4) (3 + 1) = wordB s (i / 4) := accB_4 s _
    rw [e3]
    simp only [wordsB]
    unfold rowA
    have e4 : accB s (i / 4 + 1) 0 = 0 := rfl
    rw [e4, pad64_zero _ (by simp [wordsB_len]; omega)]
  · have e1 : (i + 1) / 4 = i / 4 := by omega
    have e2 : (i + 1) % 4 = i % 4 + 1 := by omega
    rw [e1, e2]
theorem n32_mul_add (a b : BitVec 32) : (n32 a * 256 % 4294967296 + n32 b) % 4294967296 = n32 (a * 256#32 + b) := by
  unfold n32
  simp only [BitVec.toNat_add, BitVec.toNat_mul, BitVec.toNat_ofNat]
  omega
theorem byte_mul_add (a : BitVec 32) (s : ByteArray) (i : Nat) (h : i < s.size) : (n32 a * 256 + ((s[i]).toNat : Int)) % 4294967296 = n32 (a * 256#32 + byteB s.data.toList i) := by
  rw [← n32_mul_add, ← byte_n32 s i h]
  omega
theorem sum_order (a b c d : BitVec 32) : a + b + c + d = a + c + b + d := by
  rw [BitVec.add_assoc a b c, BitVec.add_comm b c, ← BitVec.add_assoc]

theorem ext_step {i : Nat} {L0 l : List (BitVec 32)} {x16 x15 x7 x2 : BitVec 32} (h0 : L0.length = 16) (h16 : 16 ≤ i) (hi : i < 64) (HE : extW L0 (i - 16) = l)
    (E16 : l.getD ((i : Int) - 16).toNat 0 = x16) (E15 : l.getD ((i : Int) - 15).toNat 0 = x15) (E7 : l.getD ((i : Int) - 7).toNat 0 = x7) (E2 : l.getD ((i : Int) - 2).toNat 0 = x2) :
    (rowA l).setIfInBounds i (.int .u32 (n32 (x16 + x7 + shiB x15 7 18 3 + shiB x2 17 19 10))) = rowA (extW L0 (i + 1 - 16)) := by
  have hlen := extW_len L0 (i - 16)
  rw [HE, h0] at hlen
  have hl : l.length = i := by omega
  have e : i + 1 - 16 = (i - 16) + 1 := by omega
  rw [e, extW, HE]
  have en : nextW l = x16 + x7 + shiB x15 7 18 3 + shiB x2 17 19 10 := by
    unfold nextW
    rw [hl]
    rw [show ((i : Int) - 16).toNat = i - 16 by omega] at E16
    rw [show ((i : Int) - 15).toNat = i - 15 by omega] at E15
    rw [show ((i : Int) - 7).toNat = i - 7 by omega] at E7
    rw [show ((i : Int) - 2).toNat = i - 2 by omega] at E2
    rw [E16, E15, E7, E2, sum_order]
  rw [en]
  exact rowA_set l _ i hl.symm (by omega)
structure RInv (w w2 : World) (h : St) (l : List (BitVec 32)) (g : Nat) : Prop where
  hh : w2.heap[w.heap.size]? = some (.cells (stA h) 101 (0, 0))
  hr : w2.heap[w.heap.size + 1]? = some (.cells z8 101 (0, 0))
  hl : w2.heap[g]? = some (.cells (rowA l) 126 (0, 0))
  hk : w2.heap[g + 1]? = some (.cells (rowA saltsB) 126 (0, 0))
  hb : Below w.heap.size w w2
  lt : w.heap.size + 1 < g
theorem RInv.drewN {w w2 : World} {h : St} {l : List (BitVec 32)} {g : Nat} (H : RInv w w2 h l g) (n : Nat) : RInv w (w2.drewN n) h l g :=
  ⟨H.hh, H.hr, H.hl, H.hk, below_drewN H.hb n, H.lt⟩
theorem RInv.put {w w2 : World} {h : St} {l l' : List (BitVec 32)} {g : Nat} (H : RInv w w2 h l g) (i : Nat) (v : Value) (hv : (rowA l).setIfInBounds i v = rowA l') : RInv w (w2.setCell ⟨g, i, none⟩ v) h l' g := by
  have := H.lt
  refine ⟨?_, ?_, ?_, ?_, H.hb.setCell (by simp; omega) _, H.lt⟩
  · rw [heap_setCell_other _ _ _ _ (by simp; omega)]; exact H.hh
  · rw [heap_setCell_other _ _ _ _ (by simp; omega)]; exact H.hr
  · rw [heap_setCell_same _ g i _ 126 v H.hl, hv]
  · rw [heap_setCell_other _ _ _ _ (by simp)]; exact H.hk
theorem rinv_start {w w1 : World} {h : St} (hb1 : Below ((w.alloc (.cells (stA h) 101)).alloc (.cells z8 101)).heap.size ((w.alloc (.cells (stA h) 101)).alloc (.cells z8 101)) w1) :
    RInv w (World.setCells (World.setCells ((w1.alloc (.cells (rowA []) 126)).alloc (.cells (rowA []) 126)) w1.heap.size 0 (rowA []).toList) (w1.heap.size + 1) 0 (rowA saltsB).toList) h [] w1.heap.size := by
  have hsz := hb1.size
  simp at hsz
  have b0 : Below w.heap.size w ((w.alloc (.cells (stA h) 101)).alloc (.cells z8 101)) := ((Below.refl _ _).alloc (Nat.le_refl _) _).alloc (by simp) _
  have b1 : Below w.heap.size w w1 := b0.trans (hb1.mono (by simp; omega))
  have b2 : Below w.heap.size w ((w1.alloc (.cells (rowA []) 126)).alloc (.cells (rowA []) 126)) := (b1.alloc (by omega) _).alloc (by simp; omega) _
  have b3 := below_setCells' (g := w1.heap.size) (by omega) (rowA []).toList 0 _ b2
  have b4 := below_setCells' (g := w1.heap.size + 1) (by omega) (rowA saltsB).toList 0 _ b3
  refine ⟨?_, ?_, ?_, ?_, b4, by omega⟩
  · rw [heap_setCells_else _ _ (by omega), heap_setCells_else _ _ (by omega), heap_alloc_old _ _ (by simp; omega), heap_alloc_old _ _ (by omega), below_heap hb1 _ (by simp; omega)]
    exact heap_alloc2_old _ _ _
  · rw [heap_setCells_else _ _ (by omega), heap_setCells_else _ _ (by omega), heap_alloc_old _ _ (by simp; omega), heap_alloc_old _ _ (by omega), below_heap hb1 _ (by simp)]
    exact heap_alloc2_new _ _ _
  · rw [heap_setCells_else _ _ (by omega)]
    exact setCells_row (heap_alloc2_old _ _ _) rfl
  · refine setCells_row (cs := rowA []) ?_ (by rw [rowA_size saltsB (by decide), rowA_size [] (by simp)])
    rw [heap_setCells_else _ _ (by omega)]
    exact heap_alloc2_new _ _ _
end Go.Proofs.YtaocbkloafhmeaaDoor
