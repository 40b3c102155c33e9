/- Plain facts about bytes: a block of memory that holds bytes, the digest's 32 bytes, the blocks behind the whole ones, and SHA-256 over lists of bytes. No condition. -/
import Derived.Test.YtjamahpccblkiabDoorRow
import Derived.WalkKit
import Derived.WalkSpells
import Derived.Lib.Strings
import Derived.Lib.BufferWrite
namespace Go.Proofs.YtjamahpccblkiabDoor
open Go Go.RowKit

def bcs (l : List UInt8) : Array Value := (Lib.byteCells l).toArray
theorem bcs_size (l : List UInt8) : (bcs l).size = l.length := by simp [bcs, Lib.byteCells]
theorem bcs_get (l : List UInt8) (i : Nat) (hi : i < l.length) : (bcs l)[i]? = some (.int .u8 ((l.getD i 0).toNat : Int)) := by
  simp [bcs, Lib.byteCells, List.getD_eq_getElem?_getD, hi]
theorem bcs_set (l : List UInt8) (n : Nat) (b : UInt8) : (bcs l).setIfInBounds n (.int .u8 (b.toNat : Int)) = bcs (l.set n b) := by
  unfold bcs Lib.byteCells
  rw [List.map_set, List.setIfInBounds_toArray]
theorem brow_cell {W : World} {g : Nat} {l : List UInt8} {t : TypeId} {fr : Nat × Nat} (h : W.heap[g]? = some (.cells (bcs l) t fr)) (i : Nat) (hi : i < l.length) : W.cell? ⟨g, i, none⟩ = some (.int .u8 ((l.getD i 0).toNat : Int)) := by
  rw [cell_of_row W g i _ t fr h, bcs_get l i hi]
theorem brow_set {W : World} {g : Nat} {l : List UInt8} {t : TypeId} (h : W.heap[g]? = some (.cells (bcs l) t (0, 0))) (n : Nat) (b : UInt8) (v : Int) (hv : v = (b.toNat : Int)) :
    (W.setCell ⟨g, n, none⟩ (.int .u8 v)).heap[g]? = some (.cells (bcs (l.set n b)) t (0, 0)) := by
  rw [heap_setCell_same W g n _ t _ h, hv, bcs_set]

def padz (m : Nat) (l : List UInt8) : List UInt8 := l ++ List.replicate (m - l.length) 0
theorem padz_len (m : Nat) (l : List UInt8) (h : l.length ≤ m) : (padz m l).length = m := by simp [padz]; omega
theorem padz_full (m : Nat) (l : List UInt8) (h : l.length = m) : padz m l = l := by simp [padz, h]
theorem padz_set (m : Nat) (l : List UInt8) (x : UInt8) (n : Nat) (hn : n = l.length) (h : l.length < m) : (padz m l).set n x = padz m (l ++ [x]) := by
  subst hn
  unfold padz
  obtain ⟨q, hq⟩ : ∃ q, m - l.length = q + 1 := ⟨m - l.length - 1, by omega⟩
  have hq' : m - (l ++ [x]).length = q := by simp; omega
  rw [hq, hq', List.set_append_right _ _ (Nat.le_refl _), Nat.sub_self, List.replicate_succ, List.set_cons_zero]
  simp

def St.get (h : St) (i : Nat) : BitVec 32 := [h.a, h.b, h.c, h.d, h.e, h.f, h.g, h.k].getD i 0
def wbyte (w : BitVec 32) (k : Nat) : UInt8 := UInt8.ofNat (w.toNat / 2 ^ (24 - 8 * k) % 256)
def wbytes (w : BitVec 32) : List UInt8 := [wbyte w 0, wbyte w 1, wbyte w 2, wbyte w 3]
def digW (h : St) : Nat → List UInt8
  | 0 => []
  | n + 1 => digW h n ++ wbytes (h.get n)
def digB (h : St) : List UInt8 := digW h 8
theorem digW_len (h : St) (n : Nat) : (digW h n).length = 4 * n := by
  induction n with
  | zero => rfl
  | succ n ih => simp [digW, ih, wbytes]; omega
theorem wbyte_val (w : BitVec 32) (k : Nat) (P : Int) (hP : P = ((2 ^ (24 - 8 * k) : Nat) : Int)) : n32 w / P % 256 = ((wbyte w k).toNat : Int) := by
  subst hP
  unfold wbyte n32
  have h : w.toNat / 2 ^ (24 - 8 * k) % 256 < 256 := Nat.mod_lt _ (by decide)
  have e : (UInt8.ofNat (w.toNat / 2 ^ (24 - 8 * k) % 256)).toNat = w.toNat / 2 ^ (24 - 8 * k) % 256 := by
    simp [UInt8.toNat_ofNat']
  rw [e, Int.natCast_emod, Int.natCast_ediv]
  rfl

def be64 (n : Nat) : List UInt8 := [UInt8.ofNat (n / 2 ^ 56 % 256), UInt8.ofNat (n / 2 ^ 48 % 256), UInt8.ofNat (n / 2 ^ 40 % 256), UInt8.ofNat (n / 2 ^ 32 % 256), UInt8.ofNat (n / 2 ^ 24 % 256), UInt8.ofNat (n / 2 ^ 16 % 256), UInt8.ofNat (n / 2 ^ 8 % 256), UInt8.ofNat (n % 256)]
def endB (left : List UInt8) (many : Nat) : List UInt8 := left ++ 128 :: (List.replicate ((119 - left.length) % 64) 0 ++ be64 (many * 8))
def blocksB (h : St) (l : List UInt8) : Nat → St
  | 0 => h
  | n + 1 => mixB (blocksB h l n) ((l.drop (64 * n)).take 64)
def padB (l : List UInt8) : List UInt8 := l ++ 128 :: (List.replicate ((119 - l.length % 64) % 64) 0 ++ be64 (l.length * 8))
def sumB (l : List UInt8) : List UInt8 := digB (blocksB startB (padB l) ((padB l).length / 64))
theorem endB_len (left : List UInt8) (many : Nat) (h : left.length < 64) : (endB left many).length = if 64 < left.length + 9 then 128 else 64 := by
  simp [endB, be64]
  split <;> omega
theorem padB_split (l : List UInt8) : padB l = l.take (64 * (l.length / 64)) ++ endB (l.drop (64 * (l.length / 64))) l.length := by
  unfold padB endB
  have : (l.drop (64 * (l.length / 64))).length = l.length % 64 := by simp; omega
  rw [this, ← List.append_assoc, List.take_append_drop]
theorem blocksB_append_left (h : St) (a b : List UInt8) (n : Nat) (hn : 64 * n ≤ a.length) : blocksB h (a ++ b) n = blocksB h a n := by
  induction n with
  | zero => rfl
  | succ n ih =>
    simp only [blocksB]
    rw [ih (by omega)]
    congr 1
    rw [List.drop_append_of_le_length (by omega), List.take_append_of_le_length (by simp; omega)]
theorem blocksB_take (h : St) (l : List UInt8) (m n : Nat) (hn : 64 * n ≤ m) : blocksB h (l.take m) n = blocksB h l n := by
  by_cases hm : m ≤ l.length
  · conv => rhs; rw [← List.take_append_drop m l]
    rw [blocksB_append_left h _ _ n (by simp; omega)]
  · rw [List.take_of_length_le (by omega)]
theorem blocksB_append (h : St) (a b : List UInt8) (m n : Nat) (ha : a.length = 64 * m) : blocksB h (a ++ b) (m + n) = blocksB (blocksB h a m) b n := by
  induction n with
  | zero => rw [Nat.add_zero, blocksB_append_left h a b m (by omega)]; rfl
  | succ n ih =>
    rw [← Nat.add_assoc]
    simp only [blocksB]
    rw [ih]
    congr 2
    rw [List.drop_append, List.drop_of_length_le (by omega)]
    simp
    congr 1
    omega
theorem sumB_split (l : List UInt8) : sumB l = digB (blocksB (blocksB startB l (l.length / 64)) (endB (l.drop (64 * (l.length / 64))) l.length) ((endB (l.drop (64 * (l.length / 64))) l.length).length / 64)) := by
  unfold sumB
  rw [padB_split]
  have ht : (l.take (64 * (l.length / 64))).length = 64 * (l.length / 64) := by simp; omega
  have e : (l.take (64 * (l.length / 64)) ++ endB (l.drop (64 * (l.length / 64))) l.length).length / 64 = l.length / 64 + (endB (l.drop (64 * (l.length / 64))) l.length).length / 64 := by
    rw [List.length_append, ht]; omega
  rw [e, blocksB_append _ _ _ _ _ ht, blocksB_take _ _ _ _ (Nat.le_refl _)]
theorem abc : sumB [97, 98, 99] = [0xba, 0x78, 0x16, 0xbf, 0x8f, 0x01, 0xcf, 0xea, 0x41, 0x41, 0x40, 0xde, 0x5d, 0xae, 0x22, 0x23, 0xb0, 0x03, 0x61, 0xa3, 0x96, 0x17, 0x7a, 0x9c, 0xb4, 0x10, 0xff, 0x61, 0xf2, 0x00, 0x15, 0xad] := by
  decide +kernel
end Go.Proofs.YtjamahpccblkiabDoor
