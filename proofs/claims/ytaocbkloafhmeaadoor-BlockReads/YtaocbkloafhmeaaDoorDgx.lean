/- Plain facts about bytes: a block of memory that holds bytes, the digest's 32 bytes, the blocks behind the whole ones, and SHA-256 over lists of bytes. No condition. The digest of eight words (digest): of any words the call returns their 32 bytes, the highest of each first, and nothing that was there has changed. The blocks behind the whole ones (ending): of fewer than 64 bytes that are left over and a length up to 72057594037927936 the call returns those bytes, 80 (base 16), noughts and the count of bits; nothing that was there has changed. The law HashStarts as a walk: of any string that fits, with the round numbers laid as the text lays them, the call returns true and nothing that was there has changed. The digest (Sum): of any string of at most 72057594037927936 bytes the call returns SHA-256 of it as the plain facts have it, and nothing that was there has changed. -/
import Derived.Test.YtaocbkloafhmeaaDoorRow
import Derived.WalkKit
import Derived.WalkSpells
import Derived.Lib.Strings
import Derived.Lib.BufferWrite
import Derived.Test.YtaocbkloafhmeaaDoorMixh
import Derived.WalkLawsBesides
import Derived.Deep.QuietTactic
import Derived.BigQuiet
import Derived.Deep.RegionWith
import Derived.Deep.RegionHeld3
import Derived.Deep.WholeRow
import Derived.Deep.DrawnRows
namespace Go.Proofs.YtaocbkloafhmeaaDoor
open Go Go.RowKit

def bcs (l : List UInt8) : Array Value := (Lib.byteCells l).toArray
theorem bcs_size (l : List UInt8) : (bcs l).size = l.length := by simp [bcs, Lib.byteCells]
theorem bcs_get (l : List UInt8) (i : Nat) (hi : i < l.length) : (bcs l)[i]? = some (.int .u8 ((l.getD i 0).toNat : Int)) := by
  simp [bcs, Lib.byteCells, List.getD_eq_getElem?_getD, hi]
theorem bcs_set (l : List UInt8) (n : Nat) (b : UInt8) : (bcs l).setIfInBounds n (.int .u8 (b.toNat : Int)) = bcs (l.set n b) := by
  unfold bcs Lib.byteCells
  rw [List.map_set, List.setIfInBounds_toArray]
theorem brow_cell {W : World} {g : Nat} {l : List UInt8} {t : TypeId} {fr : Nat × Nat} (h : W.heap[g]? = some (.cells (bcs l) t fr)) (i : Nat) (hi : i < l.length) : W.cell? ⟨g, i, none⟩ = some (.int .u8 ((l.getD i 0).toNat : Int)) := by
  rw [cell_of_row W g i _ t fr h, bcs_get l i hi]
theorem brow_set {W : World} {g : Nat} {l : List UInt8} {t : TypeId} (h : W.heap[g]? = some (.cells (bcs l) t (0, 0))) (n : Nat) (b : UInt8) (v : Int) (hv : v = (b.toNat : Int)) :
    (W.setCell ⟨g, n, none⟩ (.int .u8 v)).heap[g]? = some (.cells (bcs (l.set n b)) t (0, 0)) := by
  rw [heap_setCell_same W g n _ t _ h, hv, bcs_set]

def padz (m : Nat) (l : List UInt8) : List UInt8 := l ++ List.replicate (m - l.length) 0
theorem padz_len (m : Nat) (l : List UInt8) (h : l.length ≤ m) : (padz m l).length = m := by simp [padz]; omega
theorem padz_full (m : Nat) (l : List UInt8) (h : l.length = m) : padz m l = l := by simp [padz, h]
theorem padz_set (m : Nat) (l : List UInt8) (x : UInt8) (n : Nat) (hn : n = l.length) (h : l.length < m) : (padz m l).set n x = padz m (l ++ [x]) := by
  subst hn
  unfold padz
  obtain ⟨q, hq⟩ : ∃ q, m - l.length = q + 1 := ⟨m - l.length - 1, by omega⟩
  have hq' : m - (l ++ [x]).length = q := by simp; omega
  rw [hq, hq', List.set_append_right _ _ (Nat.le_refl _), Nat.sub_self, List.replicate_succ, List.set_cons_zero]
  simp

def St.get (h : St) (i : Nat) : BitVec 32 := [h.a, h.b, h.c, h.d, h.e, h.f, h.g, h.k].getD i 0
def wbyte (w : BitVec 32) (k : Nat) : UInt8 := UInt8.ofNat (w.toNat / 2 ^ (24 - 8 * k) % 256)
def wbytes (w : BitVec 32) : List UInt8 := [wbyte w 0, wbyte w 1, wbyte w 2, wbyte w 3]
def digW (h : St) : Nat → List UInt8
  | 0 => []
  | n + 1 => digW h n ++ wbytes (h.get n)
def digB (h : St) : List UInt8 := digW h 8
theorem digW_len (h : St) (n : Nat) : (digW h n).length = 4 * n := by
  induction n with
  | zero => rfl
  | succ n ih => simp [digW, ih, wbytes]; omega
theorem wbyte_val (w : BitVec 32) (k : Nat) (P : Int) (hP : P = ((2 ^ (24 - 8 * k) : Nat) : Int)) : n32 w / P % 256 = ((wbyte w k).toNat : Int) := by
  subst hP
  unfold wbyte n32
  have h : w.toNat / 2 ^ (24 - 8 * k) % 256 < 256 := Nat.mod_lt _ (by decide)
  have e : (UInt8.ofNat (w.toNat / 2 ^ (24 - 8 * k) % 256)).toNat = w.toNat / 2 ^ (24 - 8 * k) % 256 := by
    simp [UInt8.toNat_ofNat']
  rw [e, Int.natCast_emod, Int.natCast_ediv]
  rfl

def be64 (n : Nat) : List UInt8 := [UInt8.ofNat (n / 2 ^ 56 % 256), UInt8.ofNat (n / 2 ^ 48 % 256), UInt8.ofNat (n / 2 ^ 40 % 256), UInt8.ofNat (n / 2 ^ 32 % 256), UInt8.ofNat (n / 2 ^ 24 % 256), UInt8.ofNat (n / 2 ^ 16 % 256), UInt8.ofNat (n / 2 ^ 8 % 256), UInt8.ofNat (n % 256)]
def endB (left : List UInt8) (many : Nat) : List UInt8 := left ++ 128 :: (List.replicate ((119 - left.length) % 64) 0 ++ be64 (many * 8))
def blocksB (h : St) (l : List UInt8) : Nat → St
  | 0 => h
  | n + 1 => mixB (blocksB h l n) ((l.drop (64 * n)).take 64)
def padB (l : List UInt8) : List UInt8 := l ++ 128 :: (List.replicate ((119 - l.length % 64) % 64) 0 ++ be64 (l.length * 8))
def sumB (l : List UInt8) : List UInt8 := digB (blocksB startB (padB l) ((padB l).length / 64))
theorem endB_len (left : List UInt8) (many : Nat) (h : left.length < 64) : (endB left many).length = if 64 < left.length + 9 then 128 else 64 := by
  simp [endB, be64]
  split <;> omega
theorem padB_split (l : List UInt8) : padB l = l.take (64 * (l.length / 64)) ++ endB (l.drop (64 * (l.length / 64))) l.length := by
  unfold padB endB
  have : (l.drop (64 * (l.length / 64))).length = l.length % 64 := by simp; omega
  rw [this, ← List.append_assoc, List.take_append_drop]
theorem blocksB_append_left (h : St) (a b : List UInt8) (n : Nat) (hn : 64 * n ≤ a.length) : blocksB h (a ++ b) n = blocksB h a n := by
  induction n with
  | zero => rfl
  | succ n ih =>
    simp only [blocksB]
    rw [ih (by omega)]
    congr 1
    rw [List.drop_append_of_le_length (by omega), List.take_append_of_le_length (by simp; omega)]
theorem blocksB_take (h : St) (l : List UInt8) (m n : Nat) (hn : 64 * n ≤ m) : blocksB h (l.take m) n = blocksB h l n := by
  by_cases hm : m ≤ l.length
  · conv => rhs; rw [← List.take_append_drop m l]
    rw [blocksB_append_left h _ _ n (by simp; omega)]
  · rw [List.take_of_length_le (by omega)]
theorem blocksB_append (h : St) (a b : List UInt8) (m n : Nat) (ha : a.length = 64 * m) : blocksB h (a ++ b) (m + n) = blocksB (blocksB h a m) b n := by
  induction n with
  | zero => rw [Nat.add_zero, blocksB_append_left h a b m (by omega)]; rfl
  | succ n ih =>
    rw [← Nat.add_assoc]
    simp only [blocksB]
    rw [ih]
    congr 2
    rw [List.drop_append, List.drop_of_length_le (by omega)]
    simp
    congr 1
    omega
theorem sumB_split (l : List UInt8) : sumB l = digB (blocksB (blocksB startB l (l.length / 64)) (endB (l.drop (64 * (l.length / 64))) l.length) ((endB (l.drop (64 * (l.length / 64))) l.length).length / 64)) := by
  unfold sumB
  rw [padB_split]
  have ht : (l.take (64 * (l.length / 64))).length = 64 * (l.length / 64) := by simp; omega
  have e : (l.take (64 * (l.length / 64)) ++ endB (l.drop (64 * (l.length / 64))) l.length).length / 64 = l.length / 64 + (endB (l.drop (64 * (l.length / 64))) l.length).length / 64 := by
    rw [List.length_append, ht]; omega
  rw [e, blocksB_append _ _ _ _ _ ht, blocksB_take _ _ _ _ (Nat.le_refl _)]
theorem abc : sumB [97, 98, 99] = [0xba, 0x78, 0x16, 0xbf, 0x8f, 0x01, 0xcf, 0xea, 0x41, 0x41, 0x40, 0xde, 0x5d, 0xae, 0x22, 0x23, 0xb0, 0x03, 0x61, 0xa3, 0x96, 0x17, 0x7a, 0x9c, 0xb4, 0x10, 0xff, 0x61, 0xf2, 0x00, 0x15, 0xad] := by
  decide +kernel
end Go.Proofs.YtaocbkloafhmeaaDoor
namespace Go.Proofs.YtaocbkloafhmeaaDoor
open Go.RowKit
theorem zero32 : (#[Value.int IntKind.u8 0, Value.int IntKind.u8 0, Value.int IntKind.u8 0, Value.int IntKind.u8 0, Value.int IntKind.u8 0, Value.int IntKind.u8 0, Value.int IntKind.u8 0, Value.int IntKind.u8 0, Value.int IntKind.u8 0, Value.int IntKind.u8 0, Value.int IntKind.u8 0, Value.int IntKind.u8 0, Value.int IntKind.u8 0, Value.int IntKind.u8 0, Value.int IntKind.u8 0, Value.int IntKind.u8 0, Value.int IntKind.u8 0, Value.int IntKind.u8 0, Value.int IntKind.u8 0, Value.int IntKind.u8 0, Value.int IntKind.u8 0, Value.int IntKind.u8 0, Value.int IntKind.u8 0, Value.int IntKind.u8 0, Value.int IntKind.u8 0, Value.int IntKind.u8 0, Value.int IntKind.u8 0, Value.int IntKind.u8 0, Value.int IntKind.u8 0, Value.int IntKind.u8 0, Value.int IntKind.u8 0, Value.int IntKind.u8 0] : Array Value) = bcs (padz 32 []) := rfl
theorem idx24 (h : St) (i : Nat) (hi : i < 8) (w : World) : (Instr.index 102 (.agg (stA h)) (.int .i64 (i : Int))).run Tryd.prog w = .ok (.int .u32 (n32 (h.get i))) w := by
  have h0 : (Instr.index 102 (.agg (stA h)) (.int .i64 ((0 : Nat) : Int))).run Tryd.prog w = .ok (.int .u32 (n32 (h.get 0))) w := by kernel_rfl
  have h1 : (Instr.index 102 (.agg (stA h)) (.int .i64 ((1 : Nat) : Int))).run Tryd.prog w = .ok (.int .u32 (n32 (h.get 1))) w := by kernel_rfl
  have h2 : (Instr.index 102 (.agg (stA h)) (.int .i64 ((2 : Nat) : Int))).run Tryd.prog w = .ok (.int .u32 (n32 (h.get 2))) w := by kernel_rfl
  have h3 : (Instr.index 102 (.agg (stA h)) (.int .i64 ((3 : Nat) : Int))).run Tryd.prog w = .ok (.int .u32 (n32 (h.get 3))) w := by kernel_rfl
  have h4 : (Instr.index 102 (.agg (stA h)) (.int .i64 ((4 : Nat) : Int))).run Tryd.prog w = .ok (.int .u32 (n32 (h.get 4))) w := by kernel_rfl
  have h5 : (Instr.index 102 (.agg (stA h)) (.int .i64 ((5 : Nat) : Int))).run Tryd.prog w = .ok (.int .u32 (n32 (h.get 5))) w := by kernel_rfl
  have h6 : (Instr.index 102 (.agg (stA h)) (.int .i64 ((6 : Nat) : Int))).run Tryd.prog w = .ok (.int .u32 (n32 (h.get 6))) w := by kernel_rfl
  have h7 : (Instr.index 102 (.agg (stA h)) (.int .i64 ((7 : Nat) : Int))).run Tryd.prog w = .ok (.int .u32 (n32 (h.get 7))) w := by kernel_rfl
  rcases (show i = 0 ∨ i = 1 ∨ i = 2 ∨ i = 3 ∨ i = 4 ∨ i = 5 ∨ i = 6 ∨ i = 7 by omega) with rfl | rfl | rfl | rfl | rfl | rfl | rfl | rfl
  · exact h0
  · exact h1
  · exact h2
  · exact h3
  · exact h4
  · exact h5
  · exact h6
  · exact h7
theorem dig_step {W : World} {g i k : Nat} {h : St} (H : W.heap[g]? = some (.cells (bcs (padz 32 (digW h i ++ (wbytes (h.get i)).take k))) 131 (0, 0))) (hi : i < 8) (hk : k < 4) (v : Int) (hv : v = ((wbyte (h.get i) k).toNat : Int)) (n : Nat) (hn : n = i * 4 + k) :
    (W.setCell ⟨g, n, none⟩ (.int .u8 v)).heap[g]? = some (.cells (bcs (padz 32 (digW h i ++ (wbytes (h.get i)).take (k + 1)))) 131 (0, 0)) := by
  rw [brow_set H n (wbyte (h.get i) k) v hv]
  congr 3
  have hl := digW_len h i
  have hw : ((wbytes (h.get i)).take k).length = k := by simp [wbytes]; omega
  rw [padz_set 32 _ _ n (by simp [hl, hw, hn]; omega) (by simp [hl, hw]; omega), List.append_assoc]
  congr 2
  rcases (show k = 0 ∨ k = 1 ∨ k = 2 ∨ k = 3 by omega) with rfl | rfl | rfl | rfl <;> rfl
theorem conv_dig {W : World} {g : Nat} {h : St} (H : W.heap[g]? = some (.cells (bcs (padz 32 (digW h 8))) 131 (0, 0))) : (convert 66 9 (.slice (some ⟨g, 0, none⟩) 32 32)).run Tryd.prog W = .ok (.string ⟨(digB h).toArray⟩) W := by
  have hl : (digB h).length = 32 := digW_len h 8
  rw [padz_full 32 (digW h 8) hl] at H
  have := run_convert_bytes_back (P := Tryd.prog) W 66 9 5 ⟨g, 0, none⟩ 32 (digB h) Tryd.underlying66 Tryd.underlying5 Tryd.underlying9 (fun j hj => by
    have e : (⟨g, 0, none⟩ : Addr).add j = ⟨g, j, none⟩ := by unfold Addr.add; split <;> simp_all
    rw [e, brow_cell H j hj]
    have e2 : (digW h 8).getD j 0 = (digB h)[j] := by
      show (digB h).getD j 0 = _
      rw [List.getD_eq_getElem?_getD, List.getElem?_eq_getElem hj]; rfl
    rw [e2])
  rw [hl] at this
  exact this
set_option maxHeartbeats 1000000 in
theorem digest_any (h : St) (w : World) :
    Calls Tryd.prog 74 #[.agg (stA h)] w fun e w' => e = .returned (.string ⟨(digB h).toArray⟩) ∧ Below w.heap.size w w' := by
  go_enter Tryd.func74, Tryd.ntmps74
  go_wp2
  rw [zero32]
  go_loopw [8] (fun c wr => ∃ i : Nat, i ≤ 8 ∧ c = .int .i64 i ∧ wr.heap[w.heap.size + 1]? = some (.cells (bcs (padz 32 (digW h i))) 131 (0, 0)) ∧ Below w.heap.size w wr) (fun c _ => 8 - (intOf c).toNat)
  case atStart =>
    exact ⟨0, Nat.zero_le _, rfl, heap_alloc2_new _ _ _, ((Below.refl _ _).alloc (Nat.le_refl _) _).alloc (by simp) _⟩
  case round =>
    obtain ⟨i, hi, rfl, h1, hb⟩ := hrel
    by_cases hlt : i < 8
    · have hx := fun W => idx24 h i hlt W
      have hl := digW_len h i
      go_wp2
      obtain ⟨wo, rfl⟩ : ∃ wo : World, wo = wr := ⟨_, rfl⟩
      go_loopw [12] (fun c wr => ∃ k : Nat, k ≤ 4 ∧ c = .int .i64 k ∧ wr.heap[w.heap.size + 1]? = some (.cells (bcs (padz 32 (digW h i ++ (wbytes (h.get i)).take k))) 131 (0, 0)) ∧ Below w.heap.size w wr) (fun c _ => 4 - (intOf c).toNat)
      case atStart =>
        exact ⟨0, Nat.zero_le _, rfl, by simpa using h1, hb⟩
      case round =>
        clear h1 hb
        obtain ⟨k, hk, rfl, h1, hb⟩ := hrel
        by_cases hk4 : k < 4
        · have hw : ((wbytes (h.get i)).take k).length = k := by simp [wbytes]; omega
          have hp := padz_len 32 (digW h i ++ (wbytes (h.get i)).take k) (by simp [hl, hw]; omega)
          have hc := brow_cell h1 (i * 4 + k) (by omega)
          have hf := frozen_of_row wr _ (i * 4 + k) _ _ h1
          obtain ⟨v, hv⟩ : ∃ v : Int, (((padz 32 (digW h i ++ (wbytes (h.get i)).take k)).getD (i * 4 + k) 0).toNat : Int) = v := ⟨_, rfl⟩
          rw [hv] at hc
          clear hv hp hw
          go_wp2
          go_roundw
          case rel =>
            exact ⟨k + 1, by omega, by go_num, dig_step h1 hlt hk4 _ (wbyte_val _ _ _ (by simp)) _ rfl, hb.setCell (by simp) _⟩
          case measure => simp [intOf]; omega
        · obtain rfl : k = 4 := by omega
          have hk4' : ¬ ((4 : Nat) : Int) < 4 := by omega
          go_wp2
          go_roundw
          case rel => exact ⟨i + 1, by omega, by go_num, h1, hb⟩
          case measure => simp [intOf]; omega
    · obtain rfl : i = 8 := by omega
      have hlt' : ¬ ((8 : Nat) : Int) < 8 := by omega
      have hcv := conv_dig h1
      go_wp2
      go_ret
      exact ⟨rfl, hb⟩
end Go.Proofs.YtaocbkloafhmeaaDoor
namespace Go.Proofs.YtaocbkloafhmeaaDoor
open Go.RowKit
theorem zero51 (w : World) : (zeroValue 130).run Tryd.prog w = .ok (.agg (bcs (padz 128 []))) w := by kernel_rfl
theorem copy_end (left : ByteArray) (hl : left.size < 64) (w : World) : (Builtin.copy_ #[66, 9] 3 #[.slice (some ⟨w.heap.size, 0, none⟩) 128 128, .string left]).run Tryd.prog (w.alloc (.cells (bcs (padz 128 [])) 130)) =
    .ok (.int .i64 (left.size : Int)) (w.alloc (.cells (bcs (padz 128 left.data.toList)) 130)) := by
  have hp := padz_len 128 [] (by simp)
  rw [Lib.run_copy_row_string _ 66 9 3 5 w.heap.size 0 128 128 left _ 130 Tryd.underlying66 (by kernel_rfl) (heap_alloc_new _ _) (by omega) (by rw [bcs_size, hp]; omega), World.setRow_alloc_new]
  have e : (List.take 0 (bcs (padz 128 [])).toList ++ Lib.byteCells left.data.toList ++ List.drop (0 + left.size) (bcs (padz 128 [])).toList).toArray = bcs (padz 128 left.data.toList) := by
    have hs := Lib.size_eq left
    unfold bcs padz Lib.byteCells
    rw [List.take_zero, List.nil_append, List.nil_append, List.map_append, Nat.zero_add, hs]
    congr 2
    rw [← List.map_drop, List.drop_replicate]
    rfl
  rw [e]
  rfl
def zk (N : Nat) : Nat → List UInt8
  | 0 => List.replicate 8 0
  | k + 1 => (zk N k).set (7 - k) (UInt8.ofNat (N / 2 ^ (8 * k) % 256))
theorem zk_len (N k : Nat) : (zk N k).length = 8 := by
  induction k with
  | zero => rfl
  | succ k ih => simp [zk, ih]
theorem zk_8 (N : Nat) : zk N 8 = be64 N := by
  simp [zk, be64, List.replicate_succ]
def endA (left : List UInt8) (e : Nat) : List UInt8 := left ++ 128 :: List.replicate (e - 9 - left.length) 0
theorem endA_len (left : List UInt8) (e : Nat) (h : left.length + 9 ≤ e) : (endA left e).length = e - 8 := by
  simp [endA]; omega
def endRow (left : List UInt8) (e N k : Nat) : List UInt8 := endA left e ++ zk N k ++ List.replicate (128 - e) 0
theorem endRow_len (left : List UInt8) (e N k : Nat) (h : left.length + 9 ≤ e) (he : e ≤ 128) : (endRow left e N k).length = 128 := by
  simp [endRow, endA_len left e h, zk_len]; omega
theorem endRow_0 (left : List UInt8) (e N n : Nat) (hn : n = left.length) (h : left.length + 9 ≤ e) (he : e ≤ 128) : (padz 128 left).set n 128 = endRow left e N 0 := by
  rw [padz_set 128 left 128 n hn (by omega)]
  unfold padz endRow endA zk
  have e1 : 128 - (left ++ [128]).length = (e - 9 - left.length) + (8 + (128 - e)) := by simp; omega
  rw [e1, ← List.replicate_append_replicate, ← List.replicate_append_replicate]
  simp
theorem endRow_set (left : List UInt8) (e N k n : Nat) (hn : n + 1 + k = e) (hk : k < 8) (h : left.length + 9 ≤ e) : (endRow left e N k).set n (UInt8.ofNat (N / 2 ^ (8 * k) % 256)) = endRow left e N (k + 1) := by
  unfold endRow
  have hA := endA_len left e h
  have hz := zk_len N k
  have hn' : n = (endA left e).length + (7 - k) := by omega
  rw [List.append_assoc, List.append_assoc, List.set_append_right _ _ (by omega), List.set_append_left _ _ (by omega)]
  have : n - (endA left e).length = 7 - k := by omega
  rw [this]
  rfl
theorem endRow_8 (left : List UInt8) (e many : Nat) (h : left.length + 9 ≤ e) (hm : (119 - left.length) % 64 = e - 9 - left.length) : (endRow left e (many * 8) 8).take e = endB left many := by
  unfold endRow endB
  have hA := endA_len left e h
  rw [List.take_append_of_le_length (by simp [hA, zk_len]; omega), List.take_of_length_le (by simp [hA, zk_len]; omega), zk_8, hm]
  simp [endA]
theorem conv_end {W : World} {g e : Nat} {l r : List UInt8} (H : W.heap[g]? = some (.cells (bcs l) 130 (0, 0))) (hr : l.take e = r) (he : e ≤ l.length) : (convert 66 9 (.slice (some ⟨g, 0, none⟩) e 128)).run Tryd.prog W = .ok (.string ⟨r.toArray⟩) W := by
  have hl : r.length = e := by rw [← hr]; simp; omega
  have := run_convert_bytes_back (P := Tryd.prog) W 66 9 5 ⟨g, 0, none⟩ 128 r Tryd.underlying66 Tryd.underlying5 Tryd.underlying9 (fun j hj => by
    have e1 : (⟨g, 0, none⟩ : Addr).add j = ⟨g, j, none⟩ := by unfold Addr.add; split <;> simp_all
    rw [e1, brow_cell H j (by omega)]
    have e2 : l.getD j 0 = r[j] := by
      have hj' : j < l.length := by omega
      subst hr
      rw [List.getD_eq_getElem?_getD, List.getElem?_eq_getElem hj']
      simp
    rw [e2])
  rw [hl] at this
  exact this
theorem u8_val (N k : Nat) (P : Int) (hP : P = ((2 ^ (8 * k) : Nat) : Int)) (V : Int) (hV : V = (N : Int)) : V / P % 256 = ((UInt8.ofNat (N / 2 ^ (8 * k) % 256)).toNat : Int) := by
  subst hP hV
  have e : (UInt8.ofNat (N / 2 ^ (8 * k) % 256)).toNat = N / 2 ^ (8 * k) % 256 := by
    simp [UInt8.toNat_ofNat']
  rw [e, Int.natCast_emod, Int.natCast_ediv]
  rfl
set_option maxHeartbeats 1000000 in
theorem ending_64 (left : ByteArray) (many : Nat) (hl : left.size < 64) (h9 : left.size < 56) (hm : many ≤ 72057594037927936) (w : World) :
    Calls Tryd.prog 73 #[.string left, .int .i64 many] w fun e w' => e = .returned (.string ⟨(endB left.data.toList many).toArray⟩) ∧ Below w.heap.size w w' := by
  have hz := zero51
  have hcp := copy_end left hl w
  have hls : left.data.toList.length = left.size := (Lib.size_eq left).symm
  have hp := padz_len 128 left.data.toList (by omega)
  have hc := bcs_get (padz 128 left.data.toList) left.size (by omega)
  have hst : (bcs (padz 128 left.data.toList)).setIfInBounds left.size (.int .u8 128) = bcs (endRow left.data.toList 64 (many * 8) 0) := by
    rw [← endRow_0 left.data.toList 64 (many * 8) left.size hls.symm (by omega) (by omega), ← bcs_set]
    rfl
  have HST : Hid ((bcs (padz 128 left.data.toList)).setIfInBounds left.size (.int .u8 128) = bcs (endRow left.data.toList 64 (many * 8) 0)) := hst
  have HLS : Hid (left.data.toList.length = left.size) := hls
  have h9' : ¬ (64 : Int) < (left.size : Int) + 1 + 8 := by omega
  clear hp hls hst
  go_enter Tryd.func73, Tryd.ntmps73
  go_wp2_with fail
  rw [HST.out]
  go_loopw [22] (fun c wr => ∃ k : Nat, k ≤ 8 ∧ c = .int .i64 k ∧ wr.heap[w.heap.size]? = some (.cells (bcs (endRow left.data.toList 64 (many * 8) k)) 130 (0, 0)) ∧ Below w.heap.size w wr) (fun c _ => 8 - (intOf c).toNat)
  case atStart =>
    exact ⟨0, Nat.zero_le _, rfl, heap_alloc_new _ _, (Below.refl _ _).alloc (Nat.le_refl _) _⟩
  case round =>
    clear hcp hc hz
    obtain ⟨k, hk, rfl, h1, hb⟩ := hrel
    have hlen := endRow_len left.data.toList 64 (many * 8) k (by have := HLS.out; omega) (by omega)
    by_cases hlt : k < 8
    · have hc := brow_cell h1 (63 - k) (by omega)
      have hf := frozen_of_row wr _ (63 - k) _ _ h1
      obtain ⟨v, hv⟩ : ∃ v : Int, (((endRow left.data.toList 64 (many * 8) k).getD (63 - k) 0).toNat : Int) = v := ⟨_, rfl⟩
      rw [hv] at hc
      clear hv hlen
      go_wp2
      go_roundw
      case rel =>
        refine ⟨k + 1, by omega, by go_num, ?_, hb.setCell (Nat.le_refl _) _⟩
        rw [brow_set h1 _ (UInt8.ofNat (many * 8 / 2 ^ (8 * k) % 256)) _ (u8_val (many * 8) k _ (by simp) _ (by simp)), endRow_set left.data.toList 64 (many * 8) k _ (by omega) hlt (by have := HLS.out; omega)]
      case measure => simp [intOf]; omega
    · obtain rfl : k = 8 := by omega
      have hlt' : ¬ ((8 : Nat) : Int) < 8 := by omega
      have hcv := conv_end h1 (endRow_8 left.data.toList 64 many (by have := HLS.out; omega) (by have := HLS.out; omega)) (by omega)
      clear hlen
      go_wp2
      go_ret
      exact ⟨rfl, hb⟩
set_option maxHeartbeats 1000000 in
theorem ending_128 (left : ByteArray) (many : Nat) (hl : left.size < 64) (h9 : ¬ left.size < 56) (hm : many ≤ 72057594037927936) (w : World) :
    Calls Tryd.prog 73 #[.string left, .int .i64 many] w fun e w' => e = .returned (.string ⟨(endB left.data.toList many).toArray⟩) ∧ Below w.heap.size w w' := by
  have hz := zero51
  have hcp := copy_end left hl w
  have hls : left.data.toList.length = left.size := (Lib.size_eq left).symm
  have hp := padz_len 128 left.data.toList (by omega)
  have hc := bcs_get (padz 128 left.data.toList) left.size (by omega)
  have hst : (bcs (padz 128 left.data.toList)).setIfInBounds left.size (.int .u8 128) = bcs (endRow left.data.toList 128 (many * 8) 0) := by
    rw [← endRow_0 left.data.toList 128 (many * 8) left.size hls.symm (by omega) (by omega), ← bcs_set]
    rfl
  have HST : Hid ((bcs (padz 128 left.data.toList)).setIfInBounds left.size (.int .u8 128) = bcs (endRow left.data.toList 128 (many * 8) 0)) := hst
  have HLS : Hid (left.data.toList.length = left.size) := hls
  have h9' : (64 : Int) < (left.size : Int) + 1 + 8 := by omega
  clear hp hls hst
  go_enter Tryd.func73, Tryd.ntmps73
  go_wp2_with fail
  rw [HST.out]
  go_loopw [22] (fun c wr => ∃ k : Nat, k ≤ 8 ∧ c = .int .i64 k ∧ wr.heap[w.heap.size]? = some (.cells (bcs (endRow left.data.toList 128 (many * 8) k)) 130 (0, 0)) ∧ Below w.heap.size w wr) (fun c _ => 8 - (intOf c).toNat)
  case atStart =>
    exact ⟨0, Nat.zero_le _, rfl, heap_alloc_new _ _, (Below.refl _ _).alloc (Nat.le_refl _) _⟩
  case round =>
    clear hcp hc hz
    obtain ⟨k, hk, rfl, h1, hb⟩ := hrel
    have hlen := endRow_len left.data.toList 128 (many * 8) k (by have := HLS.out; omega) (by omega)
    by_cases hlt : k < 8
    · have hc := brow_cell h1 (127 - k) (by omega)
      have hf := frozen_of_row wr _ (127 - k) _ _ h1
      obtain ⟨v, hv⟩ : ∃ v : Int, (((endRow left.data.toList 128 (many * 8) k).getD (127 - k) 0).toNat : Int) = v := ⟨_, rfl⟩
      rw [hv] at hc
      clear hv hlen
      go_wp2
      go_roundw
      case rel =>
        refine ⟨k + 1, by omega, by go_num, ?_, hb.setCell (Nat.le_refl _) _⟩
        rw [brow_set h1 _ (UInt8.ofNat (many * 8 / 2 ^ (8 * k) % 256)) _ (u8_val (many * 8) k _ (by simp) _ (by simp)), endRow_set left.data.toList 128 (many * 8) k _ (by omega) hlt (by have := HLS.out; omega)]
      case measure => simp [intOf]; omega
    · obtain rfl : k = 8 := by omega
      have hlt' : ¬ ((8 : Nat) : Int) < 8 := by omega
      have hcv := conv_end h1 (endRow_8 left.data.toList 128 many (by have := HLS.out; omega) (by have := HLS.out; omega)) (by omega)
      clear hlen
      go_wp2
      go_ret
      exact ⟨rfl, hb⟩
theorem ending_any (left : ByteArray) (many : Nat) (hl : left.size < 64) (hm : many ≤ 72057594037927936) (w : World) :
    Calls Tryd.prog 73 #[.string left, .int .i64 many] w fun e w' => e = .returned (.string ⟨(endB left.data.toList many).toArray⟩) ∧ Below w.heap.size w w' := by
  by_cases h : left.size < 56
  · exact ending_64 left many hl h hm w
  · exact ending_128 left many hl h hm w
end Go.Proofs.YtaocbkloafhmeaaDoor
namespace Go.Proofs.YtaocbkloafhmeaaDoor
open Go.RowKit
def fewS (s : ByteArray) : ByteArray := if 400 < s.size then s.extract 0 400 else s
theorem fewS_size (s : ByteArray) : (fewS s).size ≤ 400 := by
  unfold fewS
  split
  · simp; omega
  · omega
theorem mix_any (h : St) (s : ByteArray) (w : World) (hG : GL w) :
    Calls Tryd.prog 72 #[.agg (stA h), .string s] w fun e w' => e = .returned (.agg (stA (mixB h s.data.toList))) ∧ Below w.heap.size w w' := by
  by_cases hs : s.size = 64
  · exact mix_64 h s hs w hG
  · refine (mix_no h s (by simp; omega) w).mono ?_
    rintro e w' ⟨rfl, hb⟩
    refine ⟨?_, hb⟩
    unfold mixB
    rw [if_neg (by simpa using hs)]
theorem eq24 (a0 a1 a2 a3 a4 a5 a6 a7 : Int) (w : World) : (Op.equalIn 10000 102 (.agg #[.int .u32 a0, .int .u32 a1, .int .u32 a2, .int .u32 a3, .int .u32 a4, .int .u32 a5, .int .u32 a6, .int .u32 a7]) (.agg #[.int .u32 a0, .int .u32 a1, .int .u32 a2, .int .u32 a3, .int .u32 a4, .int .u32 a5, .int .u32 a6, .int .u32 a7])).run Tryd.prog w = .ok true w := by
  have u3 := Tryd.underlying100
  have a3 := Tryd.isAgg100
  have z3 := Tryd.sizeOf100
  rw [show (10000 : Nat) = 9999 + 1 from rfl, Op.equalIn]
  simp only [Sem.run_bind, run_underlying Tryd.underlying102, Result.andThen_ok]
  simp only [Std.Legacy.Range.forIn_eq_forIn_range', Std.Legacy.Range.size, Nat.sub_zero, Nat.add_sub_cancel, Nat.div_one, List.range'_succ, List.range'_zero, List.forIn_cons, List.forIn_nil]
  go_simp
abbrev startV : Value := .agg #[.int .u32 1779033703, .int .u32 3144134277, .int .u32 1013904242, .int .u32 2773480762, .int .u32 1359893119, .int .u32 2600822924, .int .u32 528734635, .int .u32 1541459225]
theorem startV_eq : startV = .agg (stA startB) := rfl
theorem mix_start (s : ByteArray) (w : World) (hG : GL w) :
    Calls Tryd.prog 72 #[startV, .string s] w fun e w' => e = .returned (.agg (stA (mixB startB s.data.toList))) ∧ Below w.heap.size w w' := mix_any startB s w hG
attribute [local go_sem] eq24
end Go.Proofs.YtaocbkloafhmeaaDoor
namespace Go.Proofs.YtaocbkloafhmeaaDoor
open Go.RowKit
attribute [local go_sem ↓] Go.wp_at_zero Go.wp_at_succ
theorem eight {W : World} {g : Nat} {X : St} (h : W.heap[g]? = some (.cells (stA X) 102 (0, 0))) :
    (W.cell? ⟨g, 0, none⟩ = some (.int .u32 (n32 X.a)) ∧ W.cell? ⟨g, 1, none⟩ = some (.int .u32 (n32 X.b)) ∧ W.cell? ⟨g, 2, none⟩ = some (.int .u32 (n32 X.c)) ∧ W.cell? ⟨g, 3, none⟩ = some (.int .u32 (n32 X.d)) ∧ W.cell? ⟨g, 4, none⟩ = some (.int .u32 (n32 X.e)) ∧ W.cell? ⟨g, 5, none⟩ = some (.int .u32 (n32 X.f)) ∧ W.cell? ⟨g, 6, none⟩ = some (.int .u32 (n32 X.g)) ∧ W.cell? ⟨g, 7, none⟩ = some (.int .u32 (n32 X.k))) ∧
    (W.frozen? ⟨g, 0, none⟩ = false ∧ W.frozen? ⟨g, 1, none⟩ = false ∧ W.frozen? ⟨g, 2, none⟩ = false ∧ W.frozen? ⟨g, 3, none⟩ = false ∧ W.frozen? ⟨g, 4, none⟩ = false ∧ W.frozen? ⟨g, 5, none⟩ = false ∧ W.frozen? ⟨g, 6, none⟩ = false ∧ W.frozen? ⟨g, 7, none⟩ = false) := by
  refine ⟨⟨cell_of_row W _ 0 _ _ _ h, cell_of_row W _ 1 _ _ _ h, cell_of_row W _ 2 _ _ _ h, cell_of_row W _ 3 _ _ _ h, cell_of_row W _ 4 _ _ _ h, cell_of_row W _ 5 _ _ _ h, cell_of_row W _ 6 _ _ _ h, cell_of_row W _ 7 _ _ _ h⟩, ?_⟩
  refine ⟨?_, ?_, ?_, ?_, ?_, ?_, ?_, ?_⟩ <;> exact frozen_of_row W _ _ _ _ h
theorem rel_mix {w5 : World} {g i : Nat} {B0 H M : St} {s : ByteArray} (hH : blocksB B0 s.data.toList i = H) (h5 : w5.heap[g]? = some (.cells (stA H) 102 (0, 0))) (hM : mixB H (s.extract (i * 64) ((i + 1) * 64)).data.toList = M) :
    (w5.setCells g 0 (stA M).toList).heap[g]? = some (.cells (stA (blocksB B0 s.data.toList (i + 1))) 102 (0, 0)) := by
  rw [setCells_row (vs := stA M) h5 rfl]
  have e1 : (i + 1) * 64 - i * 64 = 64 := by omega
  have e2 : i * 64 = 64 * i := by omega
  rw [Lib.extract_data, e1, e2] at hM
  simp only [blocksB, hH, hM]
theorem below_drew5 {B : Nat} {w wr w5 : World} (hb : Below B w wr) (h : Below wr.drew.heap.size wr.drew w5) (hB : B ≤ wr.heap.size) : Below B w w5 :=
  (below_drewN hb 1).trans (h.mono hB)
theorem lt_of_row {W : World} {g : Nat} {o : Obj} (h1 : W.heap[g]? = some o) : g < W.heap.size := by
  rcases Nat.lt_or_ge g W.heap.size with h | h
  · exact h
  · rw [Array.getElem?_eq_none h] at h1; cases h1
set_option maxHeartbeats 1000000 in
theorem sum_any (s : ByteArray) (hs : s.size ≤ 72057594037927936) (w : World) (hG : GL w) :
    Calls Tryd.prog 41 #[.string s] w fun e w' => e = .returned (.string ⟨(sumB s.data.toList).toArray⟩) ∧ Below w.heap.size w w' := by
  go_enter Tryd.func41, Tryd.ntmps41
  go_wp2_with fail
  refine (start_any _).mono ?_
  rintro e w1 ⟨rfl, hb1⟩
  go_wp2_with fail
  have hs1 := hb1.size
  obtain ⟨g, hg⟩ : ∃ g, w1.heap.size = g := ⟨_, rfl⟩
  have start1 : (w1.alloc (.cells (stA startB) 102)).heap[g]? = some (.cells (stA startB) 102 (0, 0)) := by rw [← hg]; exact heap_alloc_new _ _
  have start2 : Below w.heap.size w (w1.alloc (.cells (stA startB) 102)) := hb1.alloc (by omega) _
  rw [hg] at hs1 ⊢
  clear hg
  go_loopw [13] (fun c wr => ∃ i : Nat, i ≤ s.size / 64 ∧ c = .int .i64 i ∧ wr.heap[g]? = some (.cells (stA (blocksB startB s.data.toList i)) 102 (0, 0)) ∧ Below w.heap.size w wr) (fun c _ => s.size / 64 - (intOf c).toNat)
  case atStart => exact ⟨0, Nat.zero_le _, rfl, start1, start2⟩
  case round =>
    clear start1 start2 hb1
    obtain ⟨i, hi, rfl, h1, hb⟩ := hrel
    have hGr := hG.later hb
    by_cases hlt : i < s.size / 64
    · obtain ⟨H, hH⟩ : ∃ H, blocksB startB s.data.toList i = H := ⟨_, rfl⟩
      rw [hH] at h1
      have HH : Hid (blocksB startB s.data.toList i = H) := hH
      clear hH
      have hgl : g < wr.heap.size := lt_of_row h1
      obtain ⟨⟨c0, c1, c2, c3, c4, c5, c6, c7⟩, f0, f1, f2, f3, f4, f5, f6, f7⟩ := eight h1
      have hlt' : (i : Int) < (s.size : Int) / 64 := by omega
      have q0 : (0 : Int) ≤ (i : Int) * 64 := by omega
      have q1 : (i : Int) * 64 ≤ ((i : Int) + 1) * 64 := by omega
      have q2 : ((i : Int) + 1) * 64 ≤ (s.size : Int) := by omega
      have q3 : i * 64 ≤ (i + 1) * 64 := by omega
      have q4 : (i + 1) * 64 ≤ s.size := by omega
      have m0 : IntKind.i64.wrap ((i : Int) * 64) = (i : Int) * 64 := by rw [IntKind.wrap_i64]; omega
      have m1 : IntKind.i64.wrap ((i : Int) + 1) = (i : Int) + 1 := by rw [IntKind.wrap_i64]; omega
      have m2 : IntKind.i64.wrap (((i : Int) + 1) * 64) = ((i : Int) + 1) * 64 := by rw [IntKind.wrap_i64]; omega
      go_wp2_with fail
      go_region_with ((go_at_call 72; refine (mix_any H _ _ (by exact hGr)).mono ?_; rintro e w5 ⟨rfl, hb5⟩; obtain ⟨M, hM⟩ : ∃ M, mixB H (s.extract (i * 64) ((i + 1) * 64)).data.toList = M := ⟨_, rfl⟩; rw [hM]; have HM : Hid (mixB H (s.extract (i * 64) ((i + 1) * 64)).data.toList = M) := hM; clear hM; have h5 := (below_heap hb5 g (by exact hgl)).trans h1; obtain ⟨⟨r0, r1, r2, r3, r4, r5, r6, r7⟩, e0, e1, e2, e3, e4, e5, e6, e7⟩ := eight h5))
      all_goals
        go_wp2
        go_roundw
        case rel => exact ⟨i + 1, by omega, by go_num, rel_mix HH.out h5 HM.out, below_setCells' hs1 (stA M).toList 0 w5 (below_drew5 hb hb5 (by omega))⟩
        case measure => simp [intOf]; omega
    · obtain rfl : i = s.size / 64 := by omega
      have hlt' : ¬ ((s.size / 64 : Nat) : Int) < (s.size : Int) / 64 := by omega
      have hgl : g < wr.heap.size := lt_of_row h1
      go_wp2_with fail
      refine (ending_any _ s.size (by simp; omega) hs wr).mono ?_
      rintro e w6 ⟨rfl, hb6⟩
      obtain ⟨B0, hB0⟩ : ∃ B0, blocksB startB s.data.toList (s.size / 64) = B0 := ⟨_, rfl⟩
      rw [hB0] at h1
      have h6 := (below_heap hb6 g hgl).trans h1
      have hb' : Below w.heap.size w w6 := hb.trans (hb6.mono (by omega))
      have ht : (s.extract (s.size / 64 * 64) s.size).data.toList = s.data.toList.drop (64 * (s.data.toList.length / 64)) := by
        rw [Lib.extract_data, ← Lib.size_eq, Nat.mul_comm 64]
        rw [List.take_of_length_le (by rw [List.length_drop, ← Lib.size_eq]; exact Nat.le_refl _)]
      have hfin := sumB_split s.data.toList
      rw [← ht, ← Lib.size_eq, hB0] at hfin
      have hel := endB_len (s.extract (s.size / 64 * 64) s.size).data.toList s.size (by rw [← Lib.size_eq]; simp; omega)
      obtain ⟨E, hE⟩ : ∃ E : ByteArray, (⟨(endB (s.extract (s.size / 64 * 64) s.size).data.toList s.size).toArray⟩ : ByteArray) = E := ⟨_, rfl⟩
      have hEd : E.data.toList = endB (s.extract (s.size / 64 * 64) s.size).data.toList s.size := by rw [← hE]
      have hEs : E.size ≤ 128 := by rw [Lib.size_eq, hEd, hel]; split <;> omega
      have hE64 : 64 * (E.size / 64) = E.size := by rw [Lib.size_eq, hEd, hel]; split <;> omega
      rw [hE]
      rw [← hEd, ← Lib.size_eq] at hfin
      have HF : Hid (sumB s.data.toList = digB (blocksB B0 E.data.toList (E.size / 64))) := hfin
      have HE : Hid (64 * (E.size / 64) = E.size) := hE64
      clear hfin hE64 hE hEd hel ht hB0 h1 hb hb6 hGr
      go_wp2_with fail
      go_loopw [36] (fun c wr => ∃ i : Nat, i ≤ E.size / 64 ∧ c = .int .i64 i ∧ wr.heap[g]? = some (.cells (stA (blocksB B0 E.data.toList i)) 102 (0, 0)) ∧ Below w.heap.size w wr) (fun c _ => E.size / 64 - (intOf c).toNat)
      case atStart => exact ⟨0, Nat.zero_le _, rfl, h6, hb'⟩
      case round =>
        clear h6 hb' hgl
        obtain ⟨i, hi, rfl, h1, hb⟩ := hrel
        have hGr := hG.later hb
        have hgl : g < wr.heap.size := lt_of_row h1
        by_cases hlt : i < E.size / 64
        · obtain ⟨H, hH⟩ : ∃ H, blocksB B0 E.data.toList i = H := ⟨_, rfl⟩
          rw [hH] at h1
          have HH : Hid (blocksB B0 E.data.toList i = H) := hH
          clear hH
          obtain ⟨⟨c0, c1, c2, c3, c4, c5, c6, c7⟩, f0, f1, f2, f3, f4, f5, f6, f7⟩ := eight h1
          have hlt' : (i : Int) < (E.size : Int) / 64 := by omega
          have q0 : (0 : Int) ≤ (i : Int) * 64 := by omega
          have q1 : (i : Int) * 64 ≤ ((i : Int) + 1) * 64 := by omega
          have q2 : ((i : Int) + 1) * 64 ≤ (E.size : Int) := by omega
          have q3 : i * 64 ≤ (i + 1) * 64 := by omega
          have q4 : (i + 1) * 64 ≤ E.size := by omega
          have m0 : IntKind.i64.wrap ((i : Int) * 64) = (i : Int) * 64 := by rw [IntKind.wrap_i64]; omega
          have m1 : IntKind.i64.wrap ((i : Int) + 1) = (i : Int) + 1 := by rw [IntKind.wrap_i64]; omega
          have m2 : IntKind.i64.wrap (((i : Int) + 1) * 64) = ((i : Int) + 1) * 64 := by rw [IntKind.wrap_i64]; omega
          go_wp2_with fail
          go_region_with ((go_at_call 72; refine (mix_any H _ _ (by exact hGr)).mono ?_; rintro e w5 ⟨rfl, hb5⟩; obtain ⟨M, hM⟩ : ∃ M, mixB H (E.extract (i * 64) ((i + 1) * 64)).data.toList = M := ⟨_, rfl⟩; rw [hM]; have HM : Hid (mixB H (E.extract (i * 64) ((i + 1) * 64)).data.toList = M) := hM; clear hM; have h5 := (below_heap hb5 g (by exact hgl)).trans h1; obtain ⟨⟨r0, r1, r2, r3, r4, r5, r6, r7⟩, e0, e1, e2, e3, e4, e5, e6, e7⟩ := eight h5))
          all_goals
            go_wp2
            go_roundw
            case rel => exact ⟨i + 1, by omega, by go_num, rel_mix HH.out h5 HM.out, below_setCells' hs1 (stA M).toList 0 w5 (below_drew5 hb hb5 (by omega))⟩
            case measure => simp [intOf]; omega
        · obtain rfl : i = E.size / 64 := by omega
          have hlt' : ¬ ((E.size / 64 : Nat) : Int) < (E.size : Int) / 64 := by omega
          obtain ⟨H, hH⟩ : ∃ H, blocksB B0 E.data.toList (E.size / 64) = H := ⟨_, rfl⟩
          have HF' : Hid (sumB s.data.toList = digB H) := by
            show _ = _
            rw [HF.out, hH]
          rw [hH] at h1
          clear hH HF
          obtain ⟨⟨c0, c1, c2, c3, c4, c5, c6, c7⟩, f0, f1, f2, f3, f4, f5, f6, f7⟩ := eight h1
          go_wp2_with fail
          refine (digest_any H _).mono ?_
          rintro e w7 ⟨rfl, hb7⟩
          go_wp2
          go_ret
          rw [HF'.out]
          exact ⟨rfl, hb.trans (hb7.mono (by omega))⟩
end Go.Proofs.YtaocbkloafhmeaaDoor
