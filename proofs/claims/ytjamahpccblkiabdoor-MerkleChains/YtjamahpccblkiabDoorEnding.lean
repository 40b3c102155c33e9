/- The blocks behind the whole ones (ending): of fewer than 64 bytes that are left over and a length up to 4096 the call returns those bytes, 80 (base 16), noughts and the count of bits; nothing that was there has changed. -/
import Derived.Test.YtjamahpccblkiabDoorDigest
import Derived.WalkKit
import Derived.WalkSpells
import Derived.WalkLawsBesides
import Derived.Deep.QuietTactic
import Derived.BigQuiet
import Derived.Deep.RegionWith
import Derived.Deep.RegionHeld3
import Derived.Lib.BufferWrite
import Derived.Deep.WholeRow
namespace Go.Proofs.YtjamahpccblkiabDoor
open Go.RowKit
theorem zero51 (w : World) : (zeroValue 74).run Tryd.prog w = .ok (.agg (bcs (padz 128 []))) w := by kernel_rfl
theorem copy_end (left : ByteArray) (hl : left.size < 64) (w : World) : (Builtin.copy_ #[56, 9] 3 #[.slice (some ⟨w.heap.size, 0, none⟩) 128 128, .string left]).run Tryd.prog (w.alloc (.cells (bcs (padz 128 [])) 74)) =
    .ok (.int .i64 (left.size : Int)) (w.alloc (.cells (bcs (padz 128 left.data.toList)) 74)) := by
  have hp := padz_len 128 [] (by simp)
  rw [Lib.run_copy_row_string _ 56 9 3 5 w.heap.size 0 128 128 left _ 74 Tryd.underlying56 (by kernel_rfl) (heap_alloc_new _ _) (by omega) (by rw [bcs_size, hp]; omega), World.setRow_alloc_new]
  have e : (List.take 0 (bcs (padz 128 [])).toList ++ Lib.byteCells left.data.toList ++ List.drop (0 + left.size) (bcs (padz 128 [])).toList).toArray = bcs (padz 128 left.data.toList) := by
    have hs := Lib.size_eq left
    unfold bcs padz Lib.byteCells
    rw [List.take_zero, List.nil_append, List.nil_append, List.map_append, Nat.zero_add, hs]
    congr 2
    rw [← List.map_drop, List.drop_replicate]
    rfl
  rw [e]
  rfl
def zk (N : Nat) : Nat → List UInt8
  | 0 => List.replicate 8 0
  | k + 1 => (zk N k).set (7 - k) (UInt8.ofNat (N / 2 ^ (8 * k) % 256))
theorem zk_len (N k : Nat) : (zk N k).length = 8 := by
  induction k with
  | zero => rfl
  | succ k ih => simp [zk, ih]
theorem zk_8 (N : Nat) : zk N 8 = be64 N := by
  simp [zk, be64, List.replicate_succ]
def endA (left : List UInt8) (e : Nat) : List UInt8 := left ++ 128 :: List.replicate (e - 9 - left.length) 0
theorem endA_len (left : List UInt8) (e : Nat) (h : left.length + 9 ≤ e) : (endA left e).length = e - 8 := by
  simp [endA]; omega
def endRow (left : List UInt8) (e N k : Nat) : List UInt8 := endA left e ++ zk N k ++ List.replicate (128 - e) 0
theorem endRow_len (left : List UInt8) (e N k : Nat) (h : left.length + 9 ≤ e) (he : e ≤ 128) : (endRow left e N k).length = 128 := by
  simp [endRow, endA_len left e h, zk_len]; omega
theorem endRow_0 (left : List UInt8) (e N n : Nat) (hn : n = left.length) (h : left.length + 9 ≤ e) (he : e ≤ 128) : (padz 128 left).set n 128 = endRow left e N 0 := by
  rw [padz_set 128 left 128 n hn (by omega)]
  unfold padz endRow endA zk
  have e1 : 128 - (left ++ [128]).length = (e - 9 - left.length) + (8 + (128 - e)) := by simp; omega
  rw [e1, ← List.replicate_append_replicate, ← List.replicate_append_replicate]
  simp
theorem endRow_set (left : List UInt8) (e N k n : Nat) (hn : n + 1 + k = e) (hk : k < 8) (h : left.length + 9 ≤ e) : (endRow left e N k).set n (UInt8.ofNat (N / 2 ^ (8 * k) % 256)) = endRow left e N (k + 1) := by
  unfold endRow
  have hA := endA_len left e h
  have hz := zk_len N k
  have hn' : n = (endA left e).length + (7 - k) := by omega
  rw [List.append_assoc, List.append_assoc, List.set_append_right _ _ (by omega), List.set_append_left _ _ (by omega)]
  have : n - (endA left e).length = 7 - k := by omega
  rw [this]
  rfl
theorem endRow_8 (left : List UInt8) (e many : Nat) (h : left.length + 9 ≤ e) (hm : (119 - left.length) % 64 = e - 9 - left.length) : (endRow left e (many * 8) 8).take e = endB left many := by
  unfold endRow endB
  have hA := endA_len left e h
  rw [List.take_append_of_le_length (by simp [hA, zk_len]; omega), List.take_of_length_le (by simp [hA, zk_len]; omega), zk_8, hm]
  simp [endA]
theorem conv_end {W : World} {g e : Nat} {l r : List UInt8} (H : W.heap[g]? = some (.cells (bcs l) 74 (0, 0))) (hr : l.take e = r) (he : e ≤ l.length) : (convert 56 9 (.slice (some ⟨g, 0, none⟩) e 128)).run Tryd.prog W = .ok (.string ⟨r.toArray⟩) W := by
  have hl : r.length = e := by rw [← hr]; simp; omega
  have := run_convert_bytes_back (P := Tryd.prog) W 56 9 5 ⟨g, 0, none⟩ 128 r Tryd.underlying56 Tryd.underlying5 Tryd.underlying9 (fun j hj => by
    have e1 : (⟨g, 0, none⟩ : Addr).add j = ⟨g, j, none⟩ := by unfold Addr.add; split <;> simp_all
    rw [e1, brow_cell H j (by omega)]
    have e2 : l.getD j 0 = r[j] := by
      have hj' : j < l.length := by omega
      subst hr
      rw [List.getD_eq_getElem?_getD, List.getElem?_eq_getElem hj']
      simp
    rw [e2])
  rw [hl] at this
  exact this
theorem u8_val (N k : Nat) (P : Int) (hP : P = ((2 ^ (8 * k) : Nat) : Int)) (V : Int) (hV : V = (N : Int)) : V / P % 256 = ((UInt8.ofNat (N / 2 ^ (8 * k) % 256)).toNat : Int) := by
  subst hP hV
  have e : (UInt8.ofNat (N / 2 ^ (8 * k) % 256)).toNat = N / 2 ^ (8 * k) % 256 := by
    simp [UInt8.toNat_ofNat']
  rw [e, Int.natCast_emod, Int.natCast_ediv]
  rfl
set_option maxHeartbeats 1000000 in
theorem ending_64 (left : ByteArray) (many : Nat) (hl : left.size < 64) (h9 : left.size < 56) (hm : many ≤ 4096) (w : World) :
    Calls Tryd.prog 34 #[.string left, .int .i64 many] w fun e w' => e = .returned (.string ⟨(endB left.data.toList many).toArray⟩) ∧ Below w.heap.size w w' := by
  have hz := zero51
  have hcp := copy_end left hl w
  have hls : left.data.toList.length = left.size := (Lib.size_eq left).symm
  have hp := padz_len 128 left.data.toList (by omega)
  have hc := bcs_get (padz 128 left.data.toList) left.size (by omega)
  have hst : (bcs (padz 128 left.data.toList)).setIfInBounds left.size (.int .u8 128) = bcs (endRow left.data.toList 64 (many * 8) 0) := by
    rw [← endRow_0 left.data.toList 64 (many * 8) left.size hls.symm (by omega) (by omega), ← bcs_set]
    rfl
  have HST : Hid ((bcs (padz 128 left.data.toList)).setIfInBounds left.size (.int .u8 128) = bcs (endRow left.data.toList 64 (many * 8) 0)) := hst
  have HLS : Hid (left.data.toList.length = left.size) := hls
  have h9' : ¬ (64 : Int) < (left.size : Int) + 1 + 8 := by omega
  clear hp hls hst
  go_enter Tryd.func34, Tryd.ntmps34
  go_wp2_with fail
  rw [HST.out]
  go_loopw [22] (fun c wr => ∃ k : Nat, k ≤ 8 ∧ c = .int .i64 k ∧ wr.heap[w.heap.size]? = some (.cells (bcs (endRow left.data.toList 64 (many * 8) k)) 74 (0, 0)) ∧ Below w.heap.size w wr) (fun c _ => 8 - (intOf c).toNat)
  case atStart =>
    exact ⟨0, Nat.zero_le _, rfl, heap_alloc_new _ _, (Below.refl _ _).alloc (Nat.le_refl _) _⟩
  case round =>
    clear hcp hc hz
    obtain ⟨k, hk, rfl, h1, hb⟩ := hrel
    have hlen := endRow_len left.data.toList 64 (many * 8) k (by have := HLS.out; omega) (by omega)
    by_cases hlt : k < 8
    · have hc := brow_cell h1 (63 - k) (by omega)
      have hf := frozen_of_row wr _ (63 - k) _ _ h1
      obtain ⟨v, hv⟩ : ∃ v : Int, (((endRow left.data.toList 64 (many * 8) k).getD (63 - k) 0).toNat : Int) = v := ⟨_, rfl⟩
      rw [hv] at hc
      clear hv hlen
      go_wp2
      go_roundw
      case rel =>
        refine ⟨k + 1, by omega, by go_num, ?_, hb.setCell (Nat.le_refl _) _⟩
        rw [brow_set h1 _ (UInt8.ofNat (many * 8 / 2 ^ (8 * k) % 256)) _ (u8_val (many * 8) k _ (by simp) _ (by simp)), endRow_set left.data.toList 64 (many * 8) k _ (by omega) hlt (by have := HLS.out; omega)]
      case measure => simp [intOf]; omega
    · obtain rfl : k = 8 := by omega
      have hlt' : ¬ ((8 : Nat) : Int) < 8 := by omega
      have hcv := conv_end h1 (endRow_8 left.data.toList 64 many (by have := HLS.out; omega) (by have := HLS.out; omega)) (by omega)
      clear hlen
      go_wp2
      go_ret
      exact ⟨rfl, hb⟩
set_option maxHeartbeats 1000000 in
theorem ending_128 (left : ByteArray) (many : Nat) (hl : left.size < 64) (h9 : ¬ left.size < 56) (hm : many ≤ 4096) (w : World) :
    Calls Tryd.prog 34 #[.string left, .int .i64 many] w fun e w' => e = .returned (.string ⟨(endB left.data.toList many).toArray⟩) ∧ Below w.heap.size w w' := by
  have hz := zero51
  have hcp := copy_end left hl w
  have hls : left.data.toList.length = left.size := (Lib.size_eq left).symm
  have hp := padz_len 128 left.data.toList (by omega)
  have hc := bcs_get (padz 128 left.data.toList) left.size (by omega)
  have hst : (bcs (padz 128 left.data.toList)).setIfInBounds left.size (.int .u8 128) = bcs (endRow left.data.toList 128 (many * 8) 0) := by
    rw [← endRow_0 left.data.toList 128 (many * 8) left.size hls.symm (by omega) (by omega), ← bcs_set]
    rfl
  have HST : Hid ((bcs (padz 128 left.data.toList)).setIfInBounds left.size (.int .u8 128) = bcs (endRow left.data.toList 128 (many * 8) 0)) := hst
  have HLS : Hid (left.data.toList.length = left.size) := hls
  have h9' : (64 : Int) < (left.size : Int) + 1 + 8 := by omega
  clear hp hls hst
  go_enter Tryd.func34, Tryd.ntmps34
  go_wp2_with fail
  rw [HST.out]
  go_loopw [22] (fun c wr => ∃ k : Nat, k ≤ 8 ∧ c = .int .i64 k ∧ wr.heap[w.heap.size]? = some (.cells (bcs (endRow left.data.toList 128 (many * 8) k)) 74 (0, 0)) ∧ Below w.heap.size w wr) (fun c _ => 8 - (intOf c).toNat)
  case atStart =>
    exact ⟨0, Nat.zero_le _, rfl, heap_alloc_new _ _, (Below.refl _ _).alloc (Nat.le_refl _) _⟩
  case round =>
    clear hcp hc hz
    obtain ⟨k, hk, rfl, h1, hb⟩ := hrel
    have hlen := endRow_len left.data.toList 128 (many * 8) k (by have := HLS.out; omega) (by omega)
    by_cases hlt : k < 8
    · have hc := brow_cell h1 (127 - k) (by omega)
      have hf := frozen_of_row wr _ (127 - k) _ _ h1
      obtain ⟨v, hv⟩ : ∃ v : Int, (((endRow left.data.toList 128 (many * 8) k).getD (127 - k) 0).toNat : Int) = v := ⟨_, rfl⟩
      rw [hv] at hc
      clear hv hlen
      go_wp2
      go_roundw
      case rel =>
        refine ⟨k + 1, by omega, by go_num, ?_, hb.setCell (Nat.le_refl _) _⟩
        rw [brow_set h1 _ (UInt8.ofNat (many * 8 / 2 ^ (8 * k) % 256)) _ (u8_val (many * 8) k _ (by simp) _ (by simp)), endRow_set left.data.toList 128 (many * 8) k _ (by omega) hlt (by have := HLS.out; omega)]
      case measure => simp [intOf]; omega
    · obtain rfl : k = 8 := by omega
      have hlt' : ¬ ((8 : Nat) : Int) < 8 := by omega
      have hcv := conv_end h1 (endRow_8 left.data.toList 128 many (by have := HLS.out; omega) (by have := HLS.out; omega)) (by omega)
      clear hlen
      go_wp2
      go_ret
      exact ⟨rfl, hb⟩
theorem ending_any (left : ByteArray) (many : Nat) (hl : left.size < 64) (hm : many ≤ 4096) (w : World) :
    Calls Tryd.prog 34 #[.string left, .int .i64 many] w fun e w' => e = .returned (.string ⟨(endB left.data.toList many).toArray⟩) ∧ Below w.heap.size w w' := by
  by_cases h : left.size < 56
  · exact ending_64 left many hl h hm w
  · exact ending_128 left many hl h hm w
end Go.Proofs.YtjamahpccblkiabDoor
