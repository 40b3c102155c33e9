/- A number's four bytes and the number of four bytes, the program's and the document's; a body's head and frame, the program's and the document's: the calls return the same, and nothing that was there has changed. -/
import Derived.Test.YtgjalfcpfgbneaaGreatDoorFChk
import Derived.Deep.RegionHeld3
import Derived.Lib.Strings
import Derived.Lib.BufferWrite
namespace Go.Proofs.YtgjalfcpfgbneaaGreatDoor.F
open Go.RowKit
attribute [local go_sem] n32_xor n32_or n32_not n32_id

def bcs (l : List UInt8) : Array Value := (Lib.byteCells l).toArray
theorem bcs_size (l : List UInt8) : (bcs l).size = l.length := by simp [bcs, Lib.byteCells]
theorem bcs_get (l : List UInt8) (i : Nat) (hi : i < l.length) : (bcs l)[i]? = some (.int .u8 ((l.getD i 0).toNat : Int)) := by
  simp [bcs, Lib.byteCells, List.getD_eq_getElem?_getD, hi]
theorem bcs_set (l : List UInt8) (n : Nat) (b : UInt8) : (bcs l).setIfInBounds n (.int .u8 (b.toNat : Int)) = bcs (l.set n b) := by
  unfold bcs Lib.byteCells
  rw [List.map_set, List.setIfInBounds_toArray]
theorem brow_cell {W : World} {g : Nat} {l : List UInt8} {t : TypeId} {fr : Nat × Nat} (h : W.heap[g]? = some (.cells (bcs l) t fr)) (i : Nat) (hi : i < l.length) : W.cell? ⟨g, i, none⟩ = some (.int .u8 ((l.getD i 0).toNat : Int)) := by
  rw [cell_of_row W g i _ t fr h, bcs_get l i hi]
theorem brow_set {W : World} {g : Nat} {l : List UInt8} {t : TypeId} (h : W.heap[g]? = some (.cells (bcs l) t (0, 0))) (n : Nat) (b : UInt8) (v : Int) (hv : v = (b.toNat : Int)) :
    (W.setCell ⟨g, n, none⟩ (.int .u8 v)).heap[g]? = some (.cells (bcs (l.set n b)) t (0, 0)) := by
  rw [heap_setCell_same W g n _ t _ h, hv, bcs_set]
theorem conv_row {W : World} {g : Nat} {l : List UInt8} {t : TypeId} {fr : Nat × Nat} (H : W.heap[g]? = some (.cells (bcs l) t fr)) (n c : Nat) (hn : n = l.length) :
    (convert 65 9 (.slice (some ⟨g, 0, none⟩) n c)).run Tryz.prog W = .ok (.string ⟨l.toArray⟩) W := by
  subst hn
  exact run_convert_bytes_back (P := Tryz.prog) W 65 9 5 ⟨g, 0, none⟩ c l Tryz.underlying65 Tryz.underlying5 Tryz.underlying9 (fun j hj => by
    have e : (⟨g, 0, none⟩ : Addr).add j = ⟨g, j, none⟩ := by unfold Addr.add; split <;> simp_all
    rw [e, brow_cell H j hj]
    have e2 : l.getD j 0 = l[j] := by rw [List.getD_eq_getElem?_getD, List.getElem?_eq_getElem hj]; rfl
    rw [e2])
theorem or4 (a b c d : Nat) (ha : a < 256) (hb : b < 256) (hc : c < 256) : a ||| b <<< 8 ||| c <<< 16 ||| d <<< 24 = a + b * 256 + c * 65536 + d * 16777216 := by
  have e1 : a ||| b <<< 8 = b <<< 8 + a := by rw [Nat.or_comm]; exact (Nat.shiftLeft_add_eq_or_of_lt (i := 8) ha b).symm
  have s1 : b <<< 8 = b * 256 := by rw [Nat.shiftLeft_eq]
  have e2 : (b <<< 8 + a) ||| c <<< 16 = c <<< 16 + (b <<< 8 + a) := by rw [Nat.or_comm]; exact (Nat.shiftLeft_add_eq_or_of_lt (i := 16) (by omega) c).symm
  have s2 : c <<< 16 = c * 65536 := by rw [Nat.shiftLeft_eq]
  have e3 : (c <<< 16 + (b <<< 8 + a)) ||| d <<< 24 = d <<< 24 + (c <<< 16 + (b <<< 8 + a)) := by rw [Nat.or_comm]; exact (Nat.shiftLeft_add_eq_or_of_lt (i := 24) (by omega) d).symm
  have s3 : d <<< 24 = d * 16777216 := by rw [Nat.shiftLeft_eq]
  rw [e1, e2, e3, s1, s2, s3]; omega
theorem wB_nat (b : UInt8) : (wB b).toNat = b.toNat := by
  unfold wB; rw [BitVec.toNat_ofNat]; have := b.toNat_lt; omega
theorem num_or (l : List UInt8) : n32 (wB (l.getD 0 0) ||| wB (l.getD 1 0) <<< 8 ||| wB (l.getD 2 0) <<< 16 ||| wB (l.getD 3 0) <<< 24) = ((numL l : Nat) : Int) := by
  have h0 := (l.getD 0 0).toNat_lt
  have h1 := (l.getD 1 0).toNat_lt
  have h2 := (l.getD 2 0).toNat_lt
  have h3 := (l.getD 3 0).toNat_lt
  unfold n32 numL
  simp only [BitVec.toNat_or, BitVec.toNat_shiftLeft, wB_nat]
  have e1 : (l.getD 1 0).toNat <<< 8 % 2 ^ 32 = (l.getD 1 0).toNat <<< 8 := by rw [Nat.shiftLeft_eq]; omega
  have e2 : (l.getD 2 0).toNat <<< 16 % 2 ^ 32 = (l.getD 2 0).toNat <<< 16 := by rw [Nat.shiftLeft_eq]; omega
  have e3 : (l.getD 3 0).toNat <<< 24 % 2 ^ 32 = (l.getD 3 0).toNat <<< 24 := by rw [Nat.shiftLeft_eq]; omega
  rw [e1, e2, e3, or4 _ _ _ _ h0 h1 h2]
theorem ret_i {a b : Int} (h : a = b) : Ending.returned (Value.int .i64 a) = .returned (.int .i64 b) := by rw [h]
theorem w64i (x : Int) (h : -9223372036854775808 ≤ x ∧ x ≤ 9223372036854775807) : wrap64 x = x := by unfold wrap64; omega
theorem w64 (x : Nat) (h1 : x < 9223372036854775808) : wrap64 (x : Int) = x := w64i _ (by omega)
theorem heap_new (w : World) (o : Obj) : (w.alloc o).heap[w.heap.size]? = some o := by
  show (w.heap.push o)[w.heap.size]? = _
  simp
set_option maxHeartbeats 1000000 in
theorem num_any (s : ByteArray) (hs : 4 ≤ s.size) (w : World) :
    Calls Tryz.prog 104 #[.string s] w fun e w' => e = .returned (.int .u32 (numL s.data.toList : Nat)) ∧ ∃ n, w' = w.drewN n := by
  have h0 : 0 < s.size := by omega
  have h1 : 1 < s.size := by omega
  have h2 : 2 < s.size := by omega
  have h3 : 3 < s.size := by omega
  have g1 : (1 : Int) < (s.size : Int) := by omega
  have g2 : (2 : Int) < (s.size : Int) := by omega
  have g3 : (3 : Int) < (s.size : Int) := by omega
  clear hs
  go_enter Tryz.func104, Tryz.ntmps104
  go_wp2
  go_quiet (fail)
  go_wp2
  go_ret
  have s24 : ∀ x, n32 x * (16777216 : Int) % (4294967296 : Int) = n32 (x <<< 24) := fun x => n32_shl x 24
  have s16 : ∀ x, n32 x * (65536 : Int) % (4294967296 : Int) = n32 (x <<< 16) := fun x => n32_shl x 16
  have s8 : ∀ x, n32 x * (256 : Int) % (4294967296 : Int) = n32 (x <<< 8) := fun x => n32_shl x 8
  exact ⟨ret_u (by rw [byte_n32 s 0 h0, byte_n32 s 1 h1, byte_n32 s 2 h2, byte_n32 s 3 h3, s24, s16, s8, n32_or, n32_or, n32_or, num_or]), _, rfl⟩
def pad4 (l : List UInt8) : List UInt8 := l ++ List.replicate (4 - l.length) 0
theorem pad4_set (l : List UInt8) (x : UInt8) (n : Nat) (hn : n = l.length) (h : l.length < 4) : (pad4 l).set n x = pad4 (l ++ [x]) := by
  subst hn
  unfold pad4
  obtain ⟨q, hq⟩ : ∃ q, 4 - l.length = q + 1 := ⟨4 - l.length - 1, by omega⟩
  have hq' : 4 - (l ++ [x]).length = q := by simp; omega
  rw [hq, hq', List.set_append_right _ _ (Nat.le_refl _), Nat.sub_self, List.replicate_succ, List.set_cons_zero]
  simp
theorem zero4 : (#[Value.int IntKind.u8 0, Value.int IntKind.u8 0, Value.int IntKind.u8 0, Value.int IntKind.u8 0] : Array Value) = bcs (pad4 []) := rfl
theorem four_step {W : World} {g : Nat} {x : BitVec 32} {k : Nat} (H : W.heap[g]? = some (.cells (bcs (pad4 ((four x).take k))) 162 (0, 0))) (hk : k < 4) (v : Int) (hv : v = (((four x).getD k 0).toNat : Int)) :
    (W.setCell ⟨g, k, none⟩ (.int .u8 v)).heap[g]? = some (.cells (bcs (pad4 ((four x).take (k + 1)))) 162 (0, 0)) := by
  have hl : ((four x).take k).length = k := by simp [four_len]; omega
  rw [brow_set H k ((four x).getD k 0) v hv, pad4_set _ _ k hl.symm (by omega)]
  congr 3
  rcases (show k = 0 ∨ k = 1 ∨ k = 2 ∨ k = 3 by omega) with rfl | rfl | rfl | rfl <;> rfl
theorem fq0 (x : BitVec 32) : n32 x % 256 = (((four x).getD 0 0).toNat : Int) := by
  unfold n32; simp [four, UInt8.toNat_ofNat']
theorem fq1 (x : BitVec 32) : n32 x / 256 % 256 = (((four x).getD 1 0).toNat : Int) := by
  unfold n32; simp [four, UInt8.toNat_ofNat']
theorem fq2 (x : BitVec 32) : n32 x / 65536 % 256 = (((four x).getD 2 0).toNat : Int) := by
  unfold n32; simp [four, UInt8.toNat_ofNat']
theorem fq3 (x : BitVec 32) : n32 x / 16777216 % 256 = (((four x).getD 3 0).toNat : Int) := by
  unfold n32; simp [four, UInt8.toNat_ofNat']
set_option maxHeartbeats 1000000 in
theorem four_any (x : BitVec 32) (w : World) :
    Calls Tryz.prog 86 #[.int .u32 (n32 x)] w fun e w' => e = .returned (.string ⟨(four x).toArray⟩) ∧ Below w.heap.size w w' := by
  go_enter Tryz.func86, Tryz.ntmps86
  go_wp2
  rw [zero4]
  go_loopw [5] (fun c wr => ∃ k : Nat, k ≤ 4 ∧ c = .int .i64 k ∧ wr.heap[w.heap.size]? = some (.cells (bcs (pad4 ((four x).take k))) 162 (0, 0)) ∧ Below w.heap.size w wr) (fun c _ => 4 - (intOf c).toNat)
  case atStart =>
    exact ⟨0, Nat.zero_le _, rfl, heap_new _ _, (Below.refl _ _).alloc (Nat.le_refl _) _⟩
  case round =>
    obtain ⟨k, hk, rfl, h1, hb⟩ := hrel
    by_cases hlt : k < 4
    · have hc := brow_cell h1 k (by simp [pad4, four_len]; omega)
      have hf := frozen_of_row wr _ k _ _ h1
      obtain ⟨v, hv⟩ : ∃ v : Int, (((pad4 ((four x).take k)).getD k 0).toNat : Int) = v := ⟨_, rfl⟩
      rw [hv] at hc
      clear hv
      rcases (show k = 0 ∨ k = 1 ∨ k = 2 ∨ k = 3 by omega) with rfl | rfl | rfl | rfl
      · go_wp2
        go_roundw
        case rel => exact ⟨1, by omega, by rfl, four_step h1 hlt _ (fq0 x), hb.setCell (Nat.le_refl _) _⟩
        case measure => simp [intOf]
      · go_wp2
        go_roundw
        case rel => exact ⟨2, by omega, by rfl, four_step h1 hlt _ (fq1 x), hb.setCell (Nat.le_refl _) _⟩
        case measure => simp [intOf]
      · go_wp2
        go_roundw
        case rel => exact ⟨3, by omega, by rfl, four_step h1 hlt _ (fq2 x), hb.setCell (Nat.le_refl _) _⟩
        case measure => simp [intOf]
      · go_wp2
        go_roundw
        case rel => exact ⟨4, by omega, by rfl, four_step h1 hlt _ (fq3 x), hb.setCell (Nat.le_refl _) _⟩
        case measure => simp [intOf]
    · obtain rfl : k = 4 := by omega
      have hlt' : ¬ ((4 : Nat) : Int) < 4 := by omega
      have hcv := conv_row (l := four x) h1 4 4 rfl
      go_wp2
      go_ret
      exact ⟨rfl, hb⟩
end Go.Proofs.YtgjalfcpfgbneaaGreatDoor.F
