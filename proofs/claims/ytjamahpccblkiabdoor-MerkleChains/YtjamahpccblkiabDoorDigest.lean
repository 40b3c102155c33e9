/- The digest of eight words (digest): of any words the call returns their 32 bytes, the highest of each first, and nothing that was there has changed. -/
import Derived.Test.YtjamahpccblkiabDoorDig
import Derived.Test.YtjamahpccblkiabDoorMixh
import Derived.WalkKit
import Derived.WalkSpells
import Derived.WalkLawsBesides
import Derived.Deep.QuietTactic
import Derived.BigQuiet
import Derived.Deep.RegionWith
import Derived.Deep.RegionHeld3
namespace Go.Proofs.YtjamahpccblkiabDoor
open Go.RowKit
theorem zero32 : (#[Value.int IntKind.u8 0, Value.int IntKind.u8 0, Value.int IntKind.u8 0, Value.int IntKind.u8 0, Value.int IntKind.u8 0, Value.int IntKind.u8 0, Value.int IntKind.u8 0, Value.int IntKind.u8 0, Value.int IntKind.u8 0, Value.int IntKind.u8 0, Value.int IntKind.u8 0, Value.int IntKind.u8 0, Value.int IntKind.u8 0, Value.int IntKind.u8 0, Value.int IntKind.u8 0, Value.int IntKind.u8 0, Value.int IntKind.u8 0, Value.int IntKind.u8 0, Value.int IntKind.u8 0, Value.int IntKind.u8 0, Value.int IntKind.u8 0, Value.int IntKind.u8 0, Value.int IntKind.u8 0, Value.int IntKind.u8 0, Value.int IntKind.u8 0, Value.int IntKind.u8 0, Value.int IntKind.u8 0, Value.int IntKind.u8 0, Value.int IntKind.u8 0, Value.int IntKind.u8 0, Value.int IntKind.u8 0, Value.int IntKind.u8 0] : Array Value) = bcs (padz 32 []) := rfl
theorem idx24 (h : St) (i : Nat) (hi : i < 8) (w : World) : (Instr.index 61 (.agg (stA h)) (.int .i64 (i : Int))).run Tryd.prog w = .ok (.int .u32 (n32 (h.get i))) w := by
  have h0 : (Instr.index 61 (.agg (stA h)) (.int .i64 ((0 : Nat) : Int))).run Tryd.prog w = .ok (.int .u32 (n32 (h.get 0))) w := by kernel_rfl
  have h1 : (Instr.index 61 (.agg (stA h)) (.int .i64 ((1 : Nat) : Int))).run Tryd.prog w = .ok (.int .u32 (n32 (h.get 1))) w := by kernel_rfl
  have h2 : (Instr.index 61 (.agg (stA h)) (.int .i64 ((2 : Nat) : Int))).run Tryd.prog w = .ok (.int .u32 (n32 (h.get 2))) w := by kernel_rfl
  have h3 : (Instr.index 61 (.agg (stA h)) (.int .i64 ((3 : Nat) : Int))).run Tryd.prog w = .ok (.int .u32 (n32 (h.get 3))) w := by kernel_rfl
  have h4 : (Instr.index 61 (.agg (stA h)) (.int .i64 ((4 : Nat) : Int))).run Tryd.prog w = .ok (.int .u32 (n32 (h.get 4))) w := by kernel_rfl
  have h5 : (Instr.index 61 (.agg (stA h)) (.int .i64 ((5 : Nat) : Int))).run Tryd.prog w = .ok (.int .u32 (n32 (h.get 5))) w := by kernel_rfl
  have h6 : (Instr.index 61 (.agg (stA h)) (.int .i64 ((6 : Nat) : Int))).run Tryd.prog w = .ok (.int .u32 (n32 (h.get 6))) w := by kernel_rfl
  have h7 : (Instr.index 61 (.agg (stA h)) (.int .i64 ((7 : Nat) : Int))).run Tryd.prog w = .ok (.int .u32 (n32 (h.get 7))) w := by kernel_rfl
  rcases (show i = 0 ∨ i = 1 ∨ i = 2 ∨ i = 3 ∨ i = 4 ∨ i = 5 ∨ i = 6 ∨ i = 7 by omega) with rfl | rfl | rfl | rfl | rfl | rfl | rfl | rfl
  · exact h0
  · exact h1
  · exact h2
  · exact h3
  · exact h4
  · exact h5
  · exact h6
  · exact h7
theorem dig_step {W : World} {g i k : Nat} {h : St} (H : W.heap[g]? = some (.cells (bcs (padz 32 (digW h i ++ (wbytes (h.get i)).take k))) 75 (0, 0))) (hi : i < 8) (hk : k < 4) (v : Int) (hv : v = ((wbyte (h.get i) k).toNat : Int)) (n : Nat) (hn : n = i * 4 + k) :
    (W.setCell ⟨g, n, none⟩ (.int .u8 v)).heap[g]? = some (.cells (bcs (padz 32 (digW h i ++ (wbytes (h.get i)).take (k + 1)))) 75 (0, 0)) := by
  rw [brow_set H n (wbyte (h.get i) k) v hv]
  congr 3
  have hl := digW_len h i
  have hw : ((wbytes (h.get i)).take k).length = k := by simp [wbytes]; omega
  rw [padz_set 32 _ _ n (by simp [hl, hw, hn]; omega) (by simp [hl, hw]; omega), List.append_assoc]
  congr 2
  rcases (show k = 0 ∨ k = 1 ∨ k = 2 ∨ k = 3 by omega) with rfl | rfl | rfl | rfl <;> rfl
theorem conv_dig {W : World} {g : Nat} {h : St} (H : W.heap[g]? = some (.cells (bcs (padz 32 (digW h 8))) 75 (0, 0))) : (convert 56 9 (.slice (some ⟨g, 0, none⟩) 32 32)).run Tryd.prog W = .ok (.string ⟨(digB h).toArray⟩) W := by
  have hl : (digB h).length = 32 := digW_len h 8
  rw [padz_full 32 (digW h 8) hl] at H
  have := run_convert_bytes_back (P := Tryd.prog) W 56 9 5 ⟨g, 0, none⟩ 32 (digB h) Tryd.underlying56 Tryd.underlying5 Tryd.underlying9 (fun j hj => by
    have e : (⟨g, 0, none⟩ : Addr).add j = ⟨g, j, none⟩ := by unfold Addr.add; split <;> simp_all
    rw [e, brow_cell H j hj]
    have e2 : (digW h 8).getD j 0 = (digB h)[j] := by
      show (digB h).getD j 0 = _
      rw [List.getD_eq_getElem?_getD, List.getElem?_eq_getElem hj]; rfl
    rw [e2])
  rw [hl] at this
  exact this
set_option maxHeartbeats 1000000 in
theorem digest_any (h : St) (w : World) :
    Calls Tryd.prog 35 #[.agg (stA h)] w fun e w' => e = .returned (.string ⟨(digB h).toArray⟩) ∧ Below w.heap.size w w' := by
  go_enter Tryd.func35, Tryd.ntmps35
  go_wp2
  rw [zero32]
  go_loopw [8] (fun c wr => ∃ i : Nat, i ≤ 8 ∧ c = .int .i64 i ∧ wr.heap[w.heap.size + 1]? = some (.cells (bcs (padz 32 (digW h i))) 75 (0, 0)) ∧ Below w.heap.size w wr) (fun c _ => 8 - (intOf c).toNat)
  case atStart =>
    exact ⟨0, Nat.zero_le _, rfl, heap_alloc2_new _ _ _, ((Below.refl _ _).alloc (Nat.le_refl _) _).alloc (by simp) _⟩
  case round =>
    obtain ⟨i, hi, rfl, h1, hb⟩ := hrel
    by_cases hlt : i < 8
    · have hx := fun W => idx24 h i hlt W
      have hl := digW_len h i
      go_wp2
      obtain ⟨wo, rfl⟩ : ∃ wo : World, wo = wr := ⟨_, rfl⟩
      go_loopw [12] (fun c wr => ∃ k : Nat, k ≤ 4 ∧ c = .int .i64 k ∧ wr.heap[w.heap.size + 1]? = some (.cells (bcs (padz 32 (digW h i ++ (wbytes (h.get i)).take k))) 75 (0, 0)) ∧ Below w.heap.size w wr) (fun c _ => 4 - (intOf c).toNat)
      case atStart =>
        exact ⟨0, Nat.zero_le _, rfl, by simpa using h1, hb⟩
      case round =>
        clear h1 hb
        obtain ⟨k, hk, rfl, h1, hb⟩ := hrel
        by_cases hk4 : k < 4
        · have hw : ((wbytes (h.get i)).take k).length = k := by simp [wbytes]; omega
          have hp := padz_len 32 (digW h i ++ (wbytes (h.get i)).take k) (by simp [hl, hw]; omega)
          have hc := brow_cell h1 (i * 4 + k) (by omega)
          have hf := frozen_of_row wr _ (i * 4 + k) _ _ h1
          obtain ⟨v, hv⟩ : ∃ v : Int, (((padz 32 (digW h i ++ (wbytes (h.get i)).take k)).getD (i * 4 + k) 0).toNat : Int) = v := ⟨_, rfl⟩
          rw [hv] at hc
          clear hv hp hw
          go_wp2
          go_roundw
          case rel =>
            exact ⟨k + 1, by omega, by go_num, dig_step h1 hlt hk4 _ (wbyte_val _ _ _ (by simp)) _ rfl, hb.setCell (by simp) _⟩
          case measure => simp [intOf]; omega
        · obtain rfl : k = 4 := by omega
          have hk4' : ¬ ((4 : Nat) : Int) < 4 := by omega
          go_wp2
          go_roundw
          case rel => exact ⟨i + 1, by omega, by go_num, h1, hb⟩
          case measure => simp [intOf]; omega
    · obtain rfl : i = 8 := by omega
      have hlt' : ¬ ((8 : Nat) : Int) < 8 := by omega
      have hcv := conv_dig h1
      go_wp2
      go_ret
      exact ⟨rfl, hb⟩
end Go.Proofs.YtjamahpccblkiabDoor
