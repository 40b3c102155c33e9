/- The words of a block's 64 rounds (roundWords): of any string of 64 bytes the call returns them, and nothing that was there has changed. -/
import Derived.Test.YtaocbkloafhmeaaDoorLeaf
import Derived.Test.YtaocbkloafhmeaaDoorRow
import Derived.WalkKit
import Derived.WalkSpells
import Derived.WalkLawsBesides
import Derived.Deep.QuietTactic
import Derived.BigQuiet
import Derived.Deep.RegionWith
import Derived.Deep.RegionHeld3
namespace Go.Proofs.YtaocbkloafhmeaaDoor
open Go.RowKit
theorem info39 (L : List (BitVec 32)) (h : L.length = 64) : (Tryd.prog.info? 126).map (·.size) = some (rowA L).size := by
  rw [rowA_size L (by omega)]; kernel_rfl
theorem there39 {W : World} {g : Nat} (h : W.heap[g]? = some (.cells (rowA []) 126 (0, 0))) (L : List (BitVec 32)) (hL : L.length = 64) : W.there g 0 (rowA L).size := by
  rw [rowA_size L (by omega)]; exact row_there h (by simp)
theorem word_ex (s : ByteArray) (k : Nat) (h : 4 * k + 4 ≤ s.size) (w : World) :
    Calls Tryd.prog 103 #[.string (s.extract (k * 4) ((k + 1) * 4))] w fun e w' => e = .returned (.int .u32 (n32 (wordB s.data.toList k))) ∧ ∃ n, w' = w.drewN n := by
  have e1 : k * 4 = 4 * k := by omega
  have e2 : (k + 1) * 4 = 4 * k + 4 := by omega
  rw [e1, e2]
  refine (word_any _ (by simp; omega) w).mono ?_
  rintro e w' ⟨rfl, n, rfl⟩
  rw [wordB_extract s k h]
  exact ⟨rfl, n, rfl⟩
set_option maxHeartbeats 1000000 in
theorem rw_any (s : ByteArray) (hs : s.size = 64) (w : World) :
    Calls Tryd.prog 91 #[.string s] w fun e w' => e = .returned (.agg (rowA (schedB s.data.toList))) ∧ Below w.heap.size w w' := by
  go_enter Tryd.func91, Tryd.ntmps91
  go_wp2
  rw [zero64]
  go_loopw [6] (fun c wr => ∃ k : Nat, k ≤ 16 ∧ c = .int .i64 k ∧ wr.heap[w.heap.size]? = some (.cells (rowA []) 126 (0, 0)) ∧ wr.heap[w.heap.size + 1]? = some (.cells (rowA (wordsB s.data.toList k)) 126 (0, 0)) ∧ Below w.heap.size w wr) (fun c _ => 16 - (intOf c).toNat)
  case atStart =>
    exact ⟨0, Nat.zero_le _, rfl, heap_alloc2_old _ _ _, heap_alloc2_new _ _ _, ((Below.refl _ _).alloc (Nat.le_refl _) _).alloc (by simp) _⟩
  case round =>
    obtain ⟨k, hk, rfl, h0, h1, hb⟩ := hrel
    by_cases hlt : k < 16
    · have hlen := wordsB_len s.data.toList k
      obtain ⟨v, hc⟩ := row_cell_pad h1 k (by omega) (by omega)
      have hf := frozen_of_row wr _ k _ _ h1
      go_wp2_with fail
      refine (word_ex _ _ (by omega) _).mono ?_
      rintro e w' ⟨rfl, n, rfl⟩
      go_wp2
      go_roundw
      case rel => exact ⟨k + 1, by omega, by go_num, (heap_setCell_other _ _ _ _ (by simp)).trans h0, row_set (W := wr.drewN n) h1 k _ hlen.symm (by omega), (below_drewN hb n).setCell (by simp) _⟩
      case measure => simp [intOf]; omega
    · obtain rfl : k = 16 := by omega
      have hlt' : ¬ ((16 : Nat) : Int) < 16 := by omega
      go_wp2
      have hl16 := wordsB_len s.data.toList 16
      obtain ⟨wo, rfl⟩ : ∃ wo : World, wo = wr := ⟨_, rfl⟩
      go_loopw [5] (fun c wr => ∃ i : Nat, 16 ≤ i ∧ i ≤ 64 ∧ c = .int .i64 i ∧ wr.heap[w.heap.size]? = some (.cells (rowA []) 126 (0, 0)) ∧ wr.heap[w.heap.size + 1]? = some (.cells (rowA (extW (wordsB s.data.toList 16) (i - 16))) 126 (0, 0)) ∧ Below w.heap.size w wr) (fun c _ => 64 - (intOf c).toNat)
      case atStart =>
        exact ⟨16, by omega, by omega, rfl, h0, h1, hb⟩
      case round =>
        clear h0 h1 hb
        obtain ⟨i, hi0, hi1, rfl, h0, h1, hb⟩ := hrel
        have hlen := extW_len (wordsB s.data.toList 16) (i - 16)
        rw [hl16] at hlen
        have HL : Hid ((extW (wordsB s.data.toList 16) (i - 16)).length = 16 + (i - 16)) := hlen
        by_cases hlt : i < 64
        · generalize hl : extW (wordsB s.data.toList 16) (i - 16) = l at *
          have HE : Hid (extW (wordsB s.data.toList 16) (i - 16) = l) := hl
          clear hl
          obtain ⟨v, hc⟩ := row_cell_pad h1 i (by omega) (by omega)
          have hf := frozen_of_row wr _ i _ _ h1
          have c16 := row_cell h1 ((i : Int) - 16).toNat (by omega)
          have c15 := row_cell h1 ((i : Int) - 15).toNat (by omega)
          have c7 := row_cell h1 ((i : Int) - 7).toNat (by omega)
          have c2 := row_cell h1 ((i : Int) - 2).toNat (by omega)
          clear hlen
          have b0 : (16 : Int) ≤ (i : Int) := by omega
          have b1 : (i : Int) < 64 := by omega
          generalize e16 : l.getD ((i : Int) - 16).toNat 0 = x16 at c16
          generalize e15 : l.getD ((i : Int) - 15).toNat 0 = x15 at c15
          generalize e7 : l.getD ((i : Int) - 7).toNat 0 = x7 at c7
          generalize e2 : l.getD ((i : Int) - 2).toNat 0 = x2 at c2
          have E16 : Hid (l.getD ((i : Int) - 16).toNat 0 = x16) := e16
          have E15 : Hid (l.getD ((i : Int) - 15).toNat 0 = x15) := e15
          have E7 : Hid (l.getD ((i : Int) - 7).toNat 0 = x7) := e7
          have E2 : Hid (l.getD ((i : Int) - 2).toNat 0 = x2) := e2
          clear e16 e15 e7 e2
          have q16 : (16 : Int) ≤ (i : Int) := by omega
          have q15 : (15 : Int) ≤ (i : Int) := by omega
          have q7 : (7 : Int) ≤ (i : Int) := by omega
          have q2 : (2 : Int) ≤ (i : Int) := by omega
          have r16 : (i : Int) - 16 < 64 := by omega
          have r15 : (i : Int) - 15 < 64 := by omega
          have r7 : (i : Int) - 7 < 64 := by omega
          have r2 : (i : Int) - 2 < 64 := by omega
          have bb : (0 : Int) ≤ (i : Int) := by omega
          have w16 : IntKind.i64.wrap ((i : Int) - 16) = (i : Int) - 16 := by rw [IntKind.wrap_i64]; omega
          have w15 : IntKind.i64.wrap ((i : Int) - 15) = (i : Int) - 15 := by rw [IntKind.wrap_i64]; omega
          have w7 : IntKind.i64.wrap ((i : Int) - 7) = (i : Int) - 7 := by rw [IntKind.wrap_i64]; omega
          have w2 : IntKind.i64.wrap ((i : Int) - 2) = (i : Int) - 2 := by rw [IntKind.wrap_i64]; omega
          have n16 : ¬ ((i : Int) - 16).toNat = i := by omega
          have n15 : ¬ ((i : Int) - 15).toNat = i := by omega
          have n7 : ¬ ((i : Int) - 7).toNat = i := by omega
          have n2 : ¬ ((i : Int) - 2).toNat = i := by omega
          go_wp2_with fail
          go_region_held3 (fun w' => w'.cell? ⟨w.heap.size + 1, ((i : Int) - 16).toNat, none⟩ = some (.int .u32 (n32 x16)) ∧ w'.cell? ⟨w.heap.size + 1, ((i : Int) - 15).toNat, none⟩ = some (.int .u32 (n32 x15)) ∧ w'.cell? ⟨w.heap.size + 1, ((i : Int) - 7).toNat, none⟩ = some (.int .u32 (n32 x7)) ∧ w'.cell? ⟨w.heap.size + 1, ((i : Int) - 2).toNat, none⟩ = some (.int .u32 (n32 x2))) (simp [*, cell_set_off])
            (first | (go_at_call_of 104 x15; refine (shi_15 _ _).mono ?_; rintro e w' ⟨rfl, n, rfl⟩) | (go_at_call_of 104 x2; refine (shi_2 _ _).mono ?_; rintro e w' ⟨rfl, n, rfl⟩))
          go_wp2
          simp only [n32_add]
          go_roundw
          case rel => exact ⟨i + 1, by omega, by omega, by go_num, (heap_setCell_other _ _ _ _ (by simp)).trans h0, rel_ext (W := wr.drewN _) hl16 hi0 hlt HE.out E16.out E15.out E7.out E2.out h1, (below_drewN hb _).setCell (by simp) _⟩
          case measure => simp [intOf]; omega
        · obtain rfl : i = 64 := by omega
          have hlt' : ¬ ((64 : Nat) : Int) < 64 := by omega
          change wr.heap[w.heap.size + 1]? = some (.cells (rowA (schedB s.data.toList)) 126 (0, 0)) at h1
          have hls : (schedB s.data.toList).length = 64 := hlen
          clear hlen HL
          generalize hL : schedB s.data.toList = L at *
          have HLL : Hid (schedB s.data.toList = L) := hL
          clear hL
          go_wp2_with (first | (refine wpList_load_row rfl 126 _ rfl (w.heap.size + 1) rfl 126 _ (0, 0) _ h1 Tryd.underlying126 rfl (info39 L hls) ?_) | (refine wpList_store_mid rfl 126 _ _ rfl w.heap.size 0 _ rfl rfl (there39 h0 L hls) (info39 L hls) (rowA_one L) ?_))
          rw [HLL.out]
          exact bodyPost_ret (v := .agg (rowA L)) (results_cell_row Tryd.results91 _ _ w.heap.size 126 _ (0, 0) _ rfl (setCells_row h0 (by rw [rowA_size L (by omega), rowA_size [] (by simp)])) Tryd.underlying126 rfl (info39 L hls)) rfl ⟨rfl, below_setCells' (Nat.le_refl _) _ _ _ hb⟩
end Go.Proofs.YtaocbkloafhmeaaDoor
